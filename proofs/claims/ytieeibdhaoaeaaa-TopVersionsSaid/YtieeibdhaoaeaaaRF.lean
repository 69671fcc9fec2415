/- Flush of the document's disk. -/
import Derived.Test.YtieeibdhaoaeaaaRE
set_option linter.unusedVariables false
set_option linter.unusedSimpArgs false
namespace Go.Proofs.Ytieeibdhaoaeaaa
open Go.RowKit

def flK (S : Nat → Bk) (k : Nat) : Nat → Bk := fun j => if j < k then (S j).flushed else S j
theorem flK_zero (S : Nat → Bk) : flK S 0 = S := by funext j; simp [flK]
theorem flK_now (S : Nat → Bk) (k : Nat) : flK S k k = S k := by simp [flK]
theorem flK_next (S : Nat → Bk) (k : Nat) : flK S (k + 1) = upd (flK S k) k (S k).flushed := by
  funext j
  by_cases e : j = k
  · subst e; rw [upd_same]; simp [flK]
  · rw [upd_other _ _ e]
    unfold flK
    by_cases h : j < k
    · rw [if_pos h, if_pos (by omega)]
    · rw [if_neg h, if_neg (by omega)]
theorem upd_upd (S : Nat → Bk) (i : Nat) (a b : Bk) : upd (upd S i a) i b = upd S i b := by
  funext j
  by_cases e : j = i
  · subst e; rw [upd_same, upd_same]
  · rw [upd_other _ _ e, upd_other _ _ e, upd_other _ _ e]
theorem RefAt.congr {w : World} {g n c gb cp : Nat} {S S' : Nat → Bk} {A : Nat → Option Addr} {C : Nat → Nat} (h : RefAt w g n S c gb cp A C) (e : ∀ j, j < n → S j = S' j) : RefAt w g n S' c gb cp A C := by
  refine ⟨h.hd, ?_, fun j hj => by rw [← e j hj]; exact h.vers j hj, fun j hj => by rw [← e j hj]; exact h.ok j hj, h.n1, h.n96, fun j hj => by rw [← e j hj]; exact h.few j hj, h.apart⟩
  rw [← blksL_congr (S := S) (S' := S') (A := A) (A' := A) (C := C) (C' := C) (fun j hj => ⟨e j (List.mem_range.1 hj), rfl, rfl⟩)]
  exact h.row
theorem okS_now {w : World} {g n c gb cp : Nat} {S : Nat → Bk} {A : Nat → Option Addr} {C : Nat → Nat} (h : RefAt w g n S c gb cp A C) {i : Nat} (hi : i < n) : OkS (S i).now := by
  unfold Bk.now
  cases e : (S i).v.getLast? with
  | none => exact (h.ok i hi).1
  | some x => exact (h.ok i hi).2 x (List.mem_of_getLast? e)
/-- a flush, a crash under way: the document's disk as S' -/
def RfS (w wr : World) (g n c gb cp : Nat) (S' : Nat → Bk) (A : Nat → Option Addr) : Prop :=
  ∃ A' C', RefAt wr g n S' c gb cp A' C' ∧ (∀ b, footR g gb n A' b → footR g gb n A b) ∧ Kept w wr (footR g gb n A)
/-- the end of a round: the sector is stored (or not), the versions are gone -/
theorem RfS.round {w w6 : World} {g n c gb cp : Nat} {S' : Nat → Bk} {A A' : Nat → Option Addr} {C' : Nat → Nat} {i : Nat} {s : List Int} (hi : i < n) (h6 : RefAt w6 g n (upd S' i ⟨s, (S' i).v, (S' i).b⟩) c gb cp A' C') (hsub : ∀ b, footR g gb n A' b → footR g gb n A b) (hK : Kept w w6 (footR g gb n A)) :
    RfS w (w6.setCell ⟨gb, i * 34 + 32, none⟩ (.slice none 0 0)) g n c gb cp (upd S' i ⟨s, [], (S' i).b⟩) A := by
  have ht := h6.turn hi (a' := none) (c' := 0) (c2 := c) (v' := []) (World.ownsRow_nil _ _ _ _) (fun x hx => by cases hx) (Nat.zero_le _) (Nat.le_refl _) (fun j _ _ b _ e => by cases e)
  rw [upd_same, upd_upd] at ht
  refine ⟨_, _, ht, ?_, hK.trans (Kept.grown (S := footR g gb n A) (setCell_grown _ _ _) (fun b e => by cases e; exact .inl (.inr (.inl rfl)))) (fun _ h => .inl h)⟩
  rintro b (q | q | ⟨j, hj, q⟩)
  · exact .inl q
  · exact .inr (.inl q)
  · by_cases e : j = i
    · subst e; simp [own] at q
    · simp only [if_neg e] at q
      exact hsub b (.inr (.inr ⟨j, hj, q⟩))
set_option maxRecDepth 100000 in
set_option linter.unusedSimpArgs false in
set_option maxHeartbeats 1000000 in
theorem rflush {w : World} {g n c : Nat} {S : Nat → Bk} {F : Nat → Prop} (h : Ref w g n S c F) (hc : c < 100000) :
    Calls Try.prog 44 #[.pointer (some ⟨g, 0, none⟩)] w fun e w' => e = .returned (.int .i64 0) ∧ Went w w' F (Ref w' g n (fun j => (S j).flushed) c) := by
  obtain ⟨gb, cp, A, C, h, rfl⟩ := h
  have HS0 : Hid (RfS w w g n c gb cp (flK S 0) A) := ⟨A, C, by rw [flK_zero]; exact h, fun _ x => x, Kept.refl _ _⟩
  have hn96 := h.n96
  have HH := Lib.hid h
  clear h
  go_enter Try.func44, Try.ntmps44
  go_wp2_with fail
  go_loopw [3] (fun i wr => ∃ k : Nat, k ≤ n ∧ i = .int .i64 k ∧ RfS w wr g n c gb cp (flK S k) A) (fun i _ => n - (intOf i).toNat)
  case atStart => exact ⟨0, Nat.zero_le _, rfl, HS0.out⟩
  case round =>
    obtain ⟨k, hk, rfl, hR⟩ := hrel
    rename World => wr
    have HR := Lib.hid hR
    obtain ⟨A', C', hA, hsub, hKp⟩ := hR
    have hc0 := hA.c0
    by_cases hlt : k < n
    · have hlt' : (k : Int) < (n : Int) := by omega
      have hk0 : (0 : Int) ≤ (k : Int) := by omega
      have hwk : IntKind.i64.wrap ((k : Int) + 1) = (k : Int) + 1 := by simp [IntKind.wrap, IntKind.bits, IntKind.signed]; omega
      have hnow := flK_now S k
      have hok := okS_now hA hlt
      rw [hnow] at hok
      obtain ⟨cur, hcur⟩ := hA.typed
      have HA := Lib.hid hA
      have hx := hok
      have hszX : Hid ((Try.prog.info? 53).map (·.size) = some (bytesV (S k).now).length) := by unfold Hid; rw [length_bytesV, hok.1]; exact size53
      have HX1 := Lib.hid (bytesV_one (S k).now)
      have Hfit : Hid (k * 34 + (bytesV (S k).now).length ≤ cur.size) := by
        have h1 := hA.row
        rcases h1.2 with ⟨q, _⟩ | ⟨x, cap, cur', q, _, hx', h2, _, h3, _⟩
        · cases q
        · obtain ⟨q, _, _⟩ := Value.slice.inj q
          cases q
          rw [hcur] at hx'
          simp at hx'
          subst hx'
          unfold Hid
          rw [length_bytesV, hok.1, h3]
          omega
      have RD : Hid (Calls Try.prog 35 #[.pointer (some ⟨g, 0, none⟩), .int .i64 (k : Int)] wr.drew fun e w' => e = .returned (.tuple #[.agg (bytesV (S k).now).toArray, .int .i64 0]) ∧ Below wr.drew.heap.size wr.drew w') := by
        have := rread (w := wr.drew) (F := footR g gb n A') ⟨gb, cp, A', C', hA.fresh ((Below.refl _ wr).drew), rfl⟩ hlt hc
        rw [hnow] at this
        exact this
      have ST : Hid (∀ w5, Below wr.drew.heap.size wr.drew w5 → w5.cell? ⟨g, 0, none⟩ = some (.slice (some ⟨gb, 0, none⟩) n cp) ∧ w5.heap[gb]? = some (.cells cur 93 (0, 0)) ∧
          ((w5.setRow gb (splice cur.toList (k * 34) (bytesV (S k).now)).toArray).cell? ⟨g, 0, none⟩ = some (.slice (some ⟨gb, 0, none⟩) n cp) ∧
           RefAt (w5.setRow gb (splice cur.toList (k * 34) (bytesV (S k).now)).toArray) g n (upd (flK S k) k ⟨(S k).now, (flK S k k).v, (flK S k k).b⟩) c gb cp A' C' ∧ Kept w (w5.setRow gb (splice cur.toList (k * 34) (bytesV (S k).now)).toArray) (footR g gb n A))) := by
        intro w5 hB
        have hB' : Below wr.heap.size wr w5 := ((Below.refl wr.heap.size wr).drew).trans hB
        have h5 := HA.out.fresh hB'
        have hc5 : w5.heap[gb]? = some (.cells cur 93 (0, 0)) := (hB'.block gb HA.out.blt).trans hcur
        have h6 := h5.sec_ hlt hx hc5 rfl
        refine ⟨h5.c0, hc5, h6.c0, h6, ?_⟩
        have k5 : Kept w w5 (footR g gb n A) := hKp.trans (Kept.fresh (S := footR g gb n A) hB') (fun _ h => .inl h)
        exact k5.trans (Kept.grown (S := footR g gb n A) (row := some gb) ⟨rfl, rfl, rfl, by simp [World.setRow], fun a _ hne => setRow_other w5 _ a _ (by intro e; subst e; exact hne rfl)⟩ (fun b e => by cases e; exact .inl (.inr (.inl rfl)))) (fun _ h => .inl h)
      have Hsub := Lib.hid hsub
      have Hnext : Hid (flK S (k + 1) = upd (flK S k) k ⟨(S k).now, [], (flK S k k).b⟩) := by unfold Hid; rw [flK_next, hnow]; rfl
      have HC0 : Hid (wr.drew.cell? ⟨g, 0, none⟩ = some (.slice (some ⟨gb, 0, none⟩) n cp)) := hc0
      obtain ⟨X1, hX1⟩ : ∃ X1, X1 = bytesV (S k).now := ⟨_, rfl⟩
      rw [← hX1] at hszX HX1 Hfit RD ST
      clear hA hsub hKp hok hx hcur hX1 hnow HR
      go_wp2_with fail
      refine wp_region_held_drew (S := (fun W => W.cell? ⟨g, 0, none⟩ = some (.slice (some ⟨gb, 0, none⟩) n cp))) (by kernel_rfl) (HC0.out) (fun hHeld => ?_)
      refine takeH (i := 0) (some 16) (v := ?_) rfl rfl (by kernel_rfl) (by kernel_rfl) (by kernel_rfl) (fun _ _ _ h => h) (by rfl) ?_ (by assumption) ?_
      rotate_left
      · (intro w hSw; (try dsimp only at hSw); go_simp; try with_reducible rfl)
      simp only [Act.put, List.setIfInBounds_toArray, List.set_cons_zero, List.set_cons_succ]
      refine takeH (i := 1) (some 17) (v := ?_) rfl rfl (by kernel_rfl) (by kernel_rfl) (by kernel_rfl) (fun _ _ _ h => h) (by rfl) ?_ (by assumption) ?_
      rotate_left
      · (intro w hSw; (try dsimp only at hSw); go_simp; try with_reducible rfl)
      simp only [Act.put, List.setIfInBounds_toArray, List.set_cons_zero, List.set_cons_succ]
      refine takeH (i := 2) (some 18) (v := ?_) rfl rfl (by kernel_rfl) (by kernel_rfl) (by kernel_rfl) (fun _ _ _ h => h) (by rfl) ?_ (by assumption) ?_
      rotate_left
      · (intro w hSw; (try dsimp only at hSw); go_simp; try with_reducible rfl)
      simp only [Act.put, List.setIfInBounds_toArray, List.set_cons_zero, List.set_cons_succ]
      refine takeH (i := 3) (some 19) (v := ?_) rfl rfl (by kernel_rfl) (by kernel_rfl) (by kernel_rfl) (fun _ _ _ h => h) (by rfl) ?_ (by assumption) ?_
      rotate_left
      · (intro w hSw; (try dsimp only at hSw); go_simp; try with_reducible rfl)
      simp only [Act.put, List.setIfInBounds_toArray, List.set_cons_zero, List.set_cons_succ]
      refine takeH (i := 4) (some 20) (v := ?_) rfl rfl (by kernel_rfl) (by kernel_rfl) (by kernel_rfl) (fun _ _ _ h => h) (by rfl) ?_ (by assumption) ?_
      rotate_left
      · (intro w hSw; (try dsimp only at hSw); go_simp; try with_reducible rfl)
      simp only [Act.put, List.setIfInBounds_toArray, List.set_cons_zero, List.set_cons_succ]
      refine takeH (i := 5) (some 21) (v := ?_) rfl rfl (by kernel_rfl) (by kernel_rfl) (by kernel_rfl) (fun _ _ _ h => h) (by rfl) ?_ (by assumption) ?_
      rotate_left
      · (intro w hSw; (try dsimp only at hSw); go_simp; try with_reducible rfl)
      simp only [Act.put, List.setIfInBounds_toArray, List.set_cons_zero, List.set_cons_succ]
      refine takeH (i := 6) (some 22) (v := ?_) rfl rfl (by kernel_rfl) (by kernel_rfl) (by kernel_rfl) (fun _ _ _ h => h) (by rfl) ?_ (by assumption) ?_
      rotate_left
      · (intro w hSw; (try dsimp only at hSw); go_simp; try with_reducible rfl)
      simp only [Act.put, List.setIfInBounds_toArray, List.set_cons_zero, List.set_cons_succ]
      refine wpAnyH_ready (rs := [7]) (by kernel_rfl) (by simp) ?_
      refine AllReadyH.cons rfl (fun K hK => ?_) AllReadyH.nil
      go_simp
      refine RD.out.mono ?_
      rintro e w5 ⟨rfl, hB5⟩
      obtain ⟨X6, Y6, Z6⟩ := ST.out w5 hB5
      have HX6 := Lib.hid X6
      have HY6 := Lib.hid Y6
      have HZ6 := Lib.hid Z6
      clear hB5 X6 Y6 Z6
      refine hK _ _ (HX6.out) (fun hHeld => ?_)
      clear hK K
      try simp only [Act.put, List.setIfInBounds_toArray, List.set_cons_zero, List.set_cons_succ]
      refine takeH (i := 8) (some 15) (v := ?_) rfl rfl (by kernel_rfl) (by kernel_rfl) (by kernel_rfl) (fun _ _ _ h => h) (by rfl) ?_ (by assumption) ?_
      rotate_left
      · (intro w hSw; (try dsimp only at hSw); go_simp; try with_reducible rfl)
      simp only [Act.put, List.setIfInBounds_toArray, List.set_cons_zero, List.set_cons_succ]
      refine takeH (i := 9) (some 24) (v := ?_) rfl rfl (by kernel_rfl) (by kernel_rfl) (by kernel_rfl) (fun _ _ _ h => h) (by rfl) ?_ (by assumption) ?_
      rotate_left
      · (intro w hSw; (try dsimp only at hSw); go_simp; try with_reducible rfl)
      simp only [Act.put, List.setIfInBounds_toArray, List.set_cons_zero, List.set_cons_succ]
      refine takeH (i := 10) (some 25) (v := ?_) rfl rfl (by kernel_rfl) (by kernel_rfl) (by kernel_rfl) (fun _ _ _ h => h) (by rfl) ?_ (by assumption) ?_
      rotate_left
      · (intro w hSw; (try dsimp only at hSw); go_simp; try with_reducible rfl)
      simp only [Act.put, List.setIfInBounds_toArray, List.set_cons_zero, List.set_cons_succ]
      refine takeH (i := 11) (some 26) (v := ?_) rfl rfl (by kernel_rfl) (by kernel_rfl) (by kernel_rfl) (fun _ _ _ h => h) (by rfl) ?_ (by assumption) ?_
      rotate_left
      · (intro w hSw; (try dsimp only at hSw); go_simp; try with_reducible rfl)
      simp only [Act.put, List.setIfInBounds_toArray, List.set_cons_zero, List.set_cons_succ]
      refine takeH (i := 12) (some 27) (v := ?_) rfl rfl (by kernel_rfl) (by kernel_rfl) (by kernel_rfl) (fun _ _ _ h => h) (by rfl) ?_ (by assumption) ?_
      rotate_left
      · (intro w hSw; (try dsimp only at hSw); go_simp; try with_reducible rfl)
      simp only [Act.put, List.setIfInBounds_toArray, List.set_cons_zero, List.set_cons_succ]
      refine wpAnyH_ready (rs := [13]) (by kernel_rfl) (by simp) ?_
      refine AllReadyH.cons rfl (fun K hK => ?_) AllReadyH.nil
      refine step_of rfl (wp_store_wide 53 (.tmp 27) (.tmp 24) rfl gb (k * 34) X1 rfl rfl cur 93 HY6.out Hfit.out hszX.out HX1.out _ rfl ?_)
      refine hK _ _ (HZ6.out.1) (fun hHeld => ?_)
      clear hK K
      try simp only [Act.put, List.setIfInBounds_toArray, List.set_cons_zero, List.set_cons_succ]
      refine wpAnyH_done (by kernel_rfl) ?_ _
      generalize hW6 : World.setRow w5 gb _ = w6 at HZ6 ⊢
      obtain ⟨c6, h6, k6⟩ := HZ6.out
      have v6 := h6.cv hlt
      rw [upd_same] at v6
      have f6 := h6.frz (k * 34 + 32)
      have H6 := Lib.hid h6
      have K6 := Lib.hid k6
      clear h6 k6 hW6 HZ6
      go_wp2
      go_roundw
      case rel => exact ⟨k + 1, by omega, rfl, by rw [Hnext.out]; exact RfS.round hlt H6.out Hsub.out K6.out⟩
      case measure => simp [intOf]; omega
    · obtain rfl : k = n := by omega
      have hnn : ¬ ((k : Int) < (k : Int)) := by omega
      clear hA hsub hKp
      go_wp2
      go_ret
      obtain ⟨A', C', hA, hsub, hKp⟩ := HR.out
      exact ⟨rfl, _, ⟨gb, cp, A', C', hA.congr (fun j hj => by simp [flK, hj]), rfl⟩, hKp, fun b hb => .inl (hsub b hb)⟩
end Go.Proofs.Ytieeibdhaoaeaaa
