/- The contract of the document's 'Load'. -/
import Derived.Test.YtieeibdhaoaeaaaLL
set_option linter.unusedVariables false
set_option linter.unusedSimpArgs false
namespace Go.Proofs.Ytieeibdhaoaeaaa
open Go.RowKit

def ldK (zs : List Int) (k : Nat) : Nat → Bk := fun j => if j < k then loadS zs j else zeroBk
theorem ldK_zero (zs : List Int) : ldK zs 0 = fun _ => zeroBk := by funext j; simp [ldK]
theorem ldK_next (zs : List Int) (k : Nat) : ldK zs (k + 1) = upd (ldK zs k) k ⟨uniS (zs.getD k 0), (ldK zs k k).v, (ldK zs k k).b⟩ := by
  funext j
  by_cases e : j = k
  · subst e; rw [upd_same]; simp [ldK, loadS, zeroBk]
  · rw [upd_other _ _ e]
    unfold ldK
    by_cases h : j < k
    · rw [if_pos h, if_pos (by omega)]
    · rw [if_neg h, if_neg (by omega)]
def RlS (w wr : World) (g gb cp : Nat) (zs : List Int) (A : Nat → Option Addr) (C : Nat → Nat) (k : Nat) : Prop :=
  RefAt wr g zs.length (ldK zs k) 0 gb cp A C ∧ (∀ b, footR g gb zs.length A b → w.heap.size ≤ b) ∧ Below w.heap.size w wr
theorem flatU_part (zs : List Int) {k : Nat} (hk : k < zs.length) {w : World} {b : Nat} (hr : w.rangeAt b 0 (bytesV (flatU zs))) : w.rangeAt b (k * 32) (bytesV (uniS (zs.getD k 0))) := by
  have hl := flatU_len zs
  intro j u hj
  have hj32 : j < 32 := by
    have := (List.getElem?_eq_some_iff.1 hj).1
    rw [length_bytesV] at this
    simpa [uniS] using this
  have := hr (k * 32 + j) u (by
    rw [← hj]
    unfold bytesV
    rw [List.getElem?_map, List.getElem?_map]
    congr 1
    have h1 : (flatU zs)[k * 32 + j]? = some (nth (flatU zs) (k * 32 + j)) := by rw [nth_lt (by omega)]; exact List.getElem?_eq_getElem (by omega)
    rw [h1, nth_flatU zs hk hj32, uniS, List.getElem?_replicate, if_pos hj32])
  rw [Nat.zero_add] at this
  exact this
set_option maxRecDepth 100000 in
set_option maxHeartbeats 1000000 in
theorem rload {zs : List Int} (h0 : 1 ≤ zs.length) (h1 : zs.length ≤ 96) (ha : ∀ z ∈ zs, 0 ≤ z ∧ z ≤ 255) (b cap : Nat) (w : World) (hr : w.rangeAt b 0 (bytesV (flatU zs))) (hb : b < w.heap.size) :
    Calls Try.prog 25 #[.slice (some ⟨b, 0, none⟩) zs.length cap] w fun e w' => ∃ g, e = .returned (.pointer (some ⟨g, 0, none⟩)) ∧ (∃ F, Ref w' g zs.length (loadS zs) 0 F ∧ ∀ b, F b → w.heap.size ≤ b) ∧ Below w.heap.size w w' := by
  obtain ⟨n, hn⟩ : ∃ n, n = zs.length := ⟨_, rfl⟩
  have N := Lib.hid (rnew n w (by omega) (by omega))
  have HR : Hid (∀ k (hk : k < n) W, Below w.heap.size w W → W.rangeAt b (k * 32) (bytesV (uniS (zs.getD k 0)))) := fun k hk W hB j u hj => by
    rw [World.cell?_of_block (a := ⟨b, k * 32 + j, none⟩) (hB.block b hb)]
    exact flatU_part zs (by omega) hr j u hj
  have HO : Hid (∀ k, k < n → OkS (uniS (zs.getD k 0))) := fun k hk => by
    have hk' : k < zs.length := by omega
    rw [List.getD_eq_getElem?_getD, List.getElem?_eq_getElem hk']
    exact uniS_ok (ha _ (List.getElem_mem hk'))
  have HE : Hid (∀ W g gb cp A C, RlS w W g gb cp zs A C n → ∃ F, Ref W g n (loadS zs) 0 F ∧ ∀ b, F b → w.heap.size ≤ b) := fun W g gb cp A C h => by
    rw [hn]
    exact ⟨_, ⟨gb, cp, A, C, h.1.congr (S' := loadS zs) (fun j hj => show (if j < n then loadS zs j else zeroBk) = loadS zs j from if_pos (by omega)), rfl⟩, h.2.1⟩
  have HNX : Hid (∀ W g gb cp A C k (cur : Array Value), k < n → RlS w W g gb cp zs A C k → W.heap[gb]? = some (.cells cur 93 (0, 0)) → RlS w (W.setRow gb (splice cur.toList (k * 34) (bytesV (uniS (zs.getD k 0)))).toArray) g gb cp zs A C (k + 1)) := fun W g gb cp A C k cur hk h hcur => by
    obtain ⟨q1, q2, q3⟩ := h
    have := q1.sec_ (i := k) (by omega) (HO.out k hk) hcur rfl
    rw [← ldK_next] at this
    exact ⟨this, q2, below_setRow q3 (q2 gb (.inr (.inl rfl))) _⟩
  have HF : Hid (∀ W g gb cp A C k, k < n → RlS w W g gb cp zs A C k → ∃ cur : Array Value, W.heap[gb]? = some (.cells cur 93 (0, 0)) ∧ k * 34 + 32 ≤ cur.size ∧ W.cell? ⟨g, 0, none⟩ = some (.slice (some ⟨gb, 0, none⟩) n cp)) := fun W g gb cp A C k hk h => by
    obtain ⟨q1, q2, q3⟩ := h
    have hc0 := q1.c0
    rw [← hn] at hc0
    have h1 := q1.row
    rcases h1.2 with ⟨q, _⟩ | ⟨x, cap, cur', q, _, hx', h2, _, h3, _⟩
    · cases q
    · obtain ⟨q, _, _⟩ := Value.slice.inj q
      cases q
      exact ⟨cur', hx', by rw [h3]; omega, hc0⟩
  have HLn : Hid (n ≤ 96) := by unfold Hid; omega
  have HS0 : Hid (∀ W, (∃ F, Ref W (w.heap.size + 1) n (fun _ => zeroBk) 0 F ∧ ∀ b, F b → w.heap.size ≤ b) → Below w.heap.size w W → ∃ gb cp A C, RlS w W (w.heap.size + 1) gb cp zs A C 0) := fun W h hB => by
    obtain ⟨F, ⟨gb, cp, A, C, q, rfl⟩, hF⟩ := h
    rw [hn] at q hF
    exact ⟨gb, cp, A, C, by rw [ldK_zero]; exact q, hF, hB⟩
  have hn96 := HLn.out
  rw [← hn]
  clear hr hb ha h0 h1 hn
  go_enter Try.func25, Try.ntmps25
  go_wp2_with fail
  refine N.out.mono ?_
  rintro e w1 ⟨rfl, hF, hB⟩
  obtain ⟨gb, cp, A, C, h1⟩ := HS0.out w1 hF hB
  obtain ⟨g, hg⟩ : ∃ g, g = w.heap.size + 1 := ⟨_, rfl⟩
  rw [← hg] at h1 ⊢
  have H1 := Lib.hid h1
  clear hF hB h1 hg
  go_wp2_with fail
  go_loopw [4] (fun i wr => ∃ k : Nat, k ≤ n ∧ i = .int .i64 k ∧ RlS w wr g gb cp zs A C k) (fun i _ => n - (intOf i).toNat)
  case atStart => exact ⟨0, Nat.zero_le _, rfl, H1.out⟩
  case round =>
    obtain ⟨k, hk, rfl, hR⟩ := hrel
    rename World => wr
    have HRl := Lib.hid hR
    clear hR
    by_cases hlt : k < n
    · have hlt' : (k : Int) < (n : Int) := by omega
      have hk0 : (0 : Int) ≤ (k : Int) := by omega
      have hwk : IntKind.i64.wrap ((k : Int) + 1) = (k : Int) + 1 := by simp [IntKind.wrap, IntKind.bits, IntKind.signed]; omega
      have HRd : Hid (RlS w wr.drew g gb cp zs A C k) := ⟨HRl.out.1.fresh ((Below.refl _ wr).drew), HRl.out.2.1, HRl.out.2.2.trans (((Below.refl _ wr).drew).mono HRl.out.2.2.size)⟩
      obtain ⟨cur, hcur, hfit, hc0⟩ := HF.out wr.drew g gb cp A C k hlt HRd.out
      have hl32 : (bytesV (uniS (zs.getD k 0))).length = 32 := by rw [length_bytesV]; exact (HO.out k hlt).1
      have HX0 : Hid (wr.drew.cell? ⟨g, 0, none⟩ = some (.slice (some ⟨gb, 0, none⟩) n cp) ∧ wr.drew.rangeAt b (k * 32) (bytesV (uniS (zs.getD k 0)))) := ⟨hc0, HR.out k hlt wr.drew HRd.out.2.2⟩
      have hszX : Hid ((Try.prog.info? 53).map (·.size) = some (bytesV (uniS (zs.getD k 0))).length) := by unfold Hid; rw [hl32]; exact size53
      have HX1 := Lib.hid (bytesV_one (uniS (zs.getD k 0)))
      have Hfit : Hid (k * 34 + (bytesV (uniS (zs.getD k 0))).length ≤ cur.size) := by unfold Hid; rw [hl32]; exact hfit
      have NXT : Hid (RlS w (wr.drew.setRow gb (splice cur.toList (k * 34) (bytesV (uniS (zs.getD k 0)))).toArray) g gb cp zs A C (k + 1)) := HNX.out _ _ _ _ _ _ k cur hlt HRd.out hcur
      have HX3 : Hid ((wr.drew.setRow gb (splice cur.toList (k * 34) (bytesV (uniS (zs.getD k 0)))).toArray).cell? ⟨g, 0, none⟩ = some (.slice (some ⟨gb, 0, none⟩) n cp) ∧ (wr.drew.setRow gb (splice cur.toList (k * 34) (bytesV (uniS (zs.getD k 0)))).toArray).rangeAt b (k * 32) (bytesV (uniS (zs.getD k 0)))) := by
        have := NXT.out.1.c0
        refine ⟨?_, HR.out k hlt _ NXT.out.2.2⟩
        rw [this]
        have e := HRd.out.1.c0
        rw [hc0] at e
        exact e.symm
      have HCur := Lib.hid hcur
      obtain ⟨X1, hX1⟩ : ∃ X1, X1 = bytesV (uniS (zs.getD k 0)) := ⟨_, rfl⟩
      rw [← hX1] at hszX HX1 Hfit NXT HX0 HX3
      clear hcur hfit hc0 hl32 hX1 HRd
      go_wp2_with fail
      refine wp_region_held_drew (S := (fun W => W.cell? ⟨g, 0, none⟩ = some (.slice (some ⟨gb, 0, none⟩) n cp) ∧ W.rangeAt b (k * 32) X1)) (by kernel_rfl) (HX0.out) (fun hHeld => ?_)
      refine takeH (i := 0) (some 18) (v := ?_) rfl rfl (by kernel_rfl) (by kernel_rfl) (by kernel_rfl) (fun _ _ _ h => h) (by rfl) ?_ (by assumption) ?_
      rotate_left
      · (intro w hSw; (try dsimp only at hSw); obtain ⟨hS1, hS2⟩ := hSw; go_simp; try with_reducible rfl)
      simp only [Act.put, List.setIfInBounds_toArray, List.set_cons_zero, List.set_cons_succ]
      refine takeH (i := 1) (some 19) (v := ?_) rfl rfl (by kernel_rfl) (by kernel_rfl) (by kernel_rfl) (fun _ _ _ h => h) (by rfl) ?_ (by assumption) ?_
      rotate_left
      · (intro w hSw; (try dsimp only at hSw); obtain ⟨hS1, hS2⟩ := hSw; go_simp; try with_reducible rfl)
      simp only [Act.put, List.setIfInBounds_toArray, List.set_cons_zero, List.set_cons_succ]
      refine takeH (i := 2) (some 20) (v := ?_) rfl rfl (by kernel_rfl) (by kernel_rfl) (by kernel_rfl) (fun _ _ _ h => h) (by rfl) ?_ (by assumption) ?_
      rotate_left
      · (intro w hSw; (try dsimp only at hSw); obtain ⟨hS1, hS2⟩ := hSw; go_simp; try with_reducible rfl)
      simp only [Act.put, List.setIfInBounds_toArray, List.set_cons_zero, List.set_cons_succ]
      refine takeH (i := 3) (some 21) (v := ?_) rfl rfl (by kernel_rfl) (by kernel_rfl) (by kernel_rfl) (fun _ _ _ h => h) (by rfl) ?_ (by assumption) ?_
      rotate_left
      · (intro w hSw; (try dsimp only at hSw); obtain ⟨hS1, hS2⟩ := hSw; go_simp; try with_reducible rfl)
      simp only [Act.put, List.setIfInBounds_toArray, List.set_cons_zero, List.set_cons_succ]
      refine takeH (i := 4) (some 22) (v := ?_) rfl rfl (by kernel_rfl) (by kernel_rfl) (by kernel_rfl) (fun _ _ _ h => h) (by rfl) ?_ (by assumption) ?_
      rotate_left
      · (intro w hSw; (try dsimp only at hSw); obtain ⟨hS1, hS2⟩ := hSw; go_simp; try with_reducible rfl)
      simp only [Act.put, List.setIfInBounds_toArray, List.set_cons_zero, List.set_cons_succ]
      refine takeH (i := 5) (some 23) (v := ?_) rfl rfl (by kernel_rfl) (by kernel_rfl) (by kernel_rfl) (fun _ _ _ h => h) (by rfl) ?_ (by assumption) ?_
      rotate_left
      · (intro w hSw; (try dsimp only at hSw); obtain ⟨hS1, hS2⟩ := hSw; go_simp; try with_reducible rfl)
      simp only [Act.put, List.setIfInBounds_toArray, List.set_cons_zero, List.set_cons_succ]
      refine takeH (i := 6) (some 24) (v := ?_) rfl rfl (by kernel_rfl) (by kernel_rfl) (by kernel_rfl) (fun _ _ _ h => h) (by rfl) ?_ (by assumption) ?_
      rotate_left
      · (intro w hSw; (try dsimp only at hSw); obtain ⟨hS1, hS2⟩ := hSw; go_simp; try with_reducible rfl)
      simp only [Act.put, List.setIfInBounds_toArray, List.set_cons_zero, List.set_cons_succ]
      refine takeH (i := 7) (some 25) (v := ?_) rfl rfl (by kernel_rfl) (by kernel_rfl) (by kernel_rfl) (fun _ _ _ h => h) (by rfl) ?_ (by assumption) ?_
      rotate_left
      · (intro w hSw; (try dsimp only at hSw); obtain ⟨hS1, hS2⟩ := hSw; go_simp; try with_reducible rfl)
      simp only [Act.put, List.setIfInBounds_toArray, List.set_cons_zero, List.set_cons_succ]
      refine takeH (i := 8) (some 26) (v := ?_) rfl rfl (by kernel_rfl) (by kernel_rfl) (by kernel_rfl) (fun _ _ _ h => h) (by rfl) ?_ (by assumption) ?_
      rotate_left
      · (intro w hSw; (try dsimp only at hSw); obtain ⟨hS1, hS2⟩ := hSw; (refine exec_mid 53 (.tmp 25) ?_ b (k * 32) ?_ X1 _ hS2 Try.underlying53 rfl hszX.out) <;> rfl)
      simp only [Act.put, List.setIfInBounds_toArray, List.set_cons_zero, List.set_cons_succ]
      refine takeH (i := 9) (some 27) (v := ?_) rfl rfl (by kernel_rfl) (by kernel_rfl) (by kernel_rfl) (fun _ _ _ h => h) (by rfl) ?_ (by assumption) ?_
      rotate_left
      · (intro w hSw; (try dsimp only at hSw); obtain ⟨hS1, hS2⟩ := hSw; go_simp; try with_reducible rfl)
      simp only [Act.put, List.setIfInBounds_toArray, List.set_cons_zero, List.set_cons_succ]
      refine takeH (i := 10) (some 28) (v := ?_) rfl rfl (by kernel_rfl) (by kernel_rfl) (by kernel_rfl) (fun _ _ _ h => h) (by rfl) ?_ (by assumption) ?_
      rotate_left
      · (intro w hSw; (try dsimp only at hSw); obtain ⟨hS1, hS2⟩ := hSw; go_simp; try with_reducible rfl)
      simp only [Act.put, List.setIfInBounds_toArray, List.set_cons_zero, List.set_cons_succ]
      refine wpAnyH_ready (rs := [11]) (by kernel_rfl) (by simp) ?_
      refine AllReadyH.cons rfl (fun K hK => ?_) AllReadyH.nil
      refine step_of rfl (wp_store_wide 53 (.tmp 28) (.tmp 26) rfl gb (k * 34) X1 rfl rfl cur 93 HCur.out Hfit.out hszX.out HX1.out _ rfl ?_)
      refine hK _ _ (HX3.out) (fun hHeld => ?_)
      clear hK K
      try simp only [Act.put, List.setIfInBounds_toArray, List.set_cons_zero, List.set_cons_succ]
      refine wpAnyH_done (by kernel_rfl) ?_ _
      go_wp2_with fail
      go_roundw
      case rel => exact ⟨k + 1, by omega, rfl, NXT.out⟩
      case measure => simp [intOf]; omega
    · obtain rfl : k = n := by omega
      have hnn : ¬ ((k : Int) < (k : Int)) := by omega
      go_wp2
      go_ret
      exact ⟨g, rfl, HE.out _ _ _ _ _ _ HRl.out, HRl.out.2.2⟩
theorem rload_bad (A : Option Addr) (len cap : Nat) (h : len < 1 ∨ 96 < len) (w : World) : Calls Try.prog 25 #[.slice A len cap] w fun e w' => e = .returned (.pointer none) ∧ w = w' := by
  have NB := Lib.hid (rnew_bad (len : Int) w (by omega))
  clear h
  go_enter Try.func25, Try.ntmps25
  go_wp2_with fail
  refine NB.out.mono ?_
  rintro e w' ⟨rfl, rfl⟩
  go_wp2_with fail
  go_loopw [4] (fun i wr => i = .int .i64 0 ∧ wr = w) (fun i _ => 0)
  case atStart => exact ⟨rfl, rfl⟩
  case round =>
    obtain ⟨rfl, rfl⟩ := hrel
    go_wp2
    go_ret
    exact ⟨rfl, rfl⟩
end Go.Proofs.Ytieeibdhaoaeaaa
