/- The contract of 'Crash'. -/
import Derived.Test.YtieeibdhaoaeaaaKK
set_option linter.unusedVariables false
set_option linter.unusedSimpArgs false
namespace Go.Proofs.Ytieeibdhaoaeaaa
open Go.RowKit

section
variable {P : Program} {o : Oper} {w : World}
theorem exec_lookup {ev : Operand → Value} (m x : Operand) (t : TypeId) (ho : o.op = Op.lookup t m x false) (k e : TypeId) (K : Go.Maps.Keyed P k) (ht : P.underlying t = some (.map k e)) {z : Value} (hz : (zeroValue e).run P w = .ok z w) (b n : Nat) (D : DataW Value)
    (hm : ev m = .map (some b)) (hown : w.ownsMap P k RV b n D) (key : Value) (kl : Lit) (hx : ev x = key) (hkey : keyOf P k key = some kl) (v : Value) (hat : D.atKey kl (.held z) = .held v) : (execOp ev o).run P w = .ok (.value v) w := by
  obtain ⟨u, ps, hrun, hv⟩ := hown.lookup K ht hz (zd := .held z) (zp := []) rfl hkey
  have : u = v := by
    rw [hat] at hv
    simp [RV] at hv
    exact hv.1
  subst this
  simp [execOp, ho, hm, hx, hrun, Result.andThen]
end
/-- what a slice of picks holds, apart from the blocks F -/
def PickAt (w : World) (F : Nat → Prop) (P : Option Addr) (pick : List Int) : Prop := pick = [] ∨ ∃ b o, P = some ⟨b, o, none⟩ ∧ b < w.heap.size ∧ ¬ F b ∧ w.rangeAt b o (pick.map encZ)
/-- a crash under way -/
def CrS (w wr : World) (g n c : Nat) (S : Nat → Bk) (pick : List Int) (B : List Bool) (mb kk : Nat) (A : Nat → Option Addr) (k : Nat) : Prop :=
  ∃ L' D' V' A' C', CodeAt wr g n (crashK n S pick k) c L' B mb kk D' V' A' C' ∧ (∀ b, foot g n mb A' b → foot g n mb A b) ∧ Kept w wr (foot g n mb A)
theorem okS_unrun {V : List Run} (h : OkV V) {s : List Int} (hs : s ∈ unrun V) : OkS s := by
  obtain ⟨x, hx, hm⟩ := List.mem_flatMap.1 hs
  obtain rfl := (List.mem_replicate.1 hm).2
  exact ⟨(h x hx).1, (h x hx).2.1⟩
theorem pickAt_mem {l : List (List Int)} {p : Int} {s : List Int} (h : pickAt l p = some s) : s ∈ l := by
  unfold pickAt at h
  split at h
  · exact List.mem_of_getElem? h
  · cases h
set_option maxRecDepth 100000 in
set_option linter.unusedSimpArgs false in
set_option maxHeartbeats 1000000 in
theorem ccrash {w : World} {g n c : Nat} {S : Nat → Bk} {F : Nat → Prop} (h : Code w g n S c F) (hc : c < 100000) (pick : List Int) (hpw : ∀ x ∈ pick, -9223372036854775808 ≤ x ∧ x ≤ 9223372036854775807) (P : Option Addr) (pc : Nat) (hP : PickAt w F P pick) :
    Calls Try.prog 19 #[.pointer (some ⟨g, 0, none⟩), .slice P pick.length pc] w fun e w' => e = .returned (.int .i64 0) ∧ Went w w' F (Code w' g n (crashed n S pick) c) := by
  obtain ⟨L, B, mb, kk, D, V, A, C, h, rfl⟩ := h
  have hcm := h.disk.cmap
  have hgl := h.glt
  have hml := h.map.lt
  have H := Lib.hid h
  have HP := Lib.hid hP
  have hsz : Maps.size D ≤ 1000000 := by have := h.map.size_le; have := h.kc; omega
  have KA : Hid (∀ W, Calls Try.prog 40 #[.map (some mb)] W fun e w' => e = .returned (.func (.func 54) #[] #[.pointer (some ⟨W.heap.size, 0, none⟩)]) ∧ w' = W.alloc (.cells #[.map (some mb)] 78)) := fun W => keys_any mb W
  have SA : Hid (Calls Try.prog 39 #[.func (.func 54) #[] #[.pointer (some ⟨w.heap.size, 0, none⟩)]] (w.alloc (.cells #[.map (some mb)] 78)) fun e w' => ∃ q cq, e = .returned (.slice q (waits n S).length cq) ∧
      w'.ownsRow (w.heap.size + 1) 3 1 (.slice q (waits n S).length cq) (waits n S).length ((ks n S).map encZ) ∧ Below w.heap.size w w') := by
    refine (sorted_any mb kk D w h.map hsz).mono ?_
    rintro e w' ⟨v, ss, rfl, hp, hr, _, hB⟩
    have hs := h.keys_sorted hp
    have hlen : ss.length = (waits n S).length := by
      have := congrArg List.length hs
      rw [List.length_mergeSort] at this
      rw [this]; simp [ks]
    rw [hs, hlen, size_alloc1] at hr
    have hvf : ∃ q cq, v = .slice q (waits n S).length cq := by
      rcases hr.2 with ⟨e1, e2⟩ | ⟨a, b, c, e1, _⟩
      · exact ⟨none, 0, by rw [e1, e2]⟩
      · exact ⟨_, _, e1⟩
    obtain ⟨q, cq, rfl⟩ := hvf
    exact ⟨q, cq, rfl, hr, (below_alloc1 w _).trans (hB.mono (by rw [size_alloc1]; omega))⟩
  clear h hP
  go_enter Try.func19, Try.ntmps19
  go_wp2_with fail
  refine (KA.out _).mono ?_
  rintro e w1 ⟨rfl, rfl⟩
  go_wp2_with fail
  refine SA.out.mono ?_
  rintro e w2 ⟨q, cq, rfl, hrow, hB2⟩
  have HRow := Lib.hid hrow
  have B2 := Lib.hid hB2
  clear hrow hB2 hcm
  go_wp2_with fail
  have HM : Hid (∀ k, k ≤ (waits n S).length → k ≤ 100) := by
    intro k hk
    have h1 := H.out.n96
    have : (waits n S).length ≤ n := by
      unfold waits
      exact Nat.le_trans (List.length_filter_le _ _) (by simp)
    omega
  have HS0 : Hid (CrS w w2 g n c S pick B mb kk A 0) := ⟨L, D, V, A, C, by rw [crashK_zero]; exact H.out.fresh B2.out, fun _ x => x, Kept.fresh B2.out⟩
  have HKs : Hid (∀ wr, Kept w wr (foot g n mb A) → (∀ b, q = some b → wr.heap[b.block]? = w2.heap[b.block]?) → ∀ k (hk : k < (waits n S).length), ∃ rb, q = some ⟨rb, 0, none⟩ ∧ wr.cell? ⟨rb, k, none⟩ = some (.int .i64 ((waits n S)[k] : Int))) := by
    intro wr _ hq k hk
    obtain ⟨rb, cap, e, _, _⟩ := HRow.out.form (by omega)
    obtain ⟨rfl, _, _⟩ := Value.slice.inj e
    refine ⟨rb, rfl, ?_⟩
    rw [World.cell?_of_block (a := ⟨rb, k, none⟩) (show wr.heap[rb]? = w2.heap[rb]? from hq ⟨rb, 0, none⟩ rfl), HRow.out.cellAt k (by omega), List.getElem?_map]
    simp [ks, hk]
  have HQ : Hid (∀ b, q = some b → w.heap.size < b.block ∧ b.block < w2.heap.size) := by
    rintro b rfl
    have := HRow.out.lt b.block rfl
    exact ⟨by omega, this.2⟩
  have hgl' := Lib.hid hgl
  have hml' := Lib.hid hml
  clear hgl hml
  go_loopw [18] (fun i wr => ∃ k : Nat, k ≤ (waits n S).length ∧ i = .int .i64 k ∧ CrS w wr g n c S pick B mb kk A k ∧ w2.heap.size ≤ wr.heap.size ∧ ∀ b, q = some b → wr.heap[b.block]? = w2.heap[b.block]?) (fun i _ => (waits n S).length - (intOf i).toNat)
  case atStart => exact ⟨0, Nat.zero_le _, rfl, HS0.out, Nat.le_refl _, fun _ _ => rfl⟩
  case round =>
    obtain ⟨k, hk, rfl, hCr, hwr2, hqr⟩ := hrel
    rename World => wr
    have CR := Lib.hid hCr
    have QR := Lib.hid hqr
    clear hCr hqr
    by_cases hlt : k < (waits n S).length
    · obtain ⟨L', D', V', A', C', hCA, hsub, hKp⟩ := CR.out
      have hlt' : (k : Int) < ((waits n S).length : Int) := by omega
      have hk0 : (0 : Int) ≤ (k : Int) := by omega
      have hk1 := HM.out k hk
      have hwk : IntKind.i64.wrap ((k : Int) + 1) = (k : Int) + 1 := by simp [IntKind.wrap, IntKind.bits, IntKind.signed]; omega
      obtain ⟨rb, hq, hcell⟩ := HKs.out wr hKp QR.out k hlt
      obtain ⟨i, hie⟩ : ∃ i, i = (waits n S)[k] := ⟨_, rfl⟩
      have hmem : i ∈ waits n S := by rw [hie]; exact List.getElem_mem hlt
      have hi := (mem_waits.1 hmem).1
      have hnow : crashK n S pick k i = S i := by rw [hie]; exact crashK_now n S pick hlt
      have hnext : crashK n S pick (k + 1) = upd (crashK n S pick k) i ((S i).left pick[k]?) := by rw [hie]; exact crashK_next n S pick hlt
      rw [← hie] at hcell
      have hi96 : i < 96 := by have := hCA.n96; omega
      have hii0 : (0 : Int) ≤ (i : Int) := by omega
      have hii1 : (i : Int) < 96 := by omega
      have hcm := hCA.disk.cmap
      have Hkey := Lib.hid (key3 hi96)
      have Hat := Lib.hid (hCA.at_nil hi)
      have HCA := Lib.hid hCA
      have Hsub := Lib.hid hsub
      have HKp := Lib.hid hKp
      have hgr : Hid (g < wr.heap.size) := hCA.glt
      have hver := hCA.ver i hi
      rw [hnow] at hver
      -- the end of a round
      have CLO : Hid (∀ (s' : List Int), s' = ((pick[k]?).bind (pickAt (S i).v)).getD (S i).s → ∀ w8 L'', Kept wr w8 (fun b => b = g) → DiskAt w8 g n L'' B mb → (∀ j, j < n → sec L'' j = if j = i then s' else sec L' j) →
          w8.cell? ⟨g, 3169, none⟩ = some (.map (some mb)) ∧ w8.ownsMap Try.prog 3 RV mb kk D' ∧
          ∀ w9, w9.ownsMap Try.prog 3 RV mb kk (D'.del (.int .i64 (i : Int))) → w8.mapTurned w9 mb → CrS w w9 g n c S pick B mb kk A (k + 1) ∧ w2.heap.size ≤ w9.heap.size ∧ ∀ b, q = some b → w9.heap[b.block]? = w2.heap[b.block]?) := by
        intro s' hs' w8 L'' hK8 hd8 hsec8
        have hgm := HCA.out.gm
        refine ⟨hd8.cmap, hK8.map HCA.out.map (Ne.symm hgm), fun w9 hm9 ht => ?_⟩
        have hK9 : Kept wr w9 (fun b => b = g ∨ b = mb) := (hK8.more (fun b h => .inl (.inl h))).trans (Kept.grown (S := fun b => b = g ∨ b = mb) ht.grown (fun b e => by cases e; exact .inl (.inr rfl))) (fun _ h => .inl h)
        have hd9 : DiskAt w9 g n L'' B mb := ⟨(ht.grown.block g hd8.blk.lt (by simpa using hgm)).trans hd8.blk, hd8.lo, hd8.hi, hd8.lenL, hd8.lenB, hd8.allL⟩
        obtain ⟨hA9, hf9⟩ := HCA.out.drop hi hd9 hsec8 hm9 hK9
        have hS9 : upd (crashK n S pick k) i ⟨s', [], (crashK n S pick k i).b⟩ = crashK n S pick (k + 1) := by rw [hnext, hnow, hs']; rfl
        rw [hS9] at hA9
        refine ⟨⟨_, _, _, _, _, hA9, fun b hb => Hsub.out b (hf9 b hb), HKp.out.trans hK9 (fun b hb => .inl ?_)⟩, Nat.le_trans hwr2 hK9.size, fun b hb => ?_⟩
        · rcases hb with hb | hb
          · exact .inl hb
          · exact .inr (.inl hb)
        · rw [← QR.out b hb]
          have h1 := HQ.out b hb
          refine hK9.block _ (by omega) ?_
          have := hgl'.out
          have := hml'.out
          rintro (e | e) <;> omega
      have hcw := hCA.disk
      have HDisk := Lib.hid hcw
      have hsL : sec L' i = (S i).s := by have := hCA.sec i hi; rw [hnow] at this; exact this
      have HsL := Lib.hid hsL
      have hrowI := hCA.row i hi
      have hokI := hCA.ok i hi
      have hfewI := hCA.few i hi
      rw [hnow] at hfewI
      by_cases hkp : k < pick.length
      · obtain ⟨p, hp⟩ : ∃ p, p = pick[k] := ⟨_, rfl⟩
        have hpk : pick[k]? = some p := by rw [hp]; exact List.getElem?_eq_getElem hkp
        have hpb := hpw p (by rw [hp]; exact List.getElem_mem hkp)
        have hkp' : (k : Int) < (pick.length : Int) := by omega
        obtain ⟨pb, po, hPe, hpbl, hpF, hpR⟩ : ∃ b o, P = some ⟨b, o, none⟩ ∧ b < w.heap.size ∧ ¬ foot g n mb A b ∧ w.rangeAt b o (pick.map encZ) := by
          rcases HP.out with e | e
          · rw [e] at hkp; simp at hkp
          · exact e
        have hpc : wr.cell? ⟨pb, po + k, none⟩ = some (.int .i64 p) := by
          rw [hKp.cell (a := ⟨pb, po + k, none⟩) hpbl hpF]
          exact hpR k _ (by rw [List.getElem?_map, hpk]; rfl)
        have hpbr : pb < wr.heap.size := Nat.lt_of_lt_of_le hpbl hKp.size
        have HS7 : Hid (∀ W, Below wr.heap.size wr W → W.cell? ⟨g, 3169, none⟩ = some (.map (some mb)) ∧ W.ownsMap Try.prog 3 RV mb kk D' ∧ W.cell? ⟨pb, po + k, none⟩ = some (.int .i64 p)) := fun W hB =>
          ⟨(World.cell?_of_block (hB.block g hgr.out)).trans hcm, (Kept.fresh (S := fun _ => False) hB).map HCA.out.map (fun x => x), (World.cell?_of_block (hB.block pb hpbr)).trans hpc⟩
        obtain ⟨o, ho⟩ : ∃ o, o = pickAt (S i).v p := ⟨_, rfl⟩
        have hleft : ((pick[k]?).bind (pickAt (S i).v)).getD (S i).s = o.getD (S i).s := by rw [hpk, ho]; rfl
        rw [hleft] at CLO
        have VER0 : ∀ W, Below wr.heap.size wr W → Calls Try.prog 41 #[.slice (A' i) (V' i).length (C' i), .int .i64 p] W fun e w' => e = .returned (pickV o) ∧ Below W.heap.size W w' := fun W hB => by
          have := version_any p hpb W (A' i) (C' i) (V' i) ((Kept.fresh (S := fun _ => False) hB).row hrowI (fun _ _ x => x)) hokI (by rw [hver]; omega)
          rw [hver, ← ho] at this
          exact this
        have hoS : ∀ x, o = some x → OkS x := fun x hx => by
          rw [ho] at hx
          have := pickAt_mem hx
          rw [← hver] at this
          exact okS_unrun hokI this
        subst hPe
        subst hq
        clear hCA hsub hKp hcm hver hcw hsL hrowI hokI hfewI hp hpk hpb hpR hpc hleft ho hnow hnext hmem hie hpF hpbl hpbr
        cases o with
        | none =>
          have VER : Hid (∀ W, Below wr.heap.size wr W → Calls Try.prog 41 #[.slice (A' i) (V' i).length (C' i), .int .i64 p] W fun e w' => e = .returned (.tuple #[.agg (bytesV noSec).toArray, .bool false]) ∧ Below W.heap.size W w') := VER0
          have hszX : Hid ((Try.prog.info? 36).map (·.size) = some (bytesV noSec).toArray.size) := by unfold Hid; rw [List.size_toArray, length_bytesV, noSec_len]; exact size36
          have honeX : Hid ((bytesV noSec).toArray.all (·.oneCell') = true) := all_oneCell_toArray (bytesV_one _)
          have HZ0 : Hid ((bytesV (List.replicate 32 0)).toArray.size = (bytesV noSec).toArray.size) := rfl
          obtain ⟨X0, hX0⟩ : ∃ X0, X0 = (bytesV noSec).toArray := ⟨_, rfl⟩
          rw [← hX0] at VER hszX honeX HZ0
          have NO : Hid (∀ w7, Kept wr w7 (fun b => b = g ∧ False) → w7.cell? ⟨g, 3169, none⟩ = some (.map (some mb)) ∧ w7.ownsMap Try.prog 3 RV mb kk D' ∧
              ∀ w9, w9.ownsMap Try.prog 3 RV mb kk (D'.del (.int .i64 (i : Int))) → w7.mapTurned w9 mb → CrS w w9 g n c S pick B mb kk A (k + 1) ∧ w2.heap.size ≤ w9.heap.size ∧ ∀ b, some (⟨rb, 0, none⟩ : Addr) = some b → w9.heap[b.block]? = w2.heap[b.block]?) := fun w7 hK7 =>
            CLO.out (S i).s rfl w7 L' (hK7.more (fun b h => h.2.elim)) ⟨hK7.blk HDisk.out.blk (fun h => h.2), HDisk.out.lo, HDisk.out.hi, HDisk.out.lenL, HDisk.out.lenB, HDisk.out.allL⟩ (fun j hj => by
              by_cases e : j = i
              · subst e; rw [if_pos rfl]; exact HsL.out
              · rw [if_neg e])
          clear VER0 hoS hX0 CLO
          go_wp2_with fail
          refine wp_region_held_drew (S := (fun W => W.cell? ⟨g, 3169, none⟩ = some (.map (some mb)) ∧ W.ownsMap Try.prog 3 RV mb kk D' ∧ W.cell? ⟨pb, po + k, none⟩ = some (.int .i64 p))) (by kernel_rfl) (HS7.out _ (Below.refl _ _).drew) (fun hHeld => ?_)
          refine takeH (i := 0) (some 28) (v := ?_) rfl rfl (by kernel_rfl) (by kernel_rfl) (by kernel_rfl) (fun _ _ _ h => h) (by rfl) ?_ (by assumption) ?_
          rotate_left
          · (intro w hSw; (try dsimp only at hSw); obtain ⟨hS1, hS2, hS3⟩ := hSw; go_simp; try with_reducible rfl)
          simp only [Act.put, List.setIfInBounds_toArray, List.set_cons_zero, List.set_cons_succ]
          refine takeH (i := 1) (some 29) (v := ?_) rfl rfl (by kernel_rfl) (by kernel_rfl) (by kernel_rfl) (fun _ _ _ h => h) (by rfl) ?_ (by assumption) ?_
          rotate_left
          · (intro w hSw; (try dsimp only at hSw); obtain ⟨hS1, hS2, hS3⟩ := hSw; go_simp; try with_reducible rfl)
          simp only [Act.put, List.setIfInBounds_toArray, List.set_cons_zero, List.set_cons_succ]
          refine takeH (i := 2) (some 30) (v := ?_) rfl rfl (by kernel_rfl) (by kernel_rfl) (by kernel_rfl) (fun _ _ _ h => h) (by rfl) ?_ (by assumption) ?_
          rotate_left
          · (intro w hSw; (try dsimp only at hSw); obtain ⟨hS1, hS2, hS3⟩ := hSw; go_simp; try with_reducible rfl)
          simp only [Act.put, List.setIfInBounds_toArray, List.set_cons_zero, List.set_cons_succ]
          refine takeH (i := 3) (some 31) (v := ?_) rfl rfl (by kernel_rfl) (by kernel_rfl) (by kernel_rfl) (fun _ _ _ h => h) (by rfl) ?_ (by assumption) ?_
          rotate_left
          · (intro w hSw; (try dsimp only at hSw); obtain ⟨hS1, hS2, hS3⟩ := hSw; go_simp; try with_reducible rfl)
          simp only [Act.put, List.setIfInBounds_toArray, List.set_cons_zero, List.set_cons_succ]
          refine takeH (i := 4) (some 32) (v := ?_) rfl rfl (by kernel_rfl) (by kernel_rfl) (by kernel_rfl) (fun _ _ _ h => h) (by rfl) ?_ (by assumption) ?_
          rotate_left
          · (intro w hSw; (try dsimp only at hSw); obtain ⟨hS1, hS2, hS3⟩ := hSw; go_simp; try with_reducible rfl)
          simp only [Act.put, List.setIfInBounds_toArray, List.set_cons_zero, List.set_cons_succ]
          refine takeH (i := 5) (some 33) (v := ?_) rfl rfl (by kernel_rfl) (by kernel_rfl) (by kernel_rfl) (fun _ _ _ h => h) (by rfl) ?_ (by assumption) ?_
          rotate_left
          · (intro w hSw; obtain ⟨hS1, hS2, hS3⟩ := hSw; (refine exec_lookup (.tmp 31) (.tmp 32) 78 ?_ 3 81 law3 Try.underlying78 (zero81 _) mb kk D' ?_ hS2 _ _ ?_ Hkey.out (.slice (A' i) (V' i).length (C' i)) Hat.out) <;> rfl)
          simp only [Act.put, List.setIfInBounds_toArray, List.set_cons_zero, List.set_cons_succ]
          refine takeH (i := 6) (some 34) (v := ?_) rfl rfl (by kernel_rfl) (by kernel_rfl) (by kernel_rfl) (fun _ _ _ h => h) (by rfl) ?_ (by assumption) ?_
          rotate_left
          · (intro w hSw; (try dsimp only at hSw); obtain ⟨hS1, hS2, hS3⟩ := hSw; go_simp; try with_reducible rfl)
          simp only [Act.put, List.setIfInBounds_toArray, List.set_cons_zero, List.set_cons_succ]
          refine takeH (i := 7) (some 35) (v := ?_) rfl rfl (by kernel_rfl) (by kernel_rfl) (by kernel_rfl) (fun _ _ _ h => h) (by rfl) ?_ (by assumption) ?_
          rotate_left
          · (intro w hSw; (try dsimp only at hSw); obtain ⟨hS1, hS2, hS3⟩ := hSw; go_simp; try with_reducible rfl)
          simp only [Act.put, List.setIfInBounds_toArray, List.set_cons_zero, List.set_cons_succ]
          refine takeH (i := 8) (some 36) (v := ?_) rfl rfl (by kernel_rfl) (by kernel_rfl) (by kernel_rfl) (fun _ _ _ h => h) (by rfl) ?_ (by assumption) ?_
          rotate_left
          · (intro w hSw; (try dsimp only at hSw); obtain ⟨hS1, hS2, hS3⟩ := hSw; go_simp; try with_reducible rfl)
          simp only [Act.put, List.setIfInBounds_toArray, List.set_cons_zero, List.set_cons_succ]
          refine takeH (i := 9) (some 37) (v := ?_) rfl rfl (by kernel_rfl) (by kernel_rfl) (by kernel_rfl) (fun _ _ _ h => h) (by rfl) ?_ (by assumption) ?_
          rotate_left
          · (intro w hSw; (try dsimp only at hSw); obtain ⟨hS1, hS2, hS3⟩ := hSw; go_simp; try with_reducible rfl)
          simp only [Act.put, List.setIfInBounds_toArray, List.set_cons_zero, List.set_cons_succ]
          refine wpAnyH_ready (rs := [10, 14]) (by kernel_rfl) (by simp) ?_
          refine AllReadyH.cons rfl (fun K hK => ?_) (AllReadyH.cons rfl (fun K hK => ?_) AllReadyH.nil)
          · have WB : Hid (Below wr.heap.size wr wr.drew) := (Below.refl _ _).drew
            go_simp
            refine (VER.out _ WB.out).mono ?_
            rintro e w5 ⟨rfl, hB5⟩
            have B5 : Hid (Below wr.heap.size wr w5) := WB.out.trans (hB5.mono WB.out.size)
            clear hB5
            refine hK _ _ (HS7.out _ B5.out) (fun hHeld => ?_)
            clear hK K
            try simp only [Act.put, List.setIfInBounds_toArray, List.set_cons_zero, List.set_cons_succ]
            refine takeH (i := 11) (some 27) (v := ?_) rfl rfl (by kernel_rfl) (by kernel_rfl) (by kernel_rfl) (fun _ _ _ h => h) (by rfl) ?_ (by assumption) ?_
            rotate_left
            · (intro w hSw; (try dsimp only at hSw); obtain ⟨hS1, hS2, hS3⟩ := hSw; go_simp; try with_reducible rfl)
            simp only [Act.put, List.setIfInBounds_toArray, List.set_cons_zero, List.set_cons_succ]
            refine takeH (i := 12) (some 39) (v := ?_) rfl rfl (by kernel_rfl) (by kernel_rfl) (by kernel_rfl) (fun _ _ _ h => h) (by rfl) ?_ (by assumption) ?_
            rotate_left
            · (intro w hSw; (try dsimp only at hSw); obtain ⟨hS1, hS2, hS3⟩ := hSw; go_simp; try with_reducible rfl)
            simp only [Act.put, List.setIfInBounds_toArray, List.set_cons_zero, List.set_cons_succ]
            refine takeH (i := 13) (some 40) (v := ?_) rfl rfl (by kernel_rfl) (by kernel_rfl) (by kernel_rfl) (fun _ _ _ h => h) (by rfl) ?_ (by assumption) ?_
            rotate_left
            · (intro w hSw; (try dsimp only at hSw); obtain ⟨hS1, hS2, hS3⟩ := hSw; go_simp; try with_reducible rfl)
            simp only [Act.put, List.setIfInBounds_toArray, List.set_cons_zero, List.set_cons_succ]
            refine wpAnyH_ready (rs := [14]) (by kernel_rfl) (by simp) ?_
            refine AllReadyH.cons rfl (fun K hK => ?_) AllReadyH.nil
            go_simp
            refine hK _ _ (HS7.out _ (B5.out.alloc B5.out.size _)) (fun hHeld => ?_)
            clear hK K
            try simp only [Act.put, List.setIfInBounds_toArray, List.set_cons_zero, List.set_cons_succ]
            obtain ⟨nb, hnb⟩ : ∃ nb, nb = w5.heap.size := ⟨_, rfl⟩
            rw [← hnb]
            obtain ⟨ZZ, hZZ⟩ : ∃ ZZ, ZZ = (bytesV (List.replicate 32 0)).toArray := ⟨_, rfl⟩
            generalize hW6 : w5.alloc (Obj.cells _ 36) = w6
            have HZb : Hid (w6.heap[nb]? = some (.cells ZZ 36 (0, 0))) := by rw [← hW6, hZZ, hnb]; exact heap_alloc_new w5 _
            have HZs : Hid (ZZ.size = X0.size) := by rw [hZZ]; exact HZ0.out
            have hnbg : Hid (nb ≠ g) := by have := B5.out.size; have := hgr.out; unfold Hid; omega
            have hnbw : Hid (wr.heap.size ≤ nb) := by rw [hnb]; exact B5.out.size
            have B6 : Hid (Below wr.heap.size wr w6) := by rw [← hW6]; exact B5.out.alloc B5.out.size _
            have KS : Hid (Kept wr (w6.setRow nb X0) (fun b => b = g ∧ False)) := Kept.fresh (below_setRow B6.out hnbw.out _)
            have HSS : Hid ((fun W : World => W.cell? ⟨g, 3169, none⟩ = some (.map (some mb)) ∧ W.ownsMap Try.prog 3 RV mb kk D' ∧ W.cell? ⟨pb, po + k, none⟩ = some (.int .i64 p)) (w6.setRow nb X0)) := HS7.out _ (below_setRow B6.out hnbw.out _)
            clear hnb hZZ hW6
            refine wpAnyH_ready (rs := [15]) (by kernel_rfl) (by simp) ?_
            refine AllReadyH.cons rfl (fun K hK => ?_) AllReadyH.nil
            refine step_of rfl (wp_store_row 36 (.tmp 7) (.tmp 39) rfl nb X0 rfl rfl 36 ZZ HZb.out hszX.out HZs.out honeX.out ?_)
            refine hK _ _ (HSS.out) (fun hHeld => ?_)
            clear hK K
            try simp only [Act.put, List.setIfInBounds_toArray, List.set_cons_zero, List.set_cons_succ]
            refine takeH (i := 16) (some 8) (v := ?_) rfl rfl (by kernel_rfl) (by kernel_rfl) (by kernel_rfl) (fun _ _ _ h => h) (by rfl) ?_ (by assumption) ?_
            rotate_left
            · (intro w hSw; (try dsimp only at hSw); obtain ⟨hS1, hS2, hS3⟩ := hSw; go_simp; try with_reducible rfl)
            simp only [Act.put, List.setIfInBounds_toArray, List.set_cons_zero, List.set_cons_succ]
            refine wpAnyH_done (by kernel_rfl) ?_ _
            clear HSS WB B5 B6
            generalize hW7 : World.setRow _ nb X0 = w7
            have K7 : Hid (Kept wr w7 (fun b => b = g ∧ False)) := by rw [← hW7]; exact KS.out
            have b7 : Hid (w7.heap[nb]? = some (.cells X0 36 (0, 0))) := by rw [← hW7]; exact setRow_heap _ _ _ _ _ _ HZb.out
            clear hW7
            have F8 := Lib.hid (NO.out w7 K7.out)
            obtain ⟨c8, hm8, hcl8⟩ := F8.out
            have M8 := Lib.hid hm8
            have CL8 := Lib.hid hcl8
            clear hm8 hcl8 F8
            go_wp2_with (at_delete; refine wpList_delete_own _ rfl _ _ 78 3 rfl 81 law3 Try.underlying78 _ mb kk D' rfl M8.out _ _ rfl Hkey.out ?_; intro w9 hm9 hturn; go_frame)
            go_roundw
            case rel => exact ⟨k + 1, by omega, rfl, CL8.out w9 hm9 hturn⟩
            case measure => simp [intOf]; omega
          · go_simp
            obtain ⟨nb, hnb⟩ : ∃ nb, nb = wr.heap.size := ⟨_, rfl⟩
            obtain ⟨ZZ, hZZ⟩ : ∃ ZZ, ZZ = (bytesV (List.replicate 32 0)).toArray := ⟨_, rfl⟩
            generalize hw4 : World.drew (World.alloc wr (Obj.cells _ 36)) = w4
            have WB : Hid (Below wr.heap.size wr w4) := by rw [← hw4]; exact ((Below.refl _ _).alloc (Nat.le_refl _) _).drew
            have b4 : Hid (w4.heap[nb]? = some (.cells ZZ 36 (0, 0))) := by rw [← hw4, hZZ, hnb]; exact heap_alloc_new wr _
            have s4 : Hid (nb < w4.heap.size) := (Array.getElem?_eq_some_iff.1 b4.out).1
            have HZs : Hid (ZZ.size = X0.size) := by rw [hZZ]; exact HZ0.out
            have hnbg : Hid (nb ≠ g) := by have := hgr.out; unfold Hid; omega
            have hnbw : Hid (wr.heap.size ≤ nb) := by unfold Hid; omega
            have hnbe : wr.drew.heap.size = nb := hnb.symm
            first | rw [hnbe] | rw [← hnb] | skip
            clear hnb hZZ hw4 hnbe
            refine hK _ _ (HS7.out _ WB.out) (fun hHeld => ?_)
            clear hK K
            try simp only [Act.put, List.setIfInBounds_toArray, List.set_cons_zero, List.set_cons_succ]
            refine wpAnyH_ready (rs := [10]) (by kernel_rfl) (by simp) ?_
            refine AllReadyH.cons rfl (fun K hK => ?_) AllReadyH.nil
            go_simp
            refine (VER.out _ WB.out).mono ?_
            rintro e w5 ⟨rfl, hB5⟩
            have B5 : Hid (Below wr.heap.size wr w5) := WB.out.trans (hB5.mono WB.out.size)
            have HZb : Hid (w5.heap[nb]? = some (.cells ZZ 36 (0, 0))) := (hB5.block nb s4.out).trans b4.out
            clear hB5
            refine hK _ _ (HS7.out _ B5.out) (fun hHeld => ?_)
            clear hK K
            try simp only [Act.put, List.setIfInBounds_toArray, List.set_cons_zero, List.set_cons_succ]
            refine takeH (i := 11) (some 27) (v := ?_) rfl rfl (by kernel_rfl) (by kernel_rfl) (by kernel_rfl) (fun _ _ _ h => h) (by rfl) ?_ (by assumption) ?_
            rotate_left
            · (intro w hSw; (try dsimp only at hSw); obtain ⟨hS1, hS2, hS3⟩ := hSw; go_simp; try with_reducible rfl)
            simp only [Act.put, List.setIfInBounds_toArray, List.set_cons_zero, List.set_cons_succ]
            refine takeH (i := 12) (some 39) (v := ?_) rfl rfl (by kernel_rfl) (by kernel_rfl) (by kernel_rfl) (fun _ _ _ h => h) (by rfl) ?_ (by assumption) ?_
            rotate_left
            · (intro w hSw; (try dsimp only at hSw); obtain ⟨hS1, hS2, hS3⟩ := hSw; go_simp; try with_reducible rfl)
            simp only [Act.put, List.setIfInBounds_toArray, List.set_cons_zero, List.set_cons_succ]
            refine takeH (i := 13) (some 40) (v := ?_) rfl rfl (by kernel_rfl) (by kernel_rfl) (by kernel_rfl) (fun _ _ _ h => h) (by rfl) ?_ (by assumption) ?_
            rotate_left
            · (intro w hSw; (try dsimp only at hSw); obtain ⟨hS1, hS2, hS3⟩ := hSw; go_simp; try with_reducible rfl)
            simp only [Act.put, List.setIfInBounds_toArray, List.set_cons_zero, List.set_cons_succ]
            have KS : Hid (Kept wr (w5.setRow nb X0) (fun b => b = g ∧ False)) := Kept.fresh (below_setRow B5.out hnbw.out _)
            have HSS : Hid ((fun W : World => W.cell? ⟨g, 3169, none⟩ = some (.map (some mb)) ∧ W.ownsMap Try.prog 3 RV mb kk D' ∧ W.cell? ⟨pb, po + k, none⟩ = some (.int .i64 p)) (w5.setRow nb X0)) := HS7.out _ (below_setRow B5.out hnbw.out _)
            refine wpAnyH_ready (rs := [15]) (by kernel_rfl) (by simp) ?_
            refine AllReadyH.cons rfl (fun K hK => ?_) AllReadyH.nil
            refine step_of rfl (wp_store_row 36 (.tmp 7) (.tmp 39) rfl nb X0 rfl rfl 36 ZZ HZb.out hszX.out HZs.out honeX.out ?_)
            refine hK _ _ (HSS.out) (fun hHeld => ?_)
            clear hK K
            try simp only [Act.put, List.setIfInBounds_toArray, List.set_cons_zero, List.set_cons_succ]
            refine takeH (i := 16) (some 8) (v := ?_) rfl rfl (by kernel_rfl) (by kernel_rfl) (by kernel_rfl) (fun _ _ _ h => h) (by rfl) ?_ (by assumption) ?_
            rotate_left
            · (intro w hSw; (try dsimp only at hSw); obtain ⟨hS1, hS2, hS3⟩ := hSw; go_simp; try with_reducible rfl)
            simp only [Act.put, List.setIfInBounds_toArray, List.set_cons_zero, List.set_cons_succ]
            refine wpAnyH_done (by kernel_rfl) ?_ _
            clear HSS WB B5 b4 s4
            generalize hW7 : World.setRow _ nb X0 = w7
            have K7 : Hid (Kept wr w7 (fun b => b = g ∧ False)) := by rw [← hW7]; exact KS.out
            have b7 : Hid (w7.heap[nb]? = some (.cells X0 36 (0, 0))) := by rw [← hW7]; exact setRow_heap _ _ _ _ _ _ HZb.out
            clear hW7
            have F8 := Lib.hid (NO.out w7 K7.out)
            obtain ⟨c8, hm8, hcl8⟩ := F8.out
            have M8 := Lib.hid hm8
            have CL8 := Lib.hid hcl8
            clear hm8 hcl8 F8
            go_wp2_with (at_delete; refine wpList_delete_own _ rfl _ _ 78 3 rfl 81 law3 Try.underlying78 _ mb kk D' rfl M8.out _ _ rfl Hkey.out ?_; intro w9 hm9 hturn; go_frame)
            go_roundw
            case rel => exact ⟨k + 1, by omega, rfl, CL8.out w9 hm9 hturn⟩
            case measure => simp [intOf]; omega
        | some x =>
          have hx := hoS x rfl
          have VER : Hid (∀ W, Below wr.heap.size wr W → Calls Try.prog 41 #[.slice (A' i) (V' i).length (C' i), .int .i64 p] W fun e w' => e = .returned (.tuple #[.agg (bytesV x).toArray, .bool true]) ∧ Below W.heap.size W w') := VER0
          have hszX : Hid ((Try.prog.info? 36).map (·.size) = some (bytesV x).toArray.size) := by unfold Hid; rw [List.size_toArray, length_bytesV, hx.1]; exact size36
          have hszX1 : Hid ((Try.prog.info? 36).map (·.size) = some (bytesV x).length) := by unfold Hid; rw [length_bytesV, hx.1]; exact size36
          have honeX : Hid ((bytesV x).toArray.all (·.oneCell') = true) := all_oneCell_toArray (bytesV_one _)
          have HX1 := Lib.hid (bytesV_one x)
          have HZ0 : Hid ((bytesV (List.replicate 32 0)).toArray.size = (bytesV x).toArray.size) := by unfold Hid; rw [List.size_toArray, List.size_toArray, length_bytesV, length_bytesV, hx.1]; rfl
          have Hfit : Hid (1 + i * 32 + (bytesV x).length ≤ (diskL n L' B mb).toArray.size) := by
            unfold Hid
            have := length_heldL n L' B HDisk.out.lenL HDisk.out.lenB
            rw [length_bytesV, hx.1, List.size_toArray, diskL, List.length_append, this]
            simp; omega
          have DB7 : Hid (∀ w7, Kept wr w7 (fun b => b = g ∧ False) → w7.drew.heap[g]? = some (.cells (diskL n L' B mb).toArray 80 (0, 0))) := fun w7 hK7 => hK7.blk HDisk.out.blk (fun h => h.2)
          have YES : Hid (∀ w7 w8, Kept wr w7 (fun b => b = g ∧ False) → w8 = w7.drew.setRow g (splice (diskL n L' B mb) (1 + i * 32) (bytesV x)).toArray → w8.cell? ⟨g, 3169, none⟩ = some (.map (some mb)) ∧ w8.ownsMap Try.prog 3 RV mb kk D' ∧
              ∀ w9, w9.ownsMap Try.prog 3 RV mb kk (D'.del (.int .i64 (i : Int))) → w8.mapTurned w9 mb → CrS w w9 g n c S pick B mb kk A (k + 1) ∧ w2.heap.size ≤ w9.heap.size ∧ ∀ b, some (⟨rb, 0, none⟩ : Addr) = some b → w9.heap[b.block]? = w2.heap[b.block]?) := fun w7 w8 hK7 e8 => by
            have hb8 : BlkIs w8 g 80 (splice (diskL n L' B mb) (1 + i * 32) (bytesV x)) := by rw [e8]; exact setRow_heap w7.drew g _ _ 80 (0, 0) (DB7.out w7 hK7)
            have hK8 : Kept wr w8 (fun b => b = g) := by
              rw [e8]
              exact ((hK7.drew).more (fun b h => h.2.elim)).trans (Kept.grown (S := fun b => b = g) (row := some g) ⟨rfl, rfl, rfl, by simp [World.setRow], fun a _ hne => setRow_other w7.drew _ a _ (by intro e; subst e; exact hne rfl)⟩ (fun b e => by cases e; exact .inl rfl)) (fun _ h => .inl h)
            exact CLO.out x rfl w8 _ hK8 (HDisk.out.stored hx.1 hx.2 hi96 hb8) (fun j hj => sec_set HDisk.out.lenL hx.1 hi96 (by have := HCA.out.n96; omega))
          obtain ⟨X1, hX1⟩ : ∃ X1, X1 = bytesV x := ⟨_, rfl⟩
          obtain ⟨N1, hN1⟩ : ∃ N1, N1 = (splice (diskL n L' B mb) (1 + i * 32) X1).toArray := ⟨_, rfl⟩
          obtain ⟨D0, hD0⟩ : ∃ D0, D0 = (diskL n L' B mb).toArray := ⟨_, rfl⟩
          have HN : Hid ((splice D0.toList (1 + i * 32) X1).toArray = N1) := by unfold Hid; rw [hN1, hD0]
          rw [← hX1] at YES HX1 Hfit hszX1
          rw [← hN1] at YES
          rw [← hD0] at DB7 Hfit
          rw [← hX1] at VER hszX honeX HZ0
          obtain ⟨X0, hX0⟩ : ∃ X0, X0 = X1.toArray := ⟨_, rfl⟩
          rw [← hX0] at VER hszX honeX HZ0
          have HX0 := Lib.hid hX0
          clear VER0 hoS hX1 hN1 hD0 hX0 hx CLO
          go_wp2_with fail
          refine wp_region_held_drew (S := (fun W => W.cell? ⟨g, 3169, none⟩ = some (.map (some mb)) ∧ W.ownsMap Try.prog 3 RV mb kk D' ∧ W.cell? ⟨pb, po + k, none⟩ = some (.int .i64 p))) (by kernel_rfl) (HS7.out _ (Below.refl _ _).drew) (fun hHeld => ?_)
          refine takeH (i := 0) (some 28) (v := ?_) rfl rfl (by kernel_rfl) (by kernel_rfl) (by kernel_rfl) (fun _ _ _ h => h) (by rfl) ?_ (by assumption) ?_
          rotate_left
          · (intro w hSw; (try dsimp only at hSw); obtain ⟨hS1, hS2, hS3⟩ := hSw; go_simp; try with_reducible rfl)
          simp only [Act.put, List.setIfInBounds_toArray, List.set_cons_zero, List.set_cons_succ]
          refine takeH (i := 1) (some 29) (v := ?_) rfl rfl (by kernel_rfl) (by kernel_rfl) (by kernel_rfl) (fun _ _ _ h => h) (by rfl) ?_ (by assumption) ?_
          rotate_left
          · (intro w hSw; (try dsimp only at hSw); obtain ⟨hS1, hS2, hS3⟩ := hSw; go_simp; try with_reducible rfl)
          simp only [Act.put, List.setIfInBounds_toArray, List.set_cons_zero, List.set_cons_succ]
          refine takeH (i := 2) (some 30) (v := ?_) rfl rfl (by kernel_rfl) (by kernel_rfl) (by kernel_rfl) (fun _ _ _ h => h) (by rfl) ?_ (by assumption) ?_
          rotate_left
          · (intro w hSw; (try dsimp only at hSw); obtain ⟨hS1, hS2, hS3⟩ := hSw; go_simp; try with_reducible rfl)
          simp only [Act.put, List.setIfInBounds_toArray, List.set_cons_zero, List.set_cons_succ]
          refine takeH (i := 3) (some 31) (v := ?_) rfl rfl (by kernel_rfl) (by kernel_rfl) (by kernel_rfl) (fun _ _ _ h => h) (by rfl) ?_ (by assumption) ?_
          rotate_left
          · (intro w hSw; (try dsimp only at hSw); obtain ⟨hS1, hS2, hS3⟩ := hSw; go_simp; try with_reducible rfl)
          simp only [Act.put, List.setIfInBounds_toArray, List.set_cons_zero, List.set_cons_succ]
          refine takeH (i := 4) (some 32) (v := ?_) rfl rfl (by kernel_rfl) (by kernel_rfl) (by kernel_rfl) (fun _ _ _ h => h) (by rfl) ?_ (by assumption) ?_
          rotate_left
          · (intro w hSw; (try dsimp only at hSw); obtain ⟨hS1, hS2, hS3⟩ := hSw; go_simp; try with_reducible rfl)
          simp only [Act.put, List.setIfInBounds_toArray, List.set_cons_zero, List.set_cons_succ]
          refine takeH (i := 5) (some 33) (v := ?_) rfl rfl (by kernel_rfl) (by kernel_rfl) (by kernel_rfl) (fun _ _ _ h => h) (by rfl) ?_ (by assumption) ?_
          rotate_left
          · (intro w hSw; obtain ⟨hS1, hS2, hS3⟩ := hSw; (refine exec_lookup (.tmp 31) (.tmp 32) 78 ?_ 3 81 law3 Try.underlying78 (zero81 _) mb kk D' ?_ hS2 _ _ ?_ Hkey.out (.slice (A' i) (V' i).length (C' i)) Hat.out) <;> rfl)
          simp only [Act.put, List.setIfInBounds_toArray, List.set_cons_zero, List.set_cons_succ]
          refine takeH (i := 6) (some 34) (v := ?_) rfl rfl (by kernel_rfl) (by kernel_rfl) (by kernel_rfl) (fun _ _ _ h => h) (by rfl) ?_ (by assumption) ?_
          rotate_left
          · (intro w hSw; (try dsimp only at hSw); obtain ⟨hS1, hS2, hS3⟩ := hSw; go_simp; try with_reducible rfl)
          simp only [Act.put, List.setIfInBounds_toArray, List.set_cons_zero, List.set_cons_succ]
          refine takeH (i := 7) (some 35) (v := ?_) rfl rfl (by kernel_rfl) (by kernel_rfl) (by kernel_rfl) (fun _ _ _ h => h) (by rfl) ?_ (by assumption) ?_
          rotate_left
          · (intro w hSw; (try dsimp only at hSw); obtain ⟨hS1, hS2, hS3⟩ := hSw; go_simp; try with_reducible rfl)
          simp only [Act.put, List.setIfInBounds_toArray, List.set_cons_zero, List.set_cons_succ]
          refine takeH (i := 8) (some 36) (v := ?_) rfl rfl (by kernel_rfl) (by kernel_rfl) (by kernel_rfl) (fun _ _ _ h => h) (by rfl) ?_ (by assumption) ?_
          rotate_left
          · (intro w hSw; (try dsimp only at hSw); obtain ⟨hS1, hS2, hS3⟩ := hSw; go_simp; try with_reducible rfl)
          simp only [Act.put, List.setIfInBounds_toArray, List.set_cons_zero, List.set_cons_succ]
          refine takeH (i := 9) (some 37) (v := ?_) rfl rfl (by kernel_rfl) (by kernel_rfl) (by kernel_rfl) (fun _ _ _ h => h) (by rfl) ?_ (by assumption) ?_
          rotate_left
          · (intro w hSw; (try dsimp only at hSw); obtain ⟨hS1, hS2, hS3⟩ := hSw; go_simp; try with_reducible rfl)
          simp only [Act.put, List.setIfInBounds_toArray, List.set_cons_zero, List.set_cons_succ]
          refine wpAnyH_ready (rs := [10, 14]) (by kernel_rfl) (by simp) ?_
          refine AllReadyH.cons rfl (fun K hK => ?_) (AllReadyH.cons rfl (fun K hK => ?_) AllReadyH.nil)
          · have WB : Hid (Below wr.heap.size wr wr.drew) := (Below.refl _ _).drew
            go_simp
            refine (VER.out _ WB.out).mono ?_
            rintro e w5 ⟨rfl, hB5⟩
            have B5 : Hid (Below wr.heap.size wr w5) := WB.out.trans (hB5.mono WB.out.size)
            clear hB5
            refine hK _ _ (HS7.out _ B5.out) (fun hHeld => ?_)
            clear hK K
            try simp only [Act.put, List.setIfInBounds_toArray, List.set_cons_zero, List.set_cons_succ]
            refine takeH (i := 11) (some 27) (v := ?_) rfl rfl (by kernel_rfl) (by kernel_rfl) (by kernel_rfl) (fun _ _ _ h => h) (by rfl) ?_ (by assumption) ?_
            rotate_left
            · (intro w hSw; (try dsimp only at hSw); obtain ⟨hS1, hS2, hS3⟩ := hSw; go_simp; try with_reducible rfl)
            simp only [Act.put, List.setIfInBounds_toArray, List.set_cons_zero, List.set_cons_succ]
            refine takeH (i := 12) (some 39) (v := ?_) rfl rfl (by kernel_rfl) (by kernel_rfl) (by kernel_rfl) (fun _ _ _ h => h) (by rfl) ?_ (by assumption) ?_
            rotate_left
            · (intro w hSw; (try dsimp only at hSw); obtain ⟨hS1, hS2, hS3⟩ := hSw; go_simp; try with_reducible rfl)
            simp only [Act.put, List.setIfInBounds_toArray, List.set_cons_zero, List.set_cons_succ]
            refine takeH (i := 13) (some 40) (v := ?_) rfl rfl (by kernel_rfl) (by kernel_rfl) (by kernel_rfl) (fun _ _ _ h => h) (by rfl) ?_ (by assumption) ?_
            rotate_left
            · (intro w hSw; (try dsimp only at hSw); obtain ⟨hS1, hS2, hS3⟩ := hSw; go_simp; try with_reducible rfl)
            simp only [Act.put, List.setIfInBounds_toArray, List.set_cons_zero, List.set_cons_succ]
            refine wpAnyH_ready (rs := [14]) (by kernel_rfl) (by simp) ?_
            refine AllReadyH.cons rfl (fun K hK => ?_) AllReadyH.nil
            go_simp
            refine hK _ _ (HS7.out _ (B5.out.alloc B5.out.size _)) (fun hHeld => ?_)
            clear hK K
            try simp only [Act.put, List.setIfInBounds_toArray, List.set_cons_zero, List.set_cons_succ]
            obtain ⟨nb, hnb⟩ : ∃ nb, nb = w5.heap.size := ⟨_, rfl⟩
            rw [← hnb]
            obtain ⟨ZZ, hZZ⟩ : ∃ ZZ, ZZ = (bytesV (List.replicate 32 0)).toArray := ⟨_, rfl⟩
            generalize hW6 : w5.alloc (Obj.cells _ 36) = w6
            have HZb : Hid (w6.heap[nb]? = some (.cells ZZ 36 (0, 0))) := by rw [← hW6, hZZ, hnb]; exact heap_alloc_new w5 _
            have HZs : Hid (ZZ.size = X0.size) := by rw [hZZ]; exact HZ0.out
            have hnbg : Hid (nb ≠ g) := by have := B5.out.size; have := hgr.out; unfold Hid; omega
            have hnbw : Hid (wr.heap.size ≤ nb) := by rw [hnb]; exact B5.out.size
            have B6 : Hid (Below wr.heap.size wr w6) := by rw [← hW6]; exact B5.out.alloc B5.out.size _
            have KS : Hid (Kept wr (w6.setRow nb X0) (fun b => b = g ∧ False)) := Kept.fresh (below_setRow B6.out hnbw.out _)
            have HSS : Hid ((fun W : World => W.cell? ⟨g, 3169, none⟩ = some (.map (some mb)) ∧ W.ownsMap Try.prog 3 RV mb kk D' ∧ W.cell? ⟨pb, po + k, none⟩ = some (.int .i64 p)) (w6.setRow nb X0)) := HS7.out _ (below_setRow B6.out hnbw.out _)
            clear hnb hZZ hW6
            refine wpAnyH_ready (rs := [15]) (by kernel_rfl) (by simp) ?_
            refine AllReadyH.cons rfl (fun K hK => ?_) AllReadyH.nil
            refine step_of rfl (wp_store_row 36 (.tmp 7) (.tmp 39) rfl nb X0 rfl rfl 36 ZZ HZb.out hszX.out HZs.out honeX.out ?_)
            refine hK _ _ (HSS.out) (fun hHeld => ?_)
            clear hK K
            try simp only [Act.put, List.setIfInBounds_toArray, List.set_cons_zero, List.set_cons_succ]
            refine takeH (i := 16) (some 8) (v := ?_) rfl rfl (by kernel_rfl) (by kernel_rfl) (by kernel_rfl) (fun _ _ _ h => h) (by rfl) ?_ (by assumption) ?_
            rotate_left
            · (intro w hSw; (try dsimp only at hSw); obtain ⟨hS1, hS2, hS3⟩ := hSw; go_simp; try with_reducible rfl)
            simp only [Act.put, List.setIfInBounds_toArray, List.set_cons_zero, List.set_cons_succ]
            refine wpAnyH_done (by kernel_rfl) ?_ _
            clear HSS WB B5 B6
            generalize hW7 : World.setRow _ nb X0 = w7
            have K7 : Hid (Kept wr w7 (fun b => b = g ∧ False)) := by rw [← hW7]; exact KS.out
            have b7 : Hid (w7.heap[nb]? = some (.cells X0 36 (0, 0))) := by rw [← hW7]; exact setRow_heap _ _ _ _ _ _ HZb.out
            clear hW7
            go_wp2_with fail
            have HDb : Hid (w7.drew.heap[g]? = some (.cells D0 80 (0, 0))) := DB7.out w7 K7.out
            have b8 : Hid ((w7.drew.setRow g N1).heap[nb]? = some (.cells X0 36 (0, 0))) := (setRow_other _ _ _ _ hnbg.out).trans b7.out
            refine wp_region_held_drew (S := (fun W => W.heap[nb]? = some (.cells X0 36 (0, 0)))) (by kernel_rfl) (b7.out) (fun hHeld => ?_)
            refine takeH (i := 0) (some 42) (v := ?_) rfl rfl (by kernel_rfl) (by kernel_rfl) (by kernel_rfl) (fun _ _ _ h => h) (by rfl) ?_ (by assumption) ?_
            rotate_left
            · (intro w hSw; (try dsimp only at hSw); go_simp; try with_reducible rfl)
            simp only [Act.put, List.setIfInBounds_toArray, List.set_cons_zero, List.set_cons_succ]
            refine takeH (i := 1) (some 43) (v := ?_) rfl rfl (by kernel_rfl) (by kernel_rfl) (by kernel_rfl) (fun _ _ _ h => h) (by rfl) ?_ (by assumption) ?_
            rotate_left
            · (intro w hSw; (try dsimp only at hSw); go_simp; try with_reducible rfl)
            simp only [Act.put, List.setIfInBounds_toArray, List.set_cons_zero, List.set_cons_succ]
            refine takeH (i := 2) (some 44) (v := ?_) rfl rfl (by kernel_rfl) (by kernel_rfl) (by kernel_rfl) (fun _ _ _ h => h) (by rfl) ?_ (by assumption) ?_
            rotate_left
            · (intro w hSw; (refine exec_row 36 (.tmp 7) ?_ _ ?_ 36 X0 (0, 0) _ hSw Try.underlying36 rfl hszX.out) <;> rfl)
            simp only [Act.put, List.setIfInBounds_toArray, List.set_cons_zero, List.set_cons_succ]
            refine takeH (i := 3) (some 45) (v := ?_) rfl rfl (by kernel_rfl) (by kernel_rfl) (by kernel_rfl) (fun _ _ _ h => h) (by rfl) ?_ (by assumption) ?_
            rotate_left
            · (intro w hSw; (try dsimp only at hSw); go_simp; try with_reducible rfl)
            simp only [Act.put, List.setIfInBounds_toArray, List.set_cons_zero, List.set_cons_succ]
            refine takeH (i := 4) (some 46) (v := ?_) rfl rfl (by kernel_rfl) (by kernel_rfl) (by kernel_rfl) (fun _ _ _ h => h) (by rfl) ?_ (by assumption) ?_
            rotate_left
            · (intro w hSw; (try dsimp only at hSw); go_simp; try with_reducible rfl)
            simp only [Act.put, List.setIfInBounds_toArray, List.set_cons_zero, List.set_cons_succ]
            refine takeH (i := 5) (some 47) (v := ?_) rfl rfl (by kernel_rfl) (by kernel_rfl) (by kernel_rfl) (fun _ _ _ h => h) (by rfl) ?_ (by assumption) ?_
            rotate_left
            · (intro w hSw; (try dsimp only at hSw); go_simp; try with_reducible rfl)
            simp only [Act.put, List.setIfInBounds_toArray, List.set_cons_zero, List.set_cons_succ]
            refine takeH (i := 6) (some 48) (v := ?_) rfl rfl (by kernel_rfl) (by kernel_rfl) (by kernel_rfl) (fun _ _ _ h => h) (by rfl) ?_ (by assumption) ?_
            rotate_left
            · (intro w hSw; (try dsimp only at hSw); go_simp; try with_reducible rfl)
            simp only [Act.put, List.setIfInBounds_toArray, List.set_cons_zero, List.set_cons_succ]
            refine wpAnyH_ready (rs := [7]) (by kernel_rfl) (by simp) ?_
            refine AllReadyH.cons rfl (fun K hK => ?_) AllReadyH.nil
            refine step_of rfl (wp_store_wide 36 (.tmp 48) (.tmp 44) rfl g (1 + i * 32) X1 rfl (by rw [← HX0.out]; rfl) D0 80 HDb.out Hfit.out hszX1.out HX1.out N1 HN.out ?_)
            refine hK _ _ (b8.out) (fun hHeld => ?_)
            clear hK K
            try simp only [Act.put, List.setIfInBounds_toArray, List.set_cons_zero, List.set_cons_succ]
            refine wpAnyH_done (by kernel_rfl) ?_ _
            generalize hW8 : World.setRow w7.drew g N1 = w8
            have F8 := Lib.hid (YES.out w7 w8 K7.out hW8.symm)
            clear hW8
            obtain ⟨c8, hm8, hcl8⟩ := F8.out
            have M8 := Lib.hid hm8
            have CL8 := Lib.hid hcl8
            clear hm8 hcl8 F8
            go_wp2_with (at_delete; refine wpList_delete_own _ rfl _ _ 78 3 rfl 81 law3 Try.underlying78 _ mb kk D' rfl M8.out _ _ rfl Hkey.out ?_; intro w9 hm9 hturn; go_frame)
            go_roundw
            case rel => exact ⟨k + 1, by omega, rfl, CL8.out w9 hm9 hturn⟩
            case measure => simp [intOf]; omega
          · go_simp
            obtain ⟨nb, hnb⟩ : ∃ nb, nb = wr.heap.size := ⟨_, rfl⟩
            obtain ⟨ZZ, hZZ⟩ : ∃ ZZ, ZZ = (bytesV (List.replicate 32 0)).toArray := ⟨_, rfl⟩
            generalize hw4 : World.drew (World.alloc wr (Obj.cells _ 36)) = w4
            have WB : Hid (Below wr.heap.size wr w4) := by rw [← hw4]; exact ((Below.refl _ _).alloc (Nat.le_refl _) _).drew
            have b4 : Hid (w4.heap[nb]? = some (.cells ZZ 36 (0, 0))) := by rw [← hw4, hZZ, hnb]; exact heap_alloc_new wr _
            have s4 : Hid (nb < w4.heap.size) := (Array.getElem?_eq_some_iff.1 b4.out).1
            have HZs : Hid (ZZ.size = X0.size) := by rw [hZZ]; exact HZ0.out
            have hnbg : Hid (nb ≠ g) := by have := hgr.out; unfold Hid; omega
            have hnbw : Hid (wr.heap.size ≤ nb) := by unfold Hid; omega
            have hnbe : wr.drew.heap.size = nb := hnb.symm
            first | rw [hnbe] | rw [← hnb] | skip
            clear hnb hZZ hw4 hnbe
            refine hK _ _ (HS7.out _ WB.out) (fun hHeld => ?_)
            clear hK K
            try simp only [Act.put, List.setIfInBounds_toArray, List.set_cons_zero, List.set_cons_succ]
            refine wpAnyH_ready (rs := [10]) (by kernel_rfl) (by simp) ?_
            refine AllReadyH.cons rfl (fun K hK => ?_) AllReadyH.nil
            go_simp
            refine (VER.out _ WB.out).mono ?_
            rintro e w5 ⟨rfl, hB5⟩
            have B5 : Hid (Below wr.heap.size wr w5) := WB.out.trans (hB5.mono WB.out.size)
            have HZb : Hid (w5.heap[nb]? = some (.cells ZZ 36 (0, 0))) := (hB5.block nb s4.out).trans b4.out
            clear hB5
            refine hK _ _ (HS7.out _ B5.out) (fun hHeld => ?_)
            clear hK K
            try simp only [Act.put, List.setIfInBounds_toArray, List.set_cons_zero, List.set_cons_succ]
            refine takeH (i := 11) (some 27) (v := ?_) rfl rfl (by kernel_rfl) (by kernel_rfl) (by kernel_rfl) (fun _ _ _ h => h) (by rfl) ?_ (by assumption) ?_
            rotate_left
            · (intro w hSw; (try dsimp only at hSw); obtain ⟨hS1, hS2, hS3⟩ := hSw; go_simp; try with_reducible rfl)
            simp only [Act.put, List.setIfInBounds_toArray, List.set_cons_zero, List.set_cons_succ]
            refine takeH (i := 12) (some 39) (v := ?_) rfl rfl (by kernel_rfl) (by kernel_rfl) (by kernel_rfl) (fun _ _ _ h => h) (by rfl) ?_ (by assumption) ?_
            rotate_left
            · (intro w hSw; (try dsimp only at hSw); obtain ⟨hS1, hS2, hS3⟩ := hSw; go_simp; try with_reducible rfl)
            simp only [Act.put, List.setIfInBounds_toArray, List.set_cons_zero, List.set_cons_succ]
            refine takeH (i := 13) (some 40) (v := ?_) rfl rfl (by kernel_rfl) (by kernel_rfl) (by kernel_rfl) (fun _ _ _ h => h) (by rfl) ?_ (by assumption) ?_
            rotate_left
            · (intro w hSw; (try dsimp only at hSw); obtain ⟨hS1, hS2, hS3⟩ := hSw; go_simp; try with_reducible rfl)
            simp only [Act.put, List.setIfInBounds_toArray, List.set_cons_zero, List.set_cons_succ]
            have KS : Hid (Kept wr (w5.setRow nb X0) (fun b => b = g ∧ False)) := Kept.fresh (below_setRow B5.out hnbw.out _)
            have HSS : Hid ((fun W : World => W.cell? ⟨g, 3169, none⟩ = some (.map (some mb)) ∧ W.ownsMap Try.prog 3 RV mb kk D' ∧ W.cell? ⟨pb, po + k, none⟩ = some (.int .i64 p)) (w5.setRow nb X0)) := HS7.out _ (below_setRow B5.out hnbw.out _)
            refine wpAnyH_ready (rs := [15]) (by kernel_rfl) (by simp) ?_
            refine AllReadyH.cons rfl (fun K hK => ?_) AllReadyH.nil
            refine step_of rfl (wp_store_row 36 (.tmp 7) (.tmp 39) rfl nb X0 rfl rfl 36 ZZ HZb.out hszX.out HZs.out honeX.out ?_)
            refine hK _ _ (HSS.out) (fun hHeld => ?_)
            clear hK K
            try simp only [Act.put, List.setIfInBounds_toArray, List.set_cons_zero, List.set_cons_succ]
            refine takeH (i := 16) (some 8) (v := ?_) rfl rfl (by kernel_rfl) (by kernel_rfl) (by kernel_rfl) (fun _ _ _ h => h) (by rfl) ?_ (by assumption) ?_
            rotate_left
            · (intro w hSw; (try dsimp only at hSw); obtain ⟨hS1, hS2, hS3⟩ := hSw; go_simp; try with_reducible rfl)
            simp only [Act.put, List.setIfInBounds_toArray, List.set_cons_zero, List.set_cons_succ]
            refine wpAnyH_done (by kernel_rfl) ?_ _
            clear HSS WB B5 b4 s4
            generalize hW7 : World.setRow _ nb X0 = w7
            have K7 : Hid (Kept wr w7 (fun b => b = g ∧ False)) := by rw [← hW7]; exact KS.out
            have b7 : Hid (w7.heap[nb]? = some (.cells X0 36 (0, 0))) := by rw [← hW7]; exact setRow_heap _ _ _ _ _ _ HZb.out
            clear hW7
            go_wp2_with fail
            have HDb : Hid (w7.drew.heap[g]? = some (.cells D0 80 (0, 0))) := DB7.out w7 K7.out
            have b8 : Hid ((w7.drew.setRow g N1).heap[nb]? = some (.cells X0 36 (0, 0))) := (setRow_other _ _ _ _ hnbg.out).trans b7.out
            refine wp_region_held_drew (S := (fun W => W.heap[nb]? = some (.cells X0 36 (0, 0)))) (by kernel_rfl) (b7.out) (fun hHeld => ?_)
            refine takeH (i := 0) (some 42) (v := ?_) rfl rfl (by kernel_rfl) (by kernel_rfl) (by kernel_rfl) (fun _ _ _ h => h) (by rfl) ?_ (by assumption) ?_
            rotate_left
            · (intro w hSw; (try dsimp only at hSw); go_simp; try with_reducible rfl)
            simp only [Act.put, List.setIfInBounds_toArray, List.set_cons_zero, List.set_cons_succ]
            refine takeH (i := 1) (some 43) (v := ?_) rfl rfl (by kernel_rfl) (by kernel_rfl) (by kernel_rfl) (fun _ _ _ h => h) (by rfl) ?_ (by assumption) ?_
            rotate_left
            · (intro w hSw; (try dsimp only at hSw); go_simp; try with_reducible rfl)
            simp only [Act.put, List.setIfInBounds_toArray, List.set_cons_zero, List.set_cons_succ]
            refine takeH (i := 2) (some 44) (v := ?_) rfl rfl (by kernel_rfl) (by kernel_rfl) (by kernel_rfl) (fun _ _ _ h => h) (by rfl) ?_ (by assumption) ?_
            rotate_left
            · (intro w hSw; (refine exec_row 36 (.tmp 7) ?_ _ ?_ 36 X0 (0, 0) _ hSw Try.underlying36 rfl hszX.out) <;> rfl)
            simp only [Act.put, List.setIfInBounds_toArray, List.set_cons_zero, List.set_cons_succ]
            refine takeH (i := 3) (some 45) (v := ?_) rfl rfl (by kernel_rfl) (by kernel_rfl) (by kernel_rfl) (fun _ _ _ h => h) (by rfl) ?_ (by assumption) ?_
            rotate_left
            · (intro w hSw; (try dsimp only at hSw); go_simp; try with_reducible rfl)
            simp only [Act.put, List.setIfInBounds_toArray, List.set_cons_zero, List.set_cons_succ]
            refine takeH (i := 4) (some 46) (v := ?_) rfl rfl (by kernel_rfl) (by kernel_rfl) (by kernel_rfl) (fun _ _ _ h => h) (by rfl) ?_ (by assumption) ?_
            rotate_left
            · (intro w hSw; (try dsimp only at hSw); go_simp; try with_reducible rfl)
            simp only [Act.put, List.setIfInBounds_toArray, List.set_cons_zero, List.set_cons_succ]
            refine takeH (i := 5) (some 47) (v := ?_) rfl rfl (by kernel_rfl) (by kernel_rfl) (by kernel_rfl) (fun _ _ _ h => h) (by rfl) ?_ (by assumption) ?_
            rotate_left
            · (intro w hSw; (try dsimp only at hSw); go_simp; try with_reducible rfl)
            simp only [Act.put, List.setIfInBounds_toArray, List.set_cons_zero, List.set_cons_succ]
            refine takeH (i := 6) (some 48) (v := ?_) rfl rfl (by kernel_rfl) (by kernel_rfl) (by kernel_rfl) (fun _ _ _ h => h) (by rfl) ?_ (by assumption) ?_
            rotate_left
            · (intro w hSw; (try dsimp only at hSw); go_simp; try with_reducible rfl)
            simp only [Act.put, List.setIfInBounds_toArray, List.set_cons_zero, List.set_cons_succ]
            refine wpAnyH_ready (rs := [7]) (by kernel_rfl) (by simp) ?_
            refine AllReadyH.cons rfl (fun K hK => ?_) AllReadyH.nil
            refine step_of rfl (wp_store_wide 36 (.tmp 48) (.tmp 44) rfl g (1 + i * 32) X1 rfl (by rw [← HX0.out]; rfl) D0 80 HDb.out Hfit.out hszX1.out HX1.out N1 HN.out ?_)
            refine hK _ _ (b8.out) (fun hHeld => ?_)
            clear hK K
            try simp only [Act.put, List.setIfInBounds_toArray, List.set_cons_zero, List.set_cons_succ]
            refine wpAnyH_done (by kernel_rfl) ?_ _
            generalize hW8 : World.setRow w7.drew g N1 = w8
            have F8 := Lib.hid (YES.out w7 w8 K7.out hW8.symm)
            clear hW8
            obtain ⟨c8, hm8, hcl8⟩ := F8.out
            have M8 := Lib.hid hm8
            have CL8 := Lib.hid hcl8
            clear hm8 hcl8 F8
            go_wp2_with (at_delete; refine wpList_delete_own _ rfl _ _ 78 3 rfl 81 law3 Try.underlying78 _ mb kk D' rfl M8.out _ _ rfl Hkey.out ?_; intro w9 hm9 hturn; go_frame)
            go_roundw
            case rel => exact ⟨k + 1, by omega, rfl, CL8.out w9 hm9 hturn⟩
            case measure => simp [intOf]; omega
      · have hkp' : ¬ (k : Int) < (pick.length : Int) := by omega
        have hpk : pick[k]? = none := List.getElem?_eq_none (by omega)
        have hleft : ((pick[k]?).bind (pickAt (S i).v)).getD (S i).s = (S i).s := by rw [hpk]; rfl
        rw [hleft] at CLO
        obtain ⟨c8, hm8, hcl8⟩ := CLO.out (S i).s rfl wr L' (Kept.refl _ _) HDisk.out (fun j hj => by
          by_cases e : j = i
          · subst e; rw [if_pos rfl]; exact HsL.out
          · rw [if_neg e])
        have M8 := Lib.hid hm8
        have CL8 := Lib.hid hcl8
        subst hq
        clear hCA hsub hKp hcm hver hcw hsL hrowI hokI hfewI hpk hleft hnow hnext hmem hie hm8 hcl8 CLO
        go_wp2_with (at_delete; refine wpList_delete_own _ rfl _ _ 78 3 rfl 81 law3 Try.underlying78 _ mb kk D' rfl M8.out _ _ rfl Hkey.out ?_; intro w9 hm9 hturn; go_frame)
        go_roundw
        case rel => exact ⟨k + 1, by omega, rfl, CL8.out w9 hm9 hturn⟩
        case measure => simp [intOf]; omega
    · obtain rfl : k = (waits n S).length := by omega
      have hnn : ¬ (((waits n S).length : Int) < ((waits n S).length : Int)) := by omega
      go_wp2
      go_ret
      obtain ⟨L', D', V', A', C', hCA, hsub, hKp⟩ := CR.out
      exact ⟨rfl, _, ⟨L', B, mb, kk, D', V', A', C', hCA.congr (fun j hj => crashK_end n S pick hj), rfl⟩, hKp, fun b hb => .inl (hsub b hb)⟩
end Go.Proofs.Ytieeibdhaoaeaaa
