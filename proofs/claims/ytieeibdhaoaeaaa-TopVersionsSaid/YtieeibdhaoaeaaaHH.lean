/- The contract of 'Flush'. -/
import Derived.Test.YtieeibdhaoaeaaaHG
namespace Go.Proofs.Ytieeibdhaoaeaaa
open Go.RowKit
open Go.Maps (Keyed)

/-- all stands but the blocks g and mb, and what is new -/
structure Turned (w w' : World) (g mb : Nat) : Prop where
  os : w'.os = w.os
  tape : w'.tape = w.tape
  output : w'.output = w.output
  size : w.heap.size ≤ w'.heap.size
  block : ∀ k, k < w.heap.size → k ≠ g → k ≠ mb → w'.heap[k]? = w.heap[k]?
theorem Turned.refl (w : World) (g mb : Nat) : Turned w w g mb := ⟨rfl, rfl, rfl, Nat.le_refl _, fun _ _ _ _ => rfl⟩
theorem Turned.grown {w a b : World} {g mb : Nat} {row : Option Nat} (h : Turned w a g mb) (k : a.grownBy b row) (hr : ∀ j, row = some j → j = g ∨ j = mb ∨ w.heap.size ≤ j) : Turned w b g mb :=
  ⟨k.os.trans h.os, k.tape.trans h.tape, k.output.trans h.output, Nat.le_trans h.size k.size, fun i hi h1 h2 => (k.block i (Nat.lt_of_lt_of_le hi h.size) (fun e => by
    rcases hr i e.symm with e | e | e
    · exact h1 e
    · exact h2 e
    · omega)).trans (h.block i hi h1 h2)⟩

theorem wpList_next_waits {P : Program} {ops : Array Oper} {rest : List Oper} {o : Oper} {a : Act} {w : World} {Q : Exit → Act → World → Prop} (hg : o.guard = none) (it : Operand) (hop : o.op = Op.next it false) (k : TypeId) (K : Keyed P k) (hk : P.underlying k = some (.int .i64))
    (b r n : Nat) (D : DataW Value) (left : Lit → Bool) (cnt : Nat) (hit : a.eval it = .pointer (some ⟨r, 0, none⟩)) (h : w.ranges P k RV b r n D left cnt)
    (X : Nat → Nat → Nat → Nat → Prop) (hX : ∀ (x : Int) (v : Value), left (.int .i64 x) = true → (∀ zd, D.atKey (.int .i64 x) zd = .held v) → ∃ j gv q cap, x = ((j : Nat) : Int) ∧ v = .slice (some ⟨gv, 0, none⟩) (q + 1) cap ∧ X j gv q cap)
    (hDone : (∀ kl, left kl = false) → wpList P ops Q rest (a.put o.dst (.tuple #[.bool false])) w)
    (hMore : ∀ (j gv q cap : Nat) (w' : World) (cnt' : Nat), X j gv q cap → left (.int .i64 (j : Int)) = true → w'.ranges P k RV b r n D (fun z => left z && !z.sameKey (.int .i64 (j : Int))) cnt' → cnt' < cnt →
      w.grownBy w' (some r) → (Instr.entry (.pointer (some ⟨r, 0, none⟩))).run P w' = .ok (.tuple #[.int .i64 (j : Int), .slice (some ⟨gv, 0, none⟩) (q + 1) cap]) w' → wpList P ops Q rest (a.put o.dst (.tuple #[.bool true, .int .i64 (j : Int), .slice (some ⟨gv, 0, none⟩) (q + 1) cap])) w') :
    wpList P ops Q (o :: rest) a w :=
  wpList_next_ranges w hg it hop k K RV (Value.int .i64) (fun v => v) (fun key kl hkey => by obtain ⟨x, rfl, _⟩ := Maps.keyOf_int_inv hk hkey; exact ⟨x, rfl⟩) (fun v y _ => ⟨v, rfl⟩) b r n D left cnt hit h (fun _ hl => hDone hl)
    (fun x c kl y w' cnt' hkey hlk hv hat hrg hlt hgr hsz hen => by
      obtain ⟨x', ex, rfl, hwx⟩ := Maps.keyOf_int_inv hk hkey
      cases ex
      obtain ⟨j, gv, q, cap, rfl, hc, hx⟩ := hX x c hlk (fun zd => by rw [hat zd]; unfold RV at hv; injection hv with hv; rw [← hv])
      subst hc
      exact hMore j gv q cap w' cnt' hx hlk hrg hlt hgr hen)

/-- a flush under way -/
def FlS (w wr : World) (g : Nat) (n : Int) (L : List Int) (B : List Bool) (mb k r : Nat) (D : DataW Value) (S : Nat → List Int) (left : Lit → Bool) (cnt : Nat) : Prop :=
  ∃ D' L', wr.ranges Try.prog 3 RV mb r k D' left cnt ∧ (∀ kl, Maps.has D' kl = left kl) ∧ (∀ i, left (.int .i64 i) = true → Maps.has D (.int .i64 i) = true ∧ ∀ z, D'.atKey (.int .i64 i) z = D.atKey (.int .i64 i) z) ∧
    DiskAt wr g n L' B mb ∧ (∀ j : Nat, j < 96 → sec L' j = if Maps.has D (.int .i64 (j : Int)) = true ∧ left (.int .i64 (j : Int)) = false then S j else sec L j) ∧ Turned w wr g mb
def Flushed (w w' : World) (g : Nat) (n : Int) (L : List Int) (B : List Bool) (mb k : Nat) (D : DataW Value) (S : Nat → List Int) : Prop :=
  ∃ D' L', w'.ownsMap Try.prog 3 RV mb k D' ∧ (∀ kl, Maps.has D' kl = false) ∧ DiskAt w' g n L' B mb ∧ (∀ j : Nat, j < 96 → sec L' j = if Maps.has D (.int .i64 (j : Int)) = true then S j else sec L j) ∧ Turned w w' g mb

theorem has_del (D : DataW Value) (i : Int) (z : Lit) : Maps.has (D.del (.int .i64 i)) z = (Maps.has D z && !z.sameKey (.int .i64 i)) := by
  by_cases e : z = .int .i64 i
  · subst e
    have : (Lit.int .i64 i).sameKey (.int .i64 i) = true := by simp [Lit.sameKey]
    rw [Maps.has_del_same, this]
    simp
  · rw [Maps.has_del_other e, Maps.sameKey_ne e]
    simp
theorem fl_step {w w4 : World} {g : Nat} {n : Int} {L L1 : List Int} {B : List Bool} {mb k r j cnt : Nat} {D D1 : DataW Value} {S : Nat → List Int} {left : Lit → Bool}
    (hrg : w4.ranges Try.prog 3 RV mb r k (D1.del (.int .i64 (j : Int))) (fun z => left z && !z.sameKey (.int .i64 (j : Int))) cnt) (hhas : ∀ kl, Maps.has D1 kl = left kl)
    (hat : ∀ i, left (.int .i64 i) = true → Maps.has D (.int .i64 i) = true ∧ ∀ z, D1.atKey (.int .i64 i) z = D.atKey (.int .i64 i) z)
    (hsec : ∀ j : Nat, j < 96 → sec L1 j = if Maps.has D (.int .i64 (j : Int)) = true ∧ left (.int .i64 (j : Int)) = false then S j else sec L j)
    (hl : left (.int .i64 (j : Int)) = true) (hj : j < 96) (hs : (S j).length = 32) (hL : L1.length = 3072) (hd : DiskAt w4 g n (splice L1 (j * 32) (S j)) B mb) (hT : Turned w w4 g mb) :
    FlS w w4 g n L B mb k r D S (fun z => left z && !z.sameKey (.int .i64 (j : Int))) cnt := by
  refine ⟨_, _, hrg, fun kl => by rw [has_del, hhas], fun i hi => ?_, hd, fun i hi => ?_, hT⟩
  · simp only [Bool.and_eq_true, Bool.not_eq_true'] at hi
    obtain ⟨h1, h2⟩ := hi
    have hne : i ≠ (j : Int) := by
      rintro rfl
      simp [Lit.sameKey] at h2
    refine ⟨(hat i h1).1, fun z => ?_⟩
    rw [Maps.atKey_del_other (by intro e; injection e with _ e; exact hne e)]
    exact (hat i h1).2 z
  · rw [sec_set hL hs hj hi]
    by_cases e : i = j
    · subst e
      rw [if_pos rfl, if_pos ⟨(hat _ hl).1, by simp [Lit.sameKey]⟩]
    · rw [if_neg e, hsec i hi]
      have : (Lit.int .i64 (i : Int)).sameKey (.int .i64 (j : Int)) = false := Maps.sameKey_ne (by intro h; injection h with _ h; omega)
      simp [this]
theorem fl_end {w wr : World} {g : Nat} {n : Int} {L : List Int} {B : List Bool} {mb k r cnt : Nat} {D : DataW Value} {S : Nat → List Int} {left : Lit → Bool} (h : FlS w wr g n L B mb k r D S left cnt) (hl : ∀ kl, left kl = false) : Flushed w wr g n L B mb k D S := by
  obtain ⟨D', L', hrg, hhas, _, hd, hsec, hT⟩ := h
  refine ⟨D', L', hrg.owns, fun kl => by rw [hhas, hl], hd, fun j hj => ?_, hT⟩
  rw [hsec j hj, hl]
  simp

set_option maxRecDepth 100000 in
set_option linter.unusedSimpArgs false in
set_option maxHeartbeats 2000000 in
theorem flush_any (g : Nat) (n : Int) (L : List Int) (B : List Bool) (mb k : Nat) (D : DataW Value) (S : Nat → List Int) (w : World) (h : DiskAt w g n L B mb) (hm : w.ownsMap Try.prog 3 RV mb k D) (hgm : g ≠ mb) (hW : Waits w g mb n D S) :
    Calls Try.prog 15 #[.pointer (some ⟨g, 0, none⟩)] w fun e w' => e = .returned (.int .i64 0) ∧ Flushed w w' g n L B mb k D S := by
  have hgw : g < w.heap.size := h.blk.lt
  have hmw : mb < w.heap.size := hm.lt
  have hc := h.cmap
  have H := Lib.hid h
  have HW := Lib.hid hW
  have HM := Lib.hid hm
  clear h hm hW
  go_enter Try.func15, Try.ntmps15
  go_wp2_with (at_range; refine wpList_range_own _ rfl _ 78 rfl 3 81 law3 Try.underlying78 _ mb k D rfl HM.out ?_; intro w0 hrg0 hg0 hs0)
  go_frame
  have HS : Hid (FlS w w0 g n L B mb k w.heap.size D S (Maps.has D) (Maps.size D)) :=
    ⟨D, L, hrg0, fun _ => rfl, fun i hi => ⟨hi, fun _ => rfl⟩, ⟨(hg0.block g hgw (by simp)).trans H.out.blk, H.out.lo, H.out.hi, H.out.lenL, H.out.lenB, H.out.allL⟩, (fun j hj => by
      rw [if_neg]
      rintro ⟨a, b⟩
      rw [a] at b
      cases b), (Turned.refl w g mb).grown hg0 (fun j hj => by cases hj)⟩
  clear hrg0 hg0 hs0 hc
  go_loopw [3, 4] (fun _ _ wr => ∃ (left : Lit → Bool) (cnt : Nat), FlS w wr g n L B mb k w.heap.size D S left cnt) (fun _ _ wr => wr.rangeLeft mb w.heap.size)
  case atStart => exact ⟨_, _, HS.out⟩
  case round =>
    obtain ⟨left, cnt, hF⟩ := hrel
    have HF := Lib.hid hF
    obtain ⟨D1, L1, hrg, hhas, hat, hd, hsec, hT⟩ := hF
    have AX : Hid (∀ (x : Int) (v : Value), left (.int .i64 x) = true → (∀ zd, D1.atKey (.int .i64 x) zd = .held v) → ∃ j gv q cap, x = ((j : Nat) : Int) ∧ v = .slice (some ⟨gv, 0, none⟩) (q + 1) cap ∧
        ((j : Int) < n ∧ q < 1000000000 ∧ wr.rangeAt gv (q * 33) (bytesV (S j)) ∧ (S j).length = 32 ∧ AllB (S j) ∧ gv ≠ g ∧ gv ≠ mb ∧ gv < w.heap.size)) := by
      intro x v hl hv
      obtain ⟨hD, hz⟩ := hat x hl
      obtain ⟨j, gv, q, cap, hx, hjn, hv', hq, hr, hs, ha, h1, h2, h3⟩ := HW.out x hD
      have e := hv (.held (.bool false))
      rw [hz, hv'] at e
      injection e with e
      refine ⟨j, gv, q, cap, hx, e.symm, hjn, hq, fun i u hi => ?_, hs, ha, h1, h2, h3⟩
      exact (World.cell?_of_block (hT.block gv h3 h1 h2)).trans (hr i u hi)
    have FS : Hid (∀ (w4 : World) (j cnt2 : Nat), w4.ranges Try.prog 3 RV mb w.heap.size k (D1.del (.int .i64 (j : Int))) (fun z => left z && !z.sameKey (.int .i64 (j : Int))) cnt2 → left (.int .i64 (j : Int)) = true → j < 96 → (S j).length = 32 →
        DiskAt w4 g n (splice L1 (j * 32) (S j)) B mb → Turned w w4 g mb → FlS w w4 g n L B mb k w.heap.size D S (fun z => left z && !z.sameKey (.int .i64 (j : Int))) cnt2) := fun w4 j cnt2 a b c d e f => fl_step a hhas hat hsec b c d hd.lenL e f
    have Hr := Lib.hid hrg
    have Hd := Lib.hid hd
    have HT := Lib.hid hT
    clear hrg hhas hat hd hsec hT
    go_wp2_with (at_next; refine wpList_next_waits rfl _ rfl 3 law3 Try.underlying3 mb w.heap.size k D1 left cnt rfl Hr.out _ AX.out ?_ ?_)
    · intro hl0
      go_wp2
      go_ret
      exact ⟨rfl, fl_end HF.out hl0⟩
    · intro j gv q cap w1 cnt1 hjn hq hR hs ha hne1 hne2 hgv hlx hrg1 hlt hg1 hen
      have hj : j < 96 := by have := Hd.out.hi; omega
      have hji : (j : Int) < 96 := by omega
      have hj0 : (0 : Int) ≤ (j : Int) := by omega
      have hq0 : (0 : Int) ≤ (q : Int) := by omega
      have hqi : (q : Int) < 1000000000 := by omega
      have hrw : w.heap.size ≤ wr.heap.size := HT.out.size
      have hwq : IntKind.i64.wrap (q : Int) = (q : Int) := by simp [IntKind.wrap, IntKind.bits, IntKind.signed]; omega
      have hq2 : (q : Int) < (q : Int) + 1 := by omega
      have d1 : Hid (DiskAt w1 g n L1 B mb) := ⟨(hg1.block g (by omega) (by simp; omega)).trans Hd.out.blk, Hd.out.lo, Hd.out.hi, Hd.out.lenL, Hd.out.lenB, Hd.out.allL⟩
      have HR : Hid (w1.drew.rangeAt gv (q * 33) (bytesV (S j))) := fun i u hi => (World.cell?_of_block (hg1.block gv (by omega) (by simp; omega))).trans (hR i u hi)
      have T1 : Hid (Turned w w1 g mb) := HT.out.grown hg1 (fun j hj => by cases hj; exact .inr (.inr (Nat.le_refl _)))
      have Hrg1 := Lib.hid hrg1
      have Hlx := Lib.hid hlx
      have Hs := Lib.hid hs
      have Hlt := Lib.hid hlt
      have Hkj := Lib.hid (key3 hj)
      have HDb : Hid (w1.drew.heap[g]? = some (.cells (diskL n L1 B mb).toArray 80 (0, 0))) := d1.out.blk
      have hsz : Hid ((Try.prog.info? 36).map (·.size) = some (bytesV (S j)).length) := by unfold Hid; rw [length_bytesV, hs]; exact size36
      have H1 := Lib.hid (bytesV_one (S j))
      have Hfit : Hid (1 + j * 32 + (bytesV (S j)).length ≤ (diskL n L1 B mb).toArray.size) := by
        unfold Hid
        have := length_heldL n L1 B Hd.out.lenL Hd.out.lenB
        rw [length_bytesV, hs, List.size_toArray, diskL, List.length_append, this]
        simp; omega
      have HE : Hid (∀ w3, w3 = w1.drew.setRow g (splice (diskL n L1 B mb) (1 + j * 32) (bytesV (S j))).toArray → w3.cell? ⟨g, 3169, none⟩ = some (.map (some mb)) ∧ w3.ranges Try.prog 3 RV mb w.heap.size k D1 (fun z => left z && !z.sameKey (.int .i64 (j : Int))) cnt1 ∧
          ∀ w4 cnt2, w4.ranges Try.prog 3 RV mb w.heap.size k (D1.del (.int .i64 (j : Int))) (fun z => left z && !z.sameKey (.int .i64 (j : Int))) cnt2 → w3.mapTurned w4 mb → FlS w w4 g n L B mb k w.heap.size D S (fun z => left z && !z.sameKey (.int .i64 (j : Int))) cnt2) := by
        intro w3 e3
        have hb3 : BlkIs w3 g 80 (splice (diskL n L1 B mb) (1 + j * 32) (bytesV (S j))) := by rw [e3]; exact setRow_heap w1.drew g _ _ 80 (0, 0) HDb.out
        have d3 := d1.out.stored hs ha hj hb3
        have g3 : w1.grownBy w3 (some g) := by rw [e3]; exact ⟨rfl, rfl, rfl, by simp [World.setRow], fun i _ hne => setRow_other w1.drew _ i _ (by intro e; subst e; exact hne rfl)⟩
        refine ⟨d3.cmap, Hrg1.out.kept g3 (by simpa using Ne.symm hgm) (by simp; omega), fun w4 cnt2 hr4 ht => FS.out w4 j cnt2 hr4 Hlx.out hj Hs.out ?_ ?_⟩
        · exact ⟨(ht.grown.block g d3.blk.lt (by simpa using hgm)).trans d3.blk, d3.lo, d3.hi, d3.lenL, d3.lenB, d3.allL⟩
        · exact (T1.out.grown g3 (fun i hi => by cases hi; exact .inl rfl)).grown ht.grown (fun i hi => by cases hi; exact .inr (.inl rfl))
      obtain ⟨N1, hN1⟩ : ∃ N1, N1 = (splice (diskL n L1 B mb) (1 + j * 32) (bytesV (S j))).toArray := ⟨_, rfl⟩
      obtain ⟨S0, hS0⟩ : ∃ S0, S0 = bytesV (S j) := ⟨_, rfl⟩
      obtain ⟨D0, hD0⟩ : ∃ D0, D0 = (diskL n L1 B mb).toArray := ⟨_, rfl⟩
      rw [← hN1] at HE
      rw [← hS0] at HR hsz H1 Hfit
      rw [← hD0] at HDb Hfit
      have HN : Hid ((splice D0.toList (1 + j * 32) S0).toArray = N1) := by unfold Hid; rw [hN1, hS0, hD0]
      clear hN1 hS0 hD0 hR hs ha hrg1 hlx hlt hg1 hgv hne1 hne2 hrw
      go_wp2_with fail
      refine wp_region_held_drew (S := (fun _ => True)) (by kernel_rfl) (trivial) (fun hHeld => ?_)
      refine takeH (i := 0) (some 17) (v := ?_) rfl rfl (by kernel_rfl) (by kernel_rfl) (by kernel_rfl) (fun _ _ _ h => h) (by rfl) ?_ (by assumption) ?_
      rotate_left
      · (intro w hSw; (try dsimp only at hSw); go_simp; try with_reducible rfl)
      simp only [Act.put, List.setIfInBounds_toArray, List.set_cons_zero, List.set_cons_succ]
      refine takeH (i := 1) (some 18) (v := ?_) rfl rfl (by kernel_rfl) (by kernel_rfl) (by kernel_rfl) (fun _ _ _ h => h) (by rfl) ?_ (by assumption) ?_
      rotate_left
      · (intro w hSw; (try dsimp only at hSw); go_simp; try with_reducible rfl)
      simp only [Act.put, List.setIfInBounds_toArray, List.set_cons_zero, List.set_cons_succ]
      refine takeH (i := 2) (some 19) (v := ?_) rfl rfl (by kernel_rfl) (by kernel_rfl) (by kernel_rfl) (fun _ _ _ h => h) (by rfl) ?_ (by assumption) ?_
      rotate_left
      · (intro w hSw; (try dsimp only at hSw); go_simp; try with_reducible rfl)
      simp only [Act.put, List.setIfInBounds_toArray, List.set_cons_zero, List.set_cons_succ]
      refine takeH (i := 3) (some 20) (v := ?_) rfl rfl (by kernel_rfl) (by kernel_rfl) (by kernel_rfl) (fun _ _ _ h => h) (by rfl) ?_ (by assumption) ?_
      rotate_left
      · (intro w hSw; (try dsimp only at hSw); go_simp; try with_reducible rfl)
      simp only [Act.put, List.setIfInBounds_toArray, List.set_cons_zero, List.set_cons_succ]
      refine takeH (i := 4) (some 21) (v := ?_) rfl rfl (by kernel_rfl) (by kernel_rfl) (by kernel_rfl) (fun _ _ _ h => h) (by rfl) ?_ (by assumption) ?_
      rotate_left
      · (intro w hSw; (try dsimp only at hSw); go_simp; try with_reducible rfl)
      simp only [Act.put, List.setIfInBounds_toArray, List.set_cons_zero, List.set_cons_succ]
      refine takeH (i := 5) (some 22) (v := ?_) rfl rfl (by kernel_rfl) (by kernel_rfl) (by kernel_rfl) (fun _ _ _ h => h) (by rfl) ?_ (by assumption) ?_
      rotate_left
      · (intro w hSw; (try dsimp only at hSw); go_simp; try with_reducible rfl)
      simp only [Act.put, List.setIfInBounds_toArray, List.set_cons_zero, List.set_cons_succ]
      refine takeH (i := 6) (some 23) (v := ?_) rfl rfl (by kernel_rfl) (by kernel_rfl) (by kernel_rfl) (fun _ _ _ h => h) (by rfl) ?_ (by assumption) ?_
      rotate_left
      · (intro w hSw; (try dsimp only at hSw); go_simp; try with_reducible rfl)
      simp only [Act.put, List.setIfInBounds_toArray, List.set_cons_zero, List.set_cons_succ]
      refine takeH (i := 7) (some 24) (v := ?_) rfl rfl (by kernel_rfl) (by kernel_rfl) (by kernel_rfl) (fun _ _ _ h => h) (by rfl) ?_ (by assumption) ?_
      rotate_left
      · (intro w hSw; (try dsimp only at hSw); go_simp; try with_reducible rfl)
      simp only [Act.put, List.setIfInBounds_toArray, List.set_cons_zero, List.set_cons_succ]
      refine takeH (i := 9) (some 26) (v := ?_) rfl rfl (by kernel_rfl) (by kernel_rfl) (by kernel_rfl) (fun _ _ _ h => h) (by rfl) ?_ (by assumption) ?_
      rotate_left
      · (intro w hSw; (try dsimp only at hSw); go_simp; try with_reducible rfl)
      simp only [Act.put, List.setIfInBounds_toArray, List.set_cons_zero, List.set_cons_succ]
      refine takeH (i := 10) (some 27) (v := ?_) rfl rfl (by kernel_rfl) (by kernel_rfl) (by kernel_rfl) (fun _ _ _ h => h) (by rfl) ?_ (by assumption) ?_
      rotate_left
      · (intro w hSw; (try dsimp only at hSw); go_simp; try with_reducible rfl)
      simp only [Act.put, List.setIfInBounds_toArray, List.set_cons_zero, List.set_cons_succ]
      refine takeH (i := 11) (some 28) (v := ?_) rfl rfl (by kernel_rfl) (by kernel_rfl) (by kernel_rfl) (fun _ _ _ h => h) (by rfl) ?_ (by assumption) ?_
      rotate_left
      · (intro w hSw; (try dsimp only at hSw); go_simp; try with_reducible rfl)
      simp only [Act.put, List.setIfInBounds_toArray, List.set_cons_zero, List.set_cons_succ]
      refine wpAnyH_ready (rs := [8]) (by kernel_rfl) (by simp) ?_
      refine AllReadyH.cons rfl (fun K hK => ?_) AllReadyH.nil
      refine step_of rfl (wp_load_mid 36 (.tmp 24) rfl gv (q * 33) rfl S0 _ HR.out Try.underlying36 rfl hsz.out ?_)
      refine hK _ _ (trivial) (fun hHeld => ?_)
      clear hK K
      try simp only [Act.put, List.setIfInBounds_toArray, List.set_cons_zero, List.set_cons_succ]
      refine takeH (i := 12) (some 29) (v := ?_) rfl rfl (by kernel_rfl) (by kernel_rfl) (by kernel_rfl) (fun _ _ _ h => h) (by rfl) ?_ (by assumption) ?_
      rotate_left
      · (intro w hSw; (try dsimp only at hSw); go_simp; try with_reducible rfl)
      simp only [Act.put, List.setIfInBounds_toArray, List.set_cons_zero, List.set_cons_succ]
      refine wpAnyH_ready (rs := [13]) (by kernel_rfl) (by simp) ?_
      refine AllReadyH.cons rfl (fun K hK => ?_) AllReadyH.nil
      refine step_of rfl (wp_store_wide 36 (.tmp 29) (.tmp 25) rfl g (1 + j * 32) S0 rfl rfl D0 80 HDb.out Hfit.out hsz.out H1.out N1 HN.out ?_)
      refine hK _ _ (trivial) (fun hHeld => ?_)
      clear hK K
      try simp only [Act.put, List.setIfInBounds_toArray, List.set_cons_zero, List.set_cons_succ]
      refine wpAnyH_done (by kernel_rfl) ?_ _
      generalize hW3 : World.setRow w1.drew g N1 = w3
      obtain ⟨c3, hr3, hf3⟩ := HE.out w3 hW3.symm
      have Hr3 := Lib.hid hr3
      have Hf3 := Lib.hid hf3
      clear hr3 hf3 hW3
      go_wp2_with (at_delete; refine wpList_delete_ranges _ rfl _ _ 78 3 rfl 81 law3 Try.underlying78 _ mb w.heap.size k _ _ _ rfl Hr3.out _ _ rfl Hkj.out ?_; intro w4 cnt2 hrg4 hle hturn; go_frame)
      rw [Maps.strike_twice] at hrg4
      go_roundw
      case rel => exact ⟨_, cnt2, Hf3.out w4 cnt2 hrg4 hturn⟩
      case measure => have := Hlt.out; rw [hrg4.left_eq, Hr.out.left_eq]; omega
end Go.Proofs.Ytieeibdhaoaeaaa
