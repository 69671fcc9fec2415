/- Both disks side by side; a deed on both. -/
import Derived.Test.YtieeibdhaoaeaaaLC
set_option linter.unusedVariables false
set_option linter.unusedSimpArgs false
namespace Go.Proofs.Ytieeibdhaoaeaaa
open Go.RowKit

theorem Code.mono {w : World} {d n c c' : Nat} {S : Nat → Bk} {F : Nat → Prop} (h : Code w d n S c F) (hc : c ≤ c') : Code w d n S c' F := by
  obtain ⟨L, B, mb, k, D, V, A, C, h, rfl⟩ := h
  exact ⟨L, B, mb, k, D, V, A, C, ⟨h.disk, h.map, Nat.le_trans h.kc hc, h.keys, h.here, h.gone, h.row, h.ok, h.sec, h.bad, h.ver, fun j hj => Nat.le_trans (h.few j hj) hc, h.apart⟩, rfl⟩
theorem Ref.mono {w : World} {r n c c' : Nat} {S : Nat → Bk} {F : Nat → Prop} (h : Ref w r n S c F) (hc : c ≤ c') : Ref w r n S c' F := by
  obtain ⟨gb, cp, A, C, h, rfl⟩ := h
  exact ⟨gb, cp, A, C, ⟨h.hd, h.row, h.vers, h.ok, h.n1, h.n96, fun j hj => Nat.le_trans (h.few j hj) hc, h.apart⟩, rfl⟩
theorem Went.mono {w w' : World} {F : Nat → Prop} {Q Q' : (Nat → Prop) → Prop} (h : Went w w' F Q) (hq : ∀ F', Q F' → Q' F') : Went w w' F Q' := by
  obtain ⟨F', h1, h2, h3⟩ := h
  exact ⟨F', hq _ h1, h2, h3⟩
theorem Went.of_below {w w' : World} {F : Nat → Prop} {Q : (Nat → Prop) → Prop} (h : Q F) (hB : Below w.heap.size w w') : Went w w' F Q := ⟨F, h, Kept.fresh hB, fun _ e => .inl e⟩
/-- both disks, with the same blocks -/
def Both (w : World) (d r n : Nat) (S : Nat → Bk) (c : Nat) (F : Nat → Prop) : Prop :=
  ∃ F1 F2, Code w d n S c F1 ∧ Ref w r n S c F2 ∧ (∀ b, F1 b → ¬ F2 b) ∧ F = fun b => F1 b ∨ F2 b
theorem Both.fresh {w w' : World} {d r n c : Nat} {S : Nat → Bk} {F : Nat → Prop} (h : Both w d r n S c F) (hB : Below w.heap.size w w') : Both w' d r n S c F := by
  obtain ⟨F1, F2, h1, h2, h3, rfl⟩ := h
  exact ⟨F1, F2, h1.fresh hB, h2.fresh hB, h3, rfl⟩
theorem Both.keep {w w' : World} {d r n c : Nat} {S : Nat → Bk} {F G : Nat → Prop} (h : Both w d r n S c F) (hk : Kept w w' G) (hd : ∀ b, F b → ¬ G b) : Both w' d r n S c F := by
  obtain ⟨F1, F2, h1, h2, h3, rfl⟩ := h
  exact ⟨F1, F2, h1.keep hk (fun b e => hd b (.inl e)), h2.keep hk (fun b e => hd b (.inr e)), h3, rfl⟩
theorem Both.lt {w : World} {d r n c : Nat} {S : Nat → Bk} {F : Nat → Prop} (h : Both w d r n S c F) : ∀ b, F b → b < w.heap.size := by
  obtain ⟨F1, F2, h1, h2, h3, rfl⟩ := h
  rintro b (q | q)
  · exact h1.lt b q
  · exact h2.lt b q
theorem Both.mono {w : World} {d r n c c' : Nat} {S : Nat → Bk} {F : Nat → Prop} (h : Both w d r n S c F) (hc : c ≤ c') : Both w d r n S c' F := by
  obtain ⟨F1, F2, h1, h2, h3, e⟩ := h
  exact ⟨F1, F2, h1.mono hc, h2.mono hc, h3, e⟩
/-- the program's disk is done, the document's is as it was -/
def Mid (w W : World) (d r n : Nat) (S S' : Nat → Bk) (c c' : Nat) (F1 F2 : Nat → Prop) : Prop :=
  w.heap.size < W.heap.size ∧ ∃ F1', Code W d n S' c' F1' ∧ Ref W r n S c F2 ∧ Kept w W F1 ∧ (∀ b, F1' b → F1 b ∨ w.heap.size ≤ b) ∧ ∀ b, F1' b → ¬ F2 b
theorem doH_of {fc fr : Nat} {w : World} {d r n c c' : Nat} {S S' : Nat → Bk} {F1 F2 : Nat → Prop} {x : Dd} {ac ar : Array Value} {e0 : Int} (hC : Code w d n S c F1) (hR : Ref w r n S c F2) (hd : ∀ b, F1 b → ¬ F2 b)
    (cw : ∀ W, Below w.heap.size w W → Calls Try.prog fc (#[.pointer (some ⟨d, 0, none⟩)] ++ ac) W fun e w' => e = .returned (.int .i64 e0) ∧ Went W w' F1 (Code w' d n S' c'))
    (rw : ∀ W, Ref W r n S c F2 → Kept w W F1 → Calls Try.prog fr (#[.pointer (some ⟨r, 0, none⟩)] ++ ar) W fun e w' => e = .returned (.int .i64 e0) ∧ Went W w' F2 (Ref w' r n S' c')) :
    DoH fc fr w d r x ac ar e0 (fun W => Mid w W d r n S S' c c' F1 F2) (fun w' => Went w w' (fun b => F1 b ∨ F2 b) (Both w' d r n S' c')) := by
  have hb1 : ∀ b, F1 b → b ≠ w.heap.size := fun b e => by have := hC.lt b e; omega
  have hb2 : ∀ b, F2 b → b ≠ w.heap.size := fun b e => by have := hR.lt b e; omega
  have s1 : (w.alloc (.cells x.cs.toArray 41)).heap.size = w.heap.size + 1 := size_alloc1 _ _
  constructor
  · intro W hB
    have hB0 : Below w.heap.size w W := (below_alloc1 w _).trans (hB.mono (by rw [s1]; omega))
    have hX : InBox W w.heap.size x := (inBox_new w x).same (hB.block _ (by rw [s1]; omega))
    have hsz : w.heap.size < W.heap.size := by have := hB.size; rw [s1] at this; omega
    refine (cw W hB0).mono ?_
    rintro e w' ⟨rfl, F1', hc', hk, hf⟩
    refine ⟨rfl, hX.same (hk.block _ hsz (fun q => hb1 _ q rfl)), Nat.lt_of_lt_of_le hsz hk.size, F1', hc', (hR.fresh hB0).keep hk (fun b q1 q2 => hd b q2 q1), (Kept.fresh (S := F1) hB0).trans hk (fun _ h => .inl h), fun b q => ?_, fun b q1 q2 => ?_⟩
    · rcases hf b q with q | q
      · exact .inl q
      · have := hB0.size; exact .inr (by omega)
    · rcases hf b q1 with q | q
      · exact hd b q q2
      · have := hR.lt b q2; have := hB0.size; omega
  · rintro W W' ⟨hX, hsz, F1', h1, h2, h3, h4, h5⟩ hB
    exact ⟨hX.same (hB.block _ hsz), Nat.lt_of_lt_of_le hsz hB.size, F1', h1.fresh hB, h2.fresh hB, h3.trans (Kept.fresh (S := F1) hB) (fun _ h => .inl h), h4, h5⟩
  · rintro W ⟨hX, hsz, F1', h1, h2, h3, h4, h5⟩
    refine (rw W h2 h3).mono ?_
    rintro e w' ⟨rfl, F2', hr', hk, hf⟩
    refine ⟨rfl, hX.same (hk.block _ hsz (fun q => hb2 _ q rfl)), _, ⟨F1', F2', h1.keep hk h5, hr', fun b q1 q2 => ?_, rfl⟩, ?_, ?_⟩
    · rcases hf b q2 with q | q
      · exact h5 b q1 q
      · have := h1.lt b q1; omega
    · exact (h3.more (fun b q => .inl (.inl q))).trans hk (fun b q => .inl (.inr q))
    · rintro b (q | q)
      · rcases h4 b q with q | q
        · exact .inl (.inl q)
        · exact .inr q
      · rcases hf b q with q | q
        · exact .inl (.inr q)
        · exact .inr (by omega)
/-- what a deed makes of the blocks -/
def doS (n : Nat) (S : Nat → Bk) (x : Dd) : Nat → Bk :=
  if x.kind = 0 then (if 0 ≤ x.i ∧ x.i < n then (if (S x.i.toNat).b = true then S else upd S x.i.toNat ⟨(S x.i.toNat).s, (S x.i.toNat).v ++ [uniS x.c], (S x.i.toNat).b⟩) else S)
  else if x.kind = 1 then (fun j => (S j).flushed)
  else if x.kind = 2 then crashed n S x.pick
  else if x.kind = 3 then (if 0 ≤ x.i ∧ x.i < n then upd S x.i.toNat ⟨(S x.i.toNat).s, (S x.i.toNat).v, x.bad⟩ else S)
  else S
/-- a deed that may be asked: its numbers, and where its picks lie -/
structure DdOk (w : World) (F : Nat → Prop) (x : Dd) : Prop where
  c0 : 0 ≤ x.c ∧ x.c ≤ 255
  pw : ∀ y ∈ x.pick, -9223372036854775808 ≤ y ∧ y ≤ 9223372036854775807
  at_ : PickAt w F x.P x.pick
theorem PickAt.kept {w W : World} {F G G' : Nat → Prop} {P : Option Addr} {pick : List Int} (h : PickAt w F P pick) (hk : Kept w W G) (hg : ∀ b, G b → F b) (hg' : ∀ b, G' b → F b) : PickAt W G' P pick := by
  rcases h with h | ⟨b, o, h1, h2, h3, h4⟩
  · exact .inl h
  · exact .inr ⟨b, o, h1, Nat.lt_of_lt_of_le h2 hk.size, fun q => h3 (hg' b q), fun j u hj => by rw [hk.cell (a := ⟨b, o + j, none⟩) h2 (fun q => h3 (hg b q))]; exact h4 j u hj⟩
set_option maxRecDepth 100000 in
theorem do_any {w : World} {d r n c : Nat} {S : Nat → Bk} {F : Nat → Prop} (h : Both w d r n S c F) (hc : c < 50000) (x : Dd) (hx : DdOk w F x) :
    Calls Try.prog 28 #[.pointer (some ⟨d, 0, none⟩), .pointer (some ⟨r, 0, none⟩), x.v] w fun e w' => e = .returned (.bool true) ∧ Went w w' F (Both w' d r n (doS n S x) (c + 1)) := by
  obtain ⟨F1, F2, hC, hR, hd, rfl⟩ := h
  unfold doS
  by_cases k0 : x.kind = 0
  · rw [if_pos k0]
    by_cases hi : 0 ≤ x.i ∧ x.i < n
    · obtain ⟨i, hie⟩ : ∃ i : Nat, x.i = (i : Int) := ⟨x.i.toNat, by omega⟩
      have hi' : i < n := by omega
      rw [if_pos hi, hie, Int.toNat_natCast]
      cases hb : (S i).b with
      | true =>
        rw [if_pos rfl]
        refine do_walk0 w d r x 10 _ _ k0 (doH_of (c' := c + 1) hC hR hd (fun W hB => ?_) (fun W hRW _ => ?_))
        · rw [hie]
          refine (cbad (hC.fresh hB) hi' hb _).mono ?_
          rintro e w' ⟨rfl, hB2⟩
          exact ⟨rfl, Went.of_below (((hC.fresh hB).fresh hB2).mono (by omega)) hB2⟩
        · rw [hie]
          refine (rbad hRW hi' hb _).mono ?_
          rintro e w' ⟨rfl, hB2⟩
          exact ⟨rfl, Went.of_below ((hRW.fresh hB2).mono (by omega)) hB2⟩
      | false =>
        rw [if_neg (by decide)]
        refine do_walk0 w d r x 0 _ _ k0 (doH_of (c' := c + 1) hC hR hd (fun W hB => ?_) (fun W hRW _ => ?_))
        · rw [hie]
          have := cwrite (hC.fresh hB) hi' hb (uniS_ok hx.c0) (by omega)
          rw [hb] at this
          exact this
        · rw [hie]
          have := rwrite hRW hi' hb (uniS_ok hx.c0) (by omega)
          rw [hb] at this
          exact this
    · rw [if_neg hi]
      refine do_walk0 w d r x 2 _ _ k0 (doH_of (c' := c + 1) hC hR hd (fun W hB => ?_) (fun W hRW _ => ?_))
      · refine (cwrite_no (hC.fresh hB) x.i hi _).mono ?_
        rintro e w' ⟨rfl, hB2⟩
        exact ⟨rfl, Went.of_below (((hC.fresh hB).fresh hB2).mono (by omega)) hB2⟩
      · refine (rwrite_no hRW x.i hi _).mono ?_
        rintro e w' ⟨rfl, hB2⟩
        exact ⟨rfl, Went.of_below ((hRW.fresh hB2).mono (by omega)) hB2⟩
  · rw [if_neg k0]
    by_cases k1 : x.kind = 1
    · rw [if_pos k1]
      refine do_walk1 w d r x 0 _ _ k1 (doH_of (c' := c + 1) hC hR hd (fun W hB => ?_) (fun W hRW _ => ?_))
      · refine (cflush (hC.fresh hB) (by omega)).mono ?_
        rintro e w' ⟨rfl, hw⟩
        exact ⟨rfl, hw.mono (fun _ q => q.mono (by omega))⟩
      · refine (rflush hRW (by omega)).mono ?_
        rintro e w' ⟨rfl, hw⟩
        exact ⟨rfl, hw.mono (fun _ q => q.mono (by omega))⟩
    · rw [if_neg k1]
      by_cases k2 : x.kind = 2
      · rw [if_pos k2]
        refine do_walk2 w d r x 0 _ _ k2 (doH_of (c' := c + 1) hC hR hd (fun W hB => ?_) (fun W hRW hK => ?_))
        · refine (ccrash (hC.fresh hB) (by omega) x.pick hx.pw x.P x.pc (hx.at_.kept (Kept.fresh (S := F1) hB) (fun _ q => .inl q) (fun _ q => .inl q))).mono ?_
          rintro e w' ⟨rfl, hw⟩
          exact ⟨rfl, hw.mono (fun _ q => q.mono (by omega))⟩
        · refine (rcrash hRW (by omega) x.pick hx.pw x.P x.pc (hx.at_.kept hK (fun _ q => .inl q) (fun _ q => .inr q))).mono ?_
          rintro e w' ⟨rfl, hw⟩
          exact ⟨rfl, hw.mono (fun _ q => q.mono (by omega))⟩
      · rw [if_neg k2]
        by_cases k3 : x.kind = 3
        · rw [if_pos k3]
          by_cases hi : 0 ≤ x.i ∧ x.i < n
          · obtain ⟨i, hie⟩ : ∃ i : Nat, x.i = (i : Int) := ⟨x.i.toNat, by omega⟩
            have hi' : i < n := by omega
            rw [if_pos hi, hie, Int.toNat_natCast]
            refine do_walk3 w d r x 0 _ _ k3 (doH_of (c' := c + 1) hC hR hd (fun W hB => ?_) (fun W hRW _ => ?_))
            · rw [hie]
              refine (cspoil (hC.fresh hB) hi' x.bad).mono ?_
              rintro e w' ⟨rfl, hw⟩
              exact ⟨rfl, hw.mono (fun _ q => q.mono (by omega))⟩
            · rw [hie]
              refine (rspoil hRW hi' x.bad).mono ?_
              rintro e w' ⟨rfl, hw⟩
              exact ⟨rfl, hw.mono (fun _ q => q.mono (by omega))⟩
          · rw [if_neg hi]
            refine do_walk3 w d r x 2 _ _ k3 (doH_of (c' := c + 1) hC hR hd (fun W hB => ?_) (fun W hRW _ => ?_))
            · refine (cspoil_no (hC.fresh hB) x.i hi x.bad).mono ?_
              rintro e w' ⟨rfl, rfl⟩
              exact ⟨rfl, Went.of_below ((hC.fresh hB).mono (by omega)) (Below.refl _ _)⟩
            · refine (rspoil_no hRW x.i hi x.bad).mono ?_
              rintro e w' ⟨rfl, rfl⟩
              exact ⟨rfl, Went.of_below (hRW.mono (by omega)) (Below.refl _ _)⟩
        · rw [if_neg k3]
          refine (do_walkN w d r x k0 k1 k2 k3).mono ?_
          rintro e w' ⟨rfl, hB⟩
          have hBo : Both w d r n S c (fun b => F1 b ∨ F2 b) := ⟨F1, F2, hC, hR, hd, rfl⟩
          exact ⟨rfl, Went.of_below ((hBo.fresh hB).mono (by omega)) hB⟩
end Go.Proofs.Ytieeibdhaoaeaaa
