/- A row of units, sorted. -/
import Derived.Test.YtkldiofleepkfaaHH
import Derived.Shelf.SlSortCmp.NoneTotal
set_option linter.unusedVariables false
set_option linter.unusedSimpArgs false
namespace Go.Proofs.Ytkldiofleepkfaa.Hd
open Go.RowKit
open Go.Maps (Keyed)
open Go.Shelf Go.Sort
theorem ltU (x y : Int) : ltOf Lib.compareInt x y = decide (x < y) := by
  unfold ltOf Lib.compareInt
  by_cases h1 : x < y
  · simp [h1]
  · by_cases h2 : y < x <;> simp [h1, h2]
theorem eq_of_rises {a b : List Int} (hp : a.Perm b) (ha : a.Pairwise (· ≤ ·)) (hb : b.Pairwise (· < ·)) : a = b :=
  hp.eq_of_pairwise (le := fun x y => x ≤ y) (fun x y _ _ h1 h2 => Int.le_antisymm h1 h2) ha (hb.imp (fun h => Int.le_of_lt h))
set_option maxHeartbeats 1000000 in
theorem sortU_any (up : Int → Nat) (ts us : List Int) (B : Nat) (A : Option Addr) (c : Nat) (w : World) (hp : ts.Perm us) (hus : us.Pairwise (· < ·)) (hr : w.ownsRow B 59 1 (.slice A ts.length c) ts.length (ts.map fun u => ptr (up u)))
    (hc : ∀ u ∈ us, up u < w.heap.size ∧ w.cell? ⟨up u, 0, none⟩ = some (.int .i64 u) ∧ own A ≠ some (up u)) (hl : ts.length ≤ 1000) :
    Calls Try.prog 46 #[.slice A ts.length c, .func (.func 47) #[] #[]] w fun e w' => e = .returned (.tuple #[]) ∧ w'.ownsRow B 59 1 (.slice A ts.length c) ts.length (us.map fun u => ptr (up u)) ∧ w.grownBy w' (Value.slice A ts.length c).ownBlock := by
  have hlen := hp.length_eq
  rcases hr.2 with ⟨q, h0⟩ | ⟨g, cap, cur, q, hB, hb, h1, h2, h3, h4⟩
  · obtain ⟨rfl, q2, rfl⟩ := Value.slice.inj q
    have ht : ts = [] := List.eq_nil_of_length_eq_zero (by omega)
    subst ht
    have hu : us = [] := List.eq_nil_of_length_eq_zero (by simpa using hlen.symm)
    subst hu
    refine (AnyF.slices_SortFunc_none (P := Try.prog) (ρ := Try.sortf46_ren) { Try.sortf46 with } none 0 _ w).mono ?_
    rintro e w' ⟨rfl, rfl⟩
    exact ⟨rfl, World.ownsRow_nil _ _ _ _, World.grownBy.refl _ _⟩
  · obtain ⟨rfl, _, rfl⟩ := Value.slice.inj q
    rw [Nat.mul_one] at h4
    have hmem : ∀ u ∈ ts, u ∈ us := fun u hu => hp.mem_iff.1 hu
    by_cases hne : ts = []
    · subst hne
      have hu : us = [] := List.eq_nil_of_length_eq_zero (by simpa using hlen.symm)
      subst hu
      refine (AnyF.slices_SortFunc_none (P := Try.prog) (ρ := Try.sortf46_ren) { Try.sortf46 with } (some ⟨g, 0, none⟩) c _ w).mono ?_
      rintro e w' ⟨rfl, rfl⟩
      exact ⟨rfl, hr, World.grownBy.refl _ _⟩
    · obtain ⟨u0, hu0⟩ : ∃ u0, u0 ∈ us := by
        cases ts with
        | nil => exact absurd rfl hne
        | cons a r => exact ⟨a, hmem a List.mem_cons_self⟩
      letI : Inhabited {u : Int // u ∈ us} := ⟨⟨u0, hu0⟩⟩
      obtain ⟨ss, hss⟩ : ∃ ss : List {u : Int // u ∈ us}, ss = ts.pmap (fun u h => ⟨u, h⟩) hmem := ⟨_, rfl⟩
      have hsl : ss.length = ts.length := by rw [hss, List.length_pmap]
      have hsv : ss.map (·.1) = ts := by rw [hss, List.map_pmap]; simp
      obtain ⟨enc, henc⟩ : ∃ enc : {u : Int // u ∈ us} → Value, enc = fun x => ptr (up x.1) := ⟨_, rfl⟩
      have hse : ss.map enc = ts.map fun u => ptr (up u) := by
        rw [← hsv, List.map_map, henc]; rfl
      rw [← hse, ← hsl] at h4
      have hH := holds_of_blockE (enc := enc) hb h4
      have hgl := (Array.getElem?_eq_some_iff.1 hb).1
      have eg : ∀ args w, (callFunc 47 args).run Try.prog w = .ok (.enter 47 args) w := enters_of Try.func47 (by kernel_rfl) rfl
      have hcmp : CmpLays1 Try.prog 47 #[] enc (fun x y : {u : Int // u ∈ us} => Lib.compareInt x.1 y.1) g 0 ss.toArray.size w := by
        refine CmpReads.lays (fun m os dk hs x y => ?_)
        have hcell : ∀ z : {u : Int // u ∈ us}, up z.1 < (sortWorld enc w g 0 m dk os).heap.size ∧ (sortWorld enc w g 0 m dk os).cell? ⟨up z.1, 0, none⟩ = some (.int .i64 z.1) := fun z => by
          obtain ⟨c1, c2, c3⟩ := hc z.1 z.2
          have hne : up z.1 ≠ g := fun e => c3 (by rw [e]; rfl)
          have hgr := grownBy_sortedE (enc := enc) (w := w) (g := g) (n := m) (os := os) dk
          exact ⟨Nat.lt_of_lt_of_le c1 hgr.size, (World.cell?_of_block (hgr.block _ c1 (by intro e; exact hne (Option.some.inj e)))).trans c2⟩
        subst henc
        exact cmpU_any _ _ _ _ _ (hcell x) (hcell y)
      have hswo : Go.Sort.SWO (ltOf (fun x y : {u : Int // u ∈ us} => Lib.compareInt x.1 y.1)) := by
        have e : ∀ x y : {u : Int // u ∈ us}, ltOf (fun x y : {u : Int // u ∈ us} => Lib.compareInt x.1 y.1) x y = decide (x.1 < y.1) := fun x y => ltU x.1 y.1
        exact ⟨fun x => by rw [e]; simp, fun x y z a b => by rw [e] at *; simp at *; omega, fun x y z a b => by rw [e] at *; simp at *; omega⟩
      have hcon := Any.slices_SortFunc Try.sortf46 enc (fun x => by rw [henc]; rfl) (fun x y => Lib.compareInt x.1 y.1) hswo 47 #[] g 0 c ss.toArray w eg hcmp hH hgl (by simp; omega)
      rw [show ss.toArray.size = ts.length by simp [hsl]] at hcon
      refine Calls.mono hcon ?_
      rintro e w' ⟨rfl, d', n, os, hpm, hso, rfl⟩
      have hds : d'.size = ts.length := by rw [hpm.1]; simp [hsl]
      have hperm : d'.toList.Perm ss := by
        have := hpm.2.2
        have e1 : (d'.extract 0 ts.length).toList = d'.toList := by rw [← hds]; simp
        have e2 : (ss.toArray.extract 0 ts.length).toList = ss := by rw [← hsl]; simp
        rwa [e1, e2] at this
      have hsorted : (d'.toList.map (·.1)).Pairwise (· ≤ ·) := by
        rw [List.pairwise_iff_getElem]
        intro i j hi hj hij
        have hj' : j < d'.size := by simpa using hj
        have := hso i j (Nat.zero_le _) hij (by omega)
        rw [getElem!_pos d' j hj', getElem!_pos d' i (by omega)] at this
        have h5 : decide (d'[j].1 < d'[i].1) = false := (ltU _ _).symm.trans this
        simp at h5 ⊢
        omega
      have hfin : d'.toList.map (·.1) = us := eq_of_rises ((hperm.map _).trans (by rw [hsv]; exact hp)) hsorted hus
      have hE : d'.toList.map enc = us.map fun u => ptr (up u) := by
        have : (d'.toList.map (·.1)).map (fun u => ptr (up u)) = us.map fun u => ptr (up u) := by rw [hfin]
        rw [← this, List.map_map, henc]; rfl
      refine ⟨rfl, ?_, grownBy_sortedE d'⟩
      have := ownsRow_sortedE (enc := enc) (n := n) (os := os) (ts := d'.toList) (ss := ss) (by rw [hperm.length_eq]) hB hb (by omega) h2 h3
      rw [hE, hsl] at this
      simpa [sortWorld] using this
end Go.Proofs.Ytkldiofleepkfaa.Hd
