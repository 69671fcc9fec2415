/- Thin's rows; a function that is left with many marks of loops; makes of slices. -/
import Derived.Test.YtmekffcpbjmffaaJ
namespace Go.Proofs.Ytmekffcpbjmffaa
open Go.RowKit

def clr (m : Nat → Bool) (p : List Nat) : Nat → Bool := fun x => m x && !decide (x ∈ p)
theorem clr_nil (m : Nat → Bool) : clr m [] = m := by funext x; simp [clr]
theorem clr_snoc (m : Nat → Bool) (p : List Nat) (d : Nat) : clr m (p ++ [d]) = fun x => clr m p x && !(x == d) := by
  funext x
  simp only [clr, Bool.and_assoc]
  congr 1
  rw [Bool.eq_iff_iff]; simp
/-- what is marked of a row's numbers; of all that must come ahead of one of them -/
def ownM (D : List (List Nat)) (k : Nat) : Nat → Bool := markI D.length (natsI (rowN D k))
def sayM (D : List (List Nat)) (k : Nat) : Nat → Bool := foldR D (fun _ => false) (listM 256 (ownM D k))
def saidM (D : List (List Nat)) (k : Nat) : Nat → Bool := upM D (sayM D k) 256
def thinRow (D : List (List Nat)) (k : Nat) : List Nat := listM 256 (clr (ownM D k) (listM 256 (saidM D k)))
def thinL (D : List (List Nat)) : List (List Nat) := (List.range D.length).map (thinRow D)
theorem length_thinL (D : List (List Nat)) : (thinL D).length = D.length := by simp [thinL]
theorem mem_natsI {p : List Nat} {j : Nat} : (j : Int) ∈ natsI p ↔ j ∈ p := by
  constructor
  · intro h
    obtain ⟨i, hi, e⟩ := List.mem_map.1 h
    have : i = j := by omega
    rw [← this]; exact hi
  · intro h
    exact List.mem_map.2 ⟨j, h, rfl⟩
theorem ownM_iff {D : List (List Nat)} (hD : Right D) {k x : Nat} : ownM D k x = true ↔ x ∈ rowN D k := by
  unfold ownM markI
  simp only [Bool.and_eq_true, decide_eq_true_eq, mem_natsI]
  exact ⟨fun h => h.2, fun h => ⟨hD.row_lt k x h, h⟩⟩
theorem ownM_lt {D : List (List Nat)} {k x : Nat} (h : ownM D k x = true) : x < D.length := markI_lt h
theorem foldR_iff (D : List (List Nat)) (pre : List Nat) : ∀ m x, foldR D m pre x = true ↔ m x = true ∨ ∃ d ∈ pre, x ∈ rowN D d := by
  induction pre with
  | nil => intro m x; simp [foldR]
  | cons a pre ih =>
    intro m x
    show foldR D (addAll m (rowN D a)) pre x = true ↔ _
    rw [ih, addAll_true]
    simp [or_assoc]
theorem sayM_iff {D : List (List Nat)} (hD : Right D) {k x : Nat} : sayM D k x = true ↔ ∃ d ∈ rowN D k, x ∈ rowN D d := by
  unfold sayM
  rw [foldR_iff]
  simp only [Bool.false_eq_true, false_or]
  constructor
  · rintro ⟨d, hd, hx⟩; exact ⟨d, (ownM_iff hD).1 (mem_listM.1 hd).2, hx⟩
  · rintro ⟨d, hd, hx⟩; exact ⟨d, mem_listM.2 ⟨Nat.lt_of_lt_of_le (hD.row_lt k d hd) hD.1, (ownM_iff hD).2 hd⟩, hx⟩
theorem sayM_lt {D : List (List Nat)} (hD : Right D) {k x : Nat} (h : sayM D k x = true) : x < D.length := by
  obtain ⟨d, _, hx⟩ := (sayM_iff hD).1 h
  exact hD.row_lt d x hx
theorem saidM_iff {D : List (List Nat)} (hD : Right D) {k x : Nat} : saidM D k x = true ↔ ∃ d ∈ rowN D k, Must D x d := by
  unfold saidM
  rw [upM_iff hD.2 (fun y h => Nat.lt_of_lt_of_le (sayM_lt hD h) hD.1)]
  constructor
  · rintro (h | ⟨y, h, hk⟩)
    · obtain ⟨d, hd, hx⟩ := (sayM_iff hD).1 h; exact ⟨d, hd, .one hx⟩
    · obtain ⟨d, hd, hx⟩ := (sayM_iff hD).1 h; exact ⟨d, hd, hk.trans (.one hx)⟩
  · rintro ⟨d, hd, hm⟩
    obtain ⟨z, hz, rfl | hk⟩ := hm.last
    · exact .inl ((sayM_iff hD).2 ⟨d, hd, hz⟩)
    · exact .inr ⟨z, (sayM_iff hD).2 ⟨d, hd, hz⟩, hk⟩
/-- THIN: those of the row that must not come ahead of another one of it -/
theorem mem_thinRow {D : List (List Nat)} (hD : Right D) {k x : Nat} : x ∈ thinRow D k ↔ x ∈ rowN D k ∧ ¬ ∃ d ∈ rowN D k, Must D x d := by
  unfold thinRow
  rw [mem_listM]
  simp only [clr, Bool.and_eq_true, Bool.not_eq_true', decide_eq_false_iff_not, mem_listM, ownM_iff hD, saidM_iff hD]
  constructor
  · rintro ⟨h1, h2, h3⟩; exact ⟨h2, fun h => h3 ⟨h1, h⟩⟩
  · rintro ⟨h2, h3⟩; exact ⟨Nat.lt_of_lt_of_le (hD.row_lt k x h2) hD.1, h2, fun h => h3 h.2⟩

def markD (D : Nat) : Deferred := { target := .collected D, args := #[] }
/-- all marks are taken in, one behind the other -/
theorem leaves_marks {F : Fence} {n : Nat} {P : Program} {fn : Func} {tmps : Array Value} {R : Ending → World → Prop} {base : Nat} (T : World → Prop)
    (hT : ∀ W D, T W → base ≤ D → W.heap[D]? = some (.deferred (some [])) → T (W.putObj D (.deferred none)))
    (hfin : ∀ W, T W → LeavesInM F n P fn tmps R [] .returning W) : ∀ (L : List Nat) (W : World), L.Nodup → (∀ D ∈ L, base ≤ D ∧ W.heap[D]? = some (.deferred (some []))) → T W → LeavesInM F n P fn tmps R (L.map markD) .returning W := by
  intro L
  induction L with
  | nil => intro W _ _ h; exact hfin W h
  | cons D L ih =>
    intro W hn hL h
    obtain ⟨hD, hk⟩ := hL D (by simp)
    obtain ⟨hn1, hn2⟩ := List.nodup_cons.1 hn
    refine ⟨by simp, .inl ⟨D, _, rfl, run_takeDeferred hk, ih _ hn2 (fun D' h' => ?_) (hT W D h hD hk)⟩⟩
    obtain ⟨h1, h2⟩ := hL D' (List.mem_cons_of_mem _ h')
    exact ⟨h1, (World.putObj_heap_other (fun e => hn1 (by rw [← e]; exact h'))).trans h2⟩
end Go.Proofs.Ytmekffcpbjmffaa
