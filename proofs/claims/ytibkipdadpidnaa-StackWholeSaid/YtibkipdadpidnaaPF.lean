/- The contract of 'cut': the patch that writes the bytes from one on to another one as they stand in a block. -/
import Derived.Test.YtibkipdadpidnaaPE
namespace Go.Proofs.Ytibkipdadpidnaa.Pat
set_option linter.unusedVariables false
set_option linter.unusedSimpArgs false
set_option maxRecDepth 100000
open Go.RowKit

def part (l : List Int) (f t : Nat) : List Int := (l.take t).drop f
theorem length_part (l : List Int) (f t : Nat) (h : t ≤ l.length) : (part l f t).length = t - f := by simp [part]; omega
theorem part_all {l : List Int} (h : AllB l) (f t : Nat) : AllB (part l f t) := fun x hx => h x (List.mem_of_mem_take (List.mem_of_mem_drop hx))
theorem nth_part (l : List Int) (f t j : Nat) (h : f + j < t) : nth (part l f t) j = nth l (f + j) := by
  unfold nth part
  rw [List.getD_eq_getElem?_getD, List.getD_eq_getElem?_getD, List.getElem?_drop, List.getElem?_take, if_pos h]
theorem info38 : (Try.prog.info? 38).map (·.size) = some 3 := by kernel_rfl
/-- what 'cut' answers -/
def cutP (b : Int) (l : List Int) (f t : Nat) : Pt := ⟨b, f, strOfNums (part l f t)⟩

set_option maxRecDepth 100000 in
/-- 'string(b[from:to])' -/
theorem text_part {w : World} {B : Nat} {b off : Nat} {l : List Int} (hb : Bts w B (some ⟨b, off, none⟩) l) (f t c : Nat) (hf : f < t) (ht : t ≤ l.length) (src : TypeId) (hs : Try.prog.underlying src = some (.slice 5)) :
    (convert src 9 (.slice (some ⟨b, off + f, none⟩) (t - f) c)).run Try.prog w = .ok (.string (strOfNums (part l f t))) w := by
  have hlen := length_part l f t ht
  refine run_convert_bytes_arg w src 5 hs Try.underlying5 b (off + f) (t - f) c (part l f t) hlen ?_ 9 Try.underlying9
  intro i hi
  have h1 := nth_part l f t i (by omega)
  obtain ⟨b', o', e, _, hc⟩ := hb.2 (by omega)
  injection e with e; injection e with e1 e2; subst e1; subst e2
  have := hc (f + i) (by omega)
  rw [Nat.add_assoc, this, ← h1]
  rfl

set_option maxRecDepth 100000 in
set_option maxHeartbeats 1000000 in
theorem cut_any (bl : Int) (A : Option Addr) (c : Nat) (l : List Int) (f t : Nat) (w : World) (hb : Bts w w.heap.size A l) (hf : f < t) (ht : t ≤ l.length) (hc : l.length ≤ c) :
    Calls Try.prog 72 #[.int .i64 bl, .slice A l.length c, .int .i64 (f : Int), .int .i64 (t : Int)] w fun e w' => e = .returned (cutP bl l f t).v ∧ Below w.heap.size w w' := by
  obtain ⟨b, off, rfl, hbb, _⟩ := hb.at_ (show f < l.length by omega)
  have hbb0 := below_alloc1 w (.cells #[.int .i64 0, .int .i64 0, .string { data := #[] }] 38)
  have htx := fun c' => text_part (hb.below hbb0) f t c' hf ht 22 Try.underlying22

  have h1 : (f : Int) ≤ (t : Int) := by omega
  have h2 : (t : Int) ≤ (c : Int) := by omega
  have h3 : (0 : Int) ≤ (f : Int) := by omega
  go_enter Try.func72, Try.ntmps72
  go_wp2
  refine bodyPost_ret (v := (cutP bl l f t).v) ?_ rfl ⟨rfl, below_alloc1 w _⟩
  exact results_cell_row rfl _ _ w.heap.size 38 (cutP bl l f t).cs.toArray (0, 0) _ rfl (heap_alloc_new w _) Try.underlying38 rfl info38

theorem cutP_ok (bl : Int) (l : List Int) (f t : Nat) (h0 : 0 ≤ bl) (h1 : bl < 96) (hf : f < t) (ht : t ≤ l.length) (hl : l.length ≤ 32) : (cutP bl l f t).right = true := by
  refine Pt.right_in ⟨h0, h1, ?_, ?_, ?_, ?_⟩ <;> simp only [cutP, strOfNums_size, length_part l f t ht] <;> omega

/-- patches in memory -/
def pn (l : List Pt) (k : Nat) : Pt := l.getD k ⟨0, 0, ByteArray.empty⟩
def Pats (w : World) (B : Nat) (A : Option Addr) (l : List Pt) : Prop :=
  0 < l.length → ∃ b off, A = some ⟨b, off, none⟩ ∧ b < B ∧ ∀ j, j < l.length →
    w.cell? ⟨b, off + j * 3, none⟩ = some (.int .i64 (pn l j).b) ∧ w.cell? ⟨b, off + j * 3 + 1, none⟩ = some (.int .i64 (pn l j).o) ∧ w.cell? ⟨b, off + j * 3 + 2, none⟩ = some (.string (pn l j).s)
theorem pn_lt {l : List Pt} {k : Nat} (h : k < l.length) : pn l k = l[k] := by
  unfold pn; rw [List.getD_eq_getElem?_getD, List.getElem?_eq_getElem h]; rfl
section
variable {w w' : World} {B B' : Nat} {A : Option Addr} {l : List Pt}
theorem Pats.keep (h : Pats w B A l) (hk : ∀ p : Addr, p.block < B → w'.cell? p = w.cell? p) : Pats w' B A l := fun hn => by
  obtain ⟨b, off, e, hb, hc⟩ := h hn
  refine ⟨b, off, e, hb, fun j hj => ?_⟩
  rw [hk ⟨b, _, none⟩ hb, hk ⟨b, _, none⟩ hb, hk ⟨b, _, none⟩ hb]
  exact hc j hj
theorem Pats.more (h : Pats w B A l) (hB : B ≤ B') : Pats w B' A l := fun hn => by
  obtain ⟨b, off, e, hb, hc⟩ := h hn
  exact ⟨b, off, e, by omega, hc⟩
theorem Pats.below (h : Pats w B A l) (hb : Below B w w') : Pats w' B A l := h.keep fun _ hp => hb.cell hp
theorem Pats.nil : Pats w B A [] := fun h => by simp at h
end

/-- a block behind some patches, or none -/
def allP (b : List Int) (l : List Pt) : Option (List Int) := if l.all Pt.right then some (l.foldl put b) else none
theorem putAll_all {b : List Int} (hb : AllB b) (l : List Pt) : AllB (l.foldl put b) := by
  induction l generalizing b with
  | nil => exact hb
  | cons p l ih => exact ih (put_all hb p)
theorem length_putAll {b : List Int} (hb : b.length = 32) (l : List Pt) (h : l.all Pt.right = true) : (l.foldl put b).length = 32 := by
  induction l generalizing b with
  | nil => exact hb
  | cons p l ih =>
    simp only [List.all_cons, Bool.and_eq_true] at h
    exact ih (length_put h.1 hb) h.2
theorem take_step (l : List Pt) (k : Nat) (h : k < l.length) : l.take (k + 1) = l.take k ++ [pn l k] := by
  rw [pn_lt h, List.take_add_one, List.getElem?_eq_getElem h]; rfl
/-- what All and Apply answer -/
def Ans (w : World) (r : Option (List Int)) (e : Ending) (w' : World) : Prop :=
  Below w.heap.size w w' ∧ match r with
    | some m => ∃ A c, e = .returned (.tuple #[.slice A 32 c, .int .i64 0]) ∧ 32 ≤ c ∧ c ≤ maxLen ∧ Bts w' w'.heap.size A m ∧ m.length = 32
    | none => e = .returned (.tuple #[.slice none 0 0, .int .i64 3])
end Go.Proofs.Ytibkipdadpidnaa.Pat
