/- What CylCodes compares: plain forms. -/
import Derived.Test.YtpcindemkkdbbaaNC
import Derived.Test.YtpcindemkkdbbaaRRB
import Derived.Test.YtpcindemkkdbbaaCG
set_option linter.unusedVariables false
set_option linter.unusedSimpArgs false
namespace Go.Proofs.Ytpcindemkkdbbaa.cylCodes
open Go.RowKit
def boxV (x : Cy) (A : Option Addr) (c : Nat) (B : Option Addr) (d : Nat) : Array Value := #[.int .i64 x.ix, .int .i64 x.bl, .int .i64 x.fb, .int .i64 x.fi, .int .i64 x.ro, .slice A x.us.length c, .slice B x.is.length d]
theorem boxV_v (x : Cy) (A : Option Addr) (c : Nat) (B : Option Addr) (d : Nat) : x.v A c B d = .agg (boxV x A c B d) := rfl
theorem boxV_size (x : Cy) (A : Option Addr) (c : Nat) (B : Option Addr) (d : Nat) : (Try.prog.info? 24).map (·.size) = some (boxV x A c B d).size := by kernel_rfl
theorem boxV_one (x : Cy) (A : Option Addr) (c : Nat) (B : Option Addr) (d : Nat) : (boxV x A c B d).all (·.oneCell') = true := by simp [boxV, Value.oneCell']
theorem setRow_kept (W : World) (g : Nat) (cs : Array Value) : Kept W (W.setRow g cs) (fun k => k = g) := ⟨rfl, rfl, rfl, by simp [World.setRow], fun k _ hn => setRow_other W g k cs hn⟩
theorem two {W : World} {g : Nat} {t : TypeId} {x0 x1 : Value} (h : W.heap[g]? = some (.cells #[x0, x1] t (0, 0))) : W.cell? ⟨g, 0, none⟩ = some x0 ∧ W.cell? ⟨g, 1, none⟩ = some x1 := by
  have h0 := cellAt_of h 0
  have h1 := cellAt_of h 1
  exact ⟨h0, h1⟩
theorem text_row {w : World} {g c : Nat} {t : TypeId} {l : List Int} {n : Nat} (h : w.heap[g]? = some (.cells (Bs.bytesV l).toArray t (0, 0))) (hn : l.length = n) : (convert 25 9 (.slice (some ⟨g, 0, none⟩) n c)).run Try.prog w = .ok (.string (strOfNums l)) w := by
  subst hn
  refine run_convert_bytes_arg w 25 5 Try.underlying25 Try.underlying5 g 0 l.length c l rfl (fun i hi => ?_) 9 Try.underlying9
  rw [Nat.zero_add]; exact row_cell h hi
theorem text_empty (w : World) (A : Option Addr) (c : Nat) : (convert 25 9 (.slice A 0 c)).run Try.prog w = .ok (.string (strOfNums [])) w := by
  rw [run_convert_bytes_string w 25 9 5 _ 0 c Try.underlying25 Try.underlying5 Try.underlying9]
  cases A <;> simp [Conv.bytesToString, loadCells, loadCellsFrom, strOfNums] <;> rfl
/-- what Encode answers, as it is compared -/
def EncT (w : World) (er : Int) (st : ByteArray) (e : Ending) (w' : World) : Prop :=
  ∃ v, e = .returned (.tuple #[v, .int .i64 er]) ∧ (∀ W, Below w'.heap.size w' W → (convert 25 9 v).run Try.prog W = .ok (.string st) W) ∧ Below w.heap.size w w'
def encE (y : Cy) : Int := if rightC y = true then 0 else 3
def encS (y : Cy) : ByteArray := if rightC y = true then strOfNums (bytesL y) else strOfNums []
theorem EncT.of {w : World} {y : Cy} {e : Ending} {w' : World} (h : EncSays w y e w') : EncT w (encE y) (encS y) e w' := by
  unfold encE encS
  rcases h with ⟨hr, g, rfl, _, hg, hB⟩ | ⟨hr, rfl, hB⟩
  · exact ⟨_, by rw [hr]; rfl, fun W hW => by rw [hr, if_pos rfl]; exact text_row ((hW.block _ (lt_heap hg)).trans hg) (length_bytesL y), hB⟩
  · exact ⟨_, by rw [hr]; rfl, fun W hW => by rw [hr]; exact text_empty W none 0, hB⟩
theorem EncT.of_ref {w : World} {y : Cy} {e : Ending} {w' : World} (h : REncSays w y e w') : EncT w (encE y) (encS y) e w' := by
  unfold encE encS
  rcases h with ⟨hr, g, rfl, _, hg, hB⟩ | ⟨hr, rfl, hB⟩
  · exact ⟨_, by rw [hr]; rfl, fun W hW => by rw [hr, if_pos rfl]; exact text_row ((hW.block _ (lt_heap hg)).trans hg) (length_bytesL y), hB⟩
  · exact ⟨_, by rw [hr]; rfl, fun W hW => by rw [hr]; exact text_empty W none 0, hB⟩
/-- a group that came back, with lists below the world's end, and an error -/
def CyT (w : World) (z : Cy) (er : Int) (e : Ending) (w' : World) : Prop :=
  ∃ R r R2 r2, e = .returned (.tuple #[.agg (boxV z R r R2 r2), .int .i64 er]) ∧ Ints w' w'.heap.size R z.us ∧ Ints w' w'.heap.size R2 z.is ∧ Below w.heap.size w w'
theorem CyT.of {w : World} {z : Cy} {er : Int} {e : Ending} {w' : World} (h : CySays w z er e w') : CyT w z er e w' := by
  obtain ⟨R, r, R2, r2, rfl, h1, h2, _, hB⟩ := h
  exact ⟨R, r, R2, r2, rfl, h1.ints, h2.ints, hB⟩
def decZ (l : List Int) : Cy := if okD l = true then saidC l else cy0
def decE (l : List Int) : Int := if okD l = true then 0 else 3
theorem CyT.of_dec {w : World} {l : List Int} {e : Ending} {w' : World} (h : DecSays w l e w') : CyT w (decZ l) (decE l) e w' := by
  unfold decZ decE
  rcases h with ⟨hr, R, r, R2, r2, rfl, h1, h2, _, hB⟩ | ⟨hr, rfl, hB⟩
  · rw [hr]; exact ⟨R, r, R2, r2, rfl, h1.ints, h2.ints, hB⟩
  · rw [hr]; exact ⟨none, 0, none, 0, rfl, Ints.nil, Ints.nil, hB⟩
/-- a box that holds a group -/
def BoxAt (W : World) (g : Nat) (z : Cy) : Prop := ∃ R r R2 r2, W.heap[g]? = some (.cells (boxV z R r R2 r2) 24 (0, 0)) ∧ Ints W W.heap.size R z.us ∧ Ints W W.heap.size R2 z.is
theorem BoxAt.next {W W' : World} {g : Nat} {z : Cy} (h : BoxAt W g z) (hB : Below W.heap.size W W') : BoxAt W' g z := by
  obtain ⟨R, r, R2, r2, hg, h1, h2⟩ := h
  exact ⟨R, r, R2, r2, (hB.block _ (lt_heap hg)).trans hg, h1.next hB, h2.next hB⟩
theorem BoxAt.lt {W : World} {g : Nat} {z : Cy} (h : BoxAt W g z) : g < W.heap.size := by obtain ⟨_, _, _, _, hg, _⟩ := h; exact lt_heap hg
/-- a box that is made for a group, and filled -/
def zeroB : Array Value := #[.int .i64 0, .int .i64 0, .int .i64 0, .int .i64 0, .int .i64 0, .slice none 0 0, .slice none 0 0]
theorem box_new {W : World} {z : Cy} {R R2 : Option Addr} {r r2 : Nat} (h1 : Ints W W.heap.size R z.us) (h2 : Ints W W.heap.size R2 z.is) :
    BoxAt ((W.alloc (.cells zeroB 24)).setRow W.heap.size (boxV z R r R2 r2)) W.heap.size z ∧ Below W.heap.size W ((W.alloc (.cells zeroB 24)).setRow W.heap.size (boxV z R r R2 r2)) := by
  have hb := below_setRow ((Below.refl W.heap.size W).alloc (Nat.le_refl _) (.cells zeroB 24)) (Nat.le_refl _) (boxV z R r R2 r2)
  exact ⟨⟨R, r, R2, r2, setRow_heap _ _ _ (boxV z R r R2 r2) _ _ (Go.heap_alloc_new W (.cells zeroB 24)), h1.next hb, h2.next hb⟩, hb⟩
theorem rebZ_small {y : Cy} (h : SmallC y) : SmallC (if rightC (recount y) = true then recount y else cy0) := by
  split
  · exact h
  · exact ⟨by simp [cy0], by simp [cy0]⟩
theorem newZ_small (a b : Int) : SmallC (if rightC (bare a b) = true then bare a b else cy0) := by
  split <;> exact ⟨by simp [cy0, bare], by simp [cy0, bare]⟩
theorem decZ_small (l : List Int) : SmallC (decZ l) := by
  unfold decZ
  split
  · exact ⟨(said_small l).1, (said_small l).2⟩
  · exact ⟨by simp [cy0], by simp [cy0]⟩
end Go.Proofs.Ytpcindemkkdbbaa.cylCodes
