/- The bytes of a patch, all the same, as the law makes them. -/
import Derived.Test.YtegacggkdjgdiaaCS
set_option linter.unusedVariables false
set_option linter.unusedSimpArgs false
namespace Go.Proofs.Ytegacggkdjgdiaa
open Go.RowKit

/-- n bytes, of which the first k are done -/
def fillD (n k : Nat) (v : Int) : List Int := List.replicate k v ++ List.replicate (n - k) 0
theorem fillD_zero (n : Nat) (v : Int) : (madeCells #[Value.int .u8 0] n).toList = bytesV (fillD n 0 v) := by
  unfold fillD
  simp only [bytesV, byteV, madeCells, List.replicate_zero, List.nil_append, Nat.sub_zero, List.map_replicate]
  refine List.ext_getElem (by simp) fun i h1 h2 => ?_
  simp [Nat.mod_one]
theorem fillD_step {n k : Nat} (hk : k < n) (v : Int) : (bytesV (fillD n k v)).set k (.int .u8 v) = bytesV (fillD n (k + 1) v) := by
  unfold fillD
  rw [bytesV_app, bytesV_app, List.set_append_right _ _ (by simp [bytesV])]
  have e : n - k = (n - (k + 1)) + 1 := by omega
  rw [e, List.replicate_succ]
  simp [bytesV, byteV, List.replicate_succ']
theorem fillD_all (n : Nat) (v : Int) : fillD n n v = List.replicate n v := by simp [fillD]
theorem fillD_len {n k : Nat} (hk : k ≤ n) (v : Int) : (fillD n k v).length = n := by simp [fillD]; omega
theorem same_bytes {n : Nat} {v : Int} (h0 : 0 ≤ v) (h1 : v < 256) : sb (strOfNums (List.replicate n v)) = List.replicate n v :=
  sb_strOf _ fun x hx => by rw [(List.mem_replicate.1 hx).2]; exact ⟨h0, by omega⟩
theorem same_size {n : Nat} {v : Int} (h0 : 0 ≤ v) (h1 : v < 256) : (strOfNums (List.replicate n v)).size = n := by
  rw [← length_sb, same_bytes h0 h1, List.length_replicate]
theorem same_mark {n : Nat} {v : Int} (h0 : 0 ≤ v) (h1 : v < 256) {j : Nat} (hj : j < n) : nth (sb (strOfNums (List.replicate n v))) j = v := by
  rw [same_bytes h0 h1, nth_lt (by simpa using hj)]; simp
/-- the text of such a row -/
theorem row_text {w : World} {B g n cap : Nat} {l : List Int} (h : w.ownsRow B 5 1 (.slice (some ⟨g, 0, none⟩) n cap) n (bytesV l)) (hl : l.length = n) : (convert 23 9 (.slice (some ⟨g, 0, none⟩) n cap)).run Try.prog w = .ok (.string (strOfNums l)) w := by
  refine run_convert_bytes_arg w 23 5 Try.underlying23 Try.underlying5 g 0 n cap l hl (fun i hi => ?_) 9 Try.underlying9
  rw [Nat.zero_add, h.cellAt i (by omega)]
  simp [bytesV, byteV, hl, hi]
end Go.Proofs.Ytegacggkdjgdiaa
