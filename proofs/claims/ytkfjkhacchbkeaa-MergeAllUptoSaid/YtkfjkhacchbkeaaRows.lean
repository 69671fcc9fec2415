/-
  No cell of these rows narrows 'for every input' (looked for: loops, veiled, ifaces, maps, wideKeys, modest, calm, conditions, laid).
  DERIVED. THE GIVEN ROWS OF THIS SEAT. 10 by the template 'for every input the law returns true; each argument reads behind the call as it read before'; 0 by the template 'total and deterministic' (their statements: YtkfjkhacchbkeaaTotals.lean).
  GIVEN WITH THE SEED: the statements are not yours to turn. If you find one false, say at which input.
  Laid BY PROGRAM, IN A SANDBOX (cutbox-rows.mjs): the forced cells as the released guide's own fill.sh prints them over the translation 4f02704f62c38987… (all of the seat's roots in one cut). By AI agents, Wed Nov 11 2026. No macro, syntax, notation, axiom, sorry.
-/
import Derived.Test.YtkfjkhacchbkeaaChecked
import GoSem.Claim
import GoSem.ClaimJoined
import GoSem.ClaimMapViews
import Derived.JoinedTies
import Derived.KernelRfl
namespace Go.Proofs.Ytkfjkhacchbkeaa
/- THE CELL 'sum', in the pinned program and in every row, IS THE sha256 OF THE DUMP (.gsa) THAT YtkfjkhacchbkeaaProg.lean LOADS. Nothing in Lean hashes anything: it is a label: what it is worth is what the hold of that sum in a sandbox is worth. -/
noncomputable def Try.pinned : Pinned := { name := "ytkfjkhacchbkeaa", sum := "4f02704f62c38987bdfcd10dcada908b5fcf5f6cc024e1a2f5a382722d096abe", checked := Try.checked }
namespace Rows
def none {H : Type} : Left H := { results := [], args := [] }

/-- 'selvedgelaw06.MergeGroups': WHATEVER THE INPUT: true; the input reads as it did. -/
def mergeGroupsSpec : ChangeSpec := { name := "mergeGroups", fn := fun _ => fun
  | [d] => { results := [.lit (.bool true)], args := [d] }
  | _ => none }
def mergeGroupsRow : OpenClaim := { program := "ytkfjkhacchbkeaa", sum := "4f02704f62c38987bdfcd10dcada908b5fcf5f6cc024e1a2f5a382722d096abe", func := "selvedge/selvedgelaw06.MergeGroups", spec := "mergeGroups", unfollowed := true, recurses := true, apart := false }
def MergeGroupsSaid : Prop := mergeGroupsRow.holds Try.pinned (OpenSpec.ofChange mergeGroupsSpec)

/-- ITS FALSE NEIGHBOUR: 'it returns false'. Refute it at one input. -/
def mergeGroupsWrong : ChangeSpec := { name := "mergeGroups", fn := fun _ => fun
  | [d] => { results := [.lit (.bool false)], args := [d] }
  | _ => none }
def MergeGroupsWrongFalsely : Prop := mergeGroupsRow.holds Try.pinned (OpenSpec.ofChange mergeGroupsWrong)

/-- 'selvedgelaw06.MergeExpands': WHATEVER THE INPUT: true; the input reads as it did. -/
def mergeExpandsSpec : ChangeSpec := { name := "mergeExpands", fn := fun _ => fun
  | [d1, d2] => { results := [.lit (.bool true)], args := [d1, d2] }
  | _ => none }
def mergeExpandsRow : OpenClaim := { program := "ytkfjkhacchbkeaa", sum := "4f02704f62c38987bdfcd10dcada908b5fcf5f6cc024e1a2f5a382722d096abe", func := "selvedge/selvedgelaw06.MergeExpands", spec := "mergeExpands", unfollowed := true, recurses := true, apart := false }
def MergeExpandsSaid : Prop := mergeExpandsRow.holds Try.pinned (OpenSpec.ofChange mergeExpandsSpec)

/-- ITS FALSE NEIGHBOUR: 'it returns false'. Refute it at one input. -/
def mergeExpandsWrong : ChangeSpec := { name := "mergeExpands", fn := fun _ => fun
  | [d1, d2] => { results := [.lit (.bool false)], args := [d1, d2] }
  | _ => none }
def MergeExpandsWrongFalsely : Prop := mergeExpandsRow.holds Try.pinned (OpenSpec.ofChange mergeExpandsWrong)

/-- 'selvedgelaw06.MergeOverlaps': WHATEVER THE INPUT: true; the input reads as it did. -/
def mergeOverlapsSpec : ChangeSpec := { name := "mergeOverlaps", fn := fun _ => fun
  | [d] => { results := [.lit (.bool true)], args := [d] }
  | _ => none }
def mergeOverlapsRow : OpenClaim := { program := "ytkfjkhacchbkeaa", sum := "4f02704f62c38987bdfcd10dcada908b5fcf5f6cc024e1a2f5a382722d096abe", func := "selvedge/selvedgelaw06.MergeOverlaps", spec := "mergeOverlaps", unfollowed := true, recurses := true, apart := false }
def MergeOverlapsSaid : Prop := mergeOverlapsRow.holds Try.pinned (OpenSpec.ofChange mergeOverlapsSpec)

/-- ITS FALSE NEIGHBOUR: 'it returns false'. Refute it at one input. -/
def mergeOverlapsWrong : ChangeSpec := { name := "mergeOverlaps", fn := fun _ => fun
  | [d] => { results := [.lit (.bool false)], args := [d] }
  | _ => none }
def MergeOverlapsWrongFalsely : Prop := mergeOverlapsRow.holds Try.pinned (OpenSpec.ofChange mergeOverlapsWrong)

/-- 'selvedgelaw06.MergeBlocks': WHATEVER THE INPUT: true; the input reads as it did. -/
def mergeBlocksSpec : ChangeSpec := { name := "mergeBlocks", fn := fun _ => fun
  | [d1, d2, d3] => { results := [.lit (.bool true)], args := [d1, d2, d3] }
  | _ => none }
def mergeBlocksRow : OpenClaim := { program := "ytkfjkhacchbkeaa", sum := "4f02704f62c38987bdfcd10dcada908b5fcf5f6cc024e1a2f5a382722d096abe", func := "selvedge/selvedgelaw06.MergeBlocks", spec := "mergeBlocks", unfollowed := true, recurses := true, apart := false }
def MergeBlocksSaid : Prop := mergeBlocksRow.holds Try.pinned (OpenSpec.ofChange mergeBlocksSpec)

/-- ITS FALSE NEIGHBOUR: 'it returns false'. Refute it at one input. -/
def mergeBlocksWrong : ChangeSpec := { name := "mergeBlocks", fn := fun _ => fun
  | [d1, d2, d3] => { results := [.lit (.bool false)], args := [d1, d2, d3] }
  | _ => none }
def MergeBlocksWrongFalsely : Prop := mergeBlocksRow.holds Try.pinned (OpenSpec.ofChange mergeBlocksWrong)

/-- 'selvedgelaw06.MergeParts': WHATEVER THE INPUT: true; the input reads as it did. -/
def mergePartsSpec : ChangeSpec := { name := "mergeParts", fn := fun _ => fun
  | [d] => { results := [.lit (.bool true)], args := [d] }
  | _ => none }
def mergePartsRow : OpenClaim := { program := "ytkfjkhacchbkeaa", sum := "4f02704f62c38987bdfcd10dcada908b5fcf5f6cc024e1a2f5a382722d096abe", func := "selvedge/selvedgelaw06.MergeParts", spec := "mergeParts", unfollowed := true, recurses := true, apart := false }
def MergePartsSaid : Prop := mergePartsRow.holds Try.pinned (OpenSpec.ofChange mergePartsSpec)

/-- ITS FALSE NEIGHBOUR: 'it returns false'. Refute it at one input. -/
def mergePartsWrong : ChangeSpec := { name := "mergeParts", fn := fun _ => fun
  | [d] => { results := [.lit (.bool false)], args := [d] }
  | _ => none }
def MergePartsWrongFalsely : Prop := mergePartsRow.holds Try.pinned (OpenSpec.ofChange mergePartsWrong)

/-- 'selvedgelaw06.MergeClosed': WHATEVER THE INPUT: true; the input reads as it did. -/
def mergeClosedSpec : ChangeSpec := { name := "mergeClosed", fn := fun _ => fun
  | [d1, d2] => { results := [.lit (.bool true)], args := [d1, d2] }
  | _ => none }
def mergeClosedRow : OpenClaim := { program := "ytkfjkhacchbkeaa", sum := "4f02704f62c38987bdfcd10dcada908b5fcf5f6cc024e1a2f5a382722d096abe", func := "selvedge/selvedgelaw06.MergeClosed", spec := "mergeClosed", unfollowed := true, recurses := true, apart := false }
def MergeClosedSaid : Prop := mergeClosedRow.holds Try.pinned (OpenSpec.ofChange mergeClosedSpec)

/-- ITS FALSE NEIGHBOUR: 'it returns false'. Refute it at one input. -/
def mergeClosedWrong : ChangeSpec := { name := "mergeClosed", fn := fun _ => fun
  | [d1, d2] => { results := [.lit (.bool false)], args := [d1, d2] }
  | _ => none }
def MergeClosedWrongFalsely : Prop := mergeClosedRow.holds Try.pinned (OpenSpec.ofChange mergeClosedWrong)

/-- 'selvedgelaw06.MergeFew': WHATEVER THE INPUT: true; the input reads as it did. -/
def mergeFewSpec : ChangeSpec := { name := "mergeFew", fn := fun _ => fun
  | [d1, d2] => { results := [.lit (.bool true)], args := [d1, d2] }
  | _ => none }
def mergeFewRow : OpenClaim := { program := "ytkfjkhacchbkeaa", sum := "4f02704f62c38987bdfcd10dcada908b5fcf5f6cc024e1a2f5a382722d096abe", func := "selvedge/selvedgelaw06.MergeFew", spec := "mergeFew", unfollowed := true, recurses := true, apart := false }
def MergeFewSaid : Prop := mergeFewRow.holds Try.pinned (OpenSpec.ofChange mergeFewSpec)

/-- ITS FALSE NEIGHBOUR: 'it returns false'. Refute it at one input. -/
def mergeFewWrong : ChangeSpec := { name := "mergeFew", fn := fun _ => fun
  | [d1, d2] => { results := [.lit (.bool false)], args := [d1, d2] }
  | _ => none }
def MergeFewWrongFalsely : Prop := mergeFewRow.holds Try.pinned (OpenSpec.ofChange mergeFewWrong)

/-- 'selvedgelaw06.MergeAll': WHATEVER THE INPUT: true; the input reads as it did. -/
def mergeAllSpec : ChangeSpec := { name := "mergeAll", fn := fun _ => fun
  | [d1, d2] => { results := [.lit (.bool true)], args := [d1, d2] }
  | _ => none }
def mergeAllRow : OpenClaim := { program := "ytkfjkhacchbkeaa", sum := "4f02704f62c38987bdfcd10dcada908b5fcf5f6cc024e1a2f5a382722d096abe", func := "selvedge/selvedgelaw06.MergeAll", spec := "mergeAll", unfollowed := true, recurses := true, apart := false }
def MergeAllSaid : Prop := mergeAllRow.holds Try.pinned (OpenSpec.ofChange mergeAllSpec)

/-- ITS FALSE NEIGHBOUR: 'it returns false'. Refute it at one input. -/
def mergeAllWrong : ChangeSpec := { name := "mergeAll", fn := fun _ => fun
  | [d1, d2] => { results := [.lit (.bool false)], args := [d1, d2] }
  | _ => none }
def MergeAllWrongFalsely : Prop := mergeAllRow.holds Try.pinned (OpenSpec.ofChange mergeAllWrong)

/-- 'selvedgetop.TopTurns': WHATEVER THE INPUT: true; the input reads as it did. -/
def topTurnsSpec : ChangeSpec := { name := "topTurns", fn := fun _ => fun
  | [d1, d2] => { results := [.lit (.bool true)], args := [d1, d2] }
  | _ => none }
def topTurnsRow : OpenClaim := { program := "ytkfjkhacchbkeaa", sum := "4f02704f62c38987bdfcd10dcada908b5fcf5f6cc024e1a2f5a382722d096abe", func := "selvedge/selvedgetop.TopTurns", spec := "topTurns", unfollowed := true, recurses := true, apart := false }
def TopTurnsSaid : Prop := topTurnsRow.holds Try.pinned (OpenSpec.ofChange topTurnsSpec)

/-- ITS FALSE NEIGHBOUR: 'it returns false'. Refute it at one input. -/
def topTurnsWrong : ChangeSpec := { name := "topTurns", fn := fun _ => fun
  | [d1, d2] => { results := [.lit (.bool false)], args := [d1, d2] }
  | _ => none }
def TopTurnsWrongFalsely : Prop := topTurnsRow.holds Try.pinned (OpenSpec.ofChange topTurnsWrong)

/-- 'selvedgetop.TopWhole': WHATEVER THE INPUT: true; the input reads as it did. -/
def topWholeSpec : ChangeSpec := { name := "topWhole", fn := fun _ => fun
  | [d1, d2] => { results := [.lit (.bool true)], args := [d1, d2] }
  | _ => none }
def topWholeRow : OpenClaim := { program := "ytkfjkhacchbkeaa", sum := "4f02704f62c38987bdfcd10dcada908b5fcf5f6cc024e1a2f5a382722d096abe", func := "selvedge/selvedgetop.TopWhole", spec := "topWhole", unfollowed := true, recurses := true, apart := false }
def TopWholeSaid : Prop := topWholeRow.holds Try.pinned (OpenSpec.ofChange topWholeSpec)

/-- ITS FALSE NEIGHBOUR: 'it returns false'. Refute it at one input. -/
def topWholeWrong : ChangeSpec := { name := "topWhole", fn := fun _ => fun
  | [d1, d2] => { results := [.lit (.bool false)], args := [d1, d2] }
  | _ => none }
def TopWholeWrongFalsely : Prop := topWholeRow.holds Try.pinned (OpenSpec.ofChange topWholeWrong)

/- THE SECOND FORM. 'bulk': how many values and letters a reading holds, each counted each time it is reached (what is shared counts as often as it is met; a slice's spare places count too). A statement '..UptoSaid' is the law's where the arguments, and the package variables that the reading takes, are together of bulk at most 1048576: NARROWER than '..Said'. Prove '..Said' where nothing that the law and all that it calls make is longer than what came in: it says more and counts as full. Else prove '..UptoSaid'. A law counts once. -/
mutual
def uptoBulk {H : Type} : DataW H → Nat
  | .lit (.string bytes) => bytes.length + 1
  | .lit _ => 1
  | .nil => 1
  | .ptr d => uptoBulk d + 1
  | .slice elems spare => uptoBulkAll elems + uptoBulkAll spare + 1
  | .agg parts => uptoBulkAll parts + 1
  | .iface _ d => uptoBulk d + 1
  | .map entries => uptoBulkEntries entries + 1
  | .held _ => 1
def uptoBulkAll {H : Type} : List (DataW H) → Nat
  | [] => 0
  | d :: r => uptoBulk d + uptoBulkAll r
def uptoBulkEntries {H : Type} : List (Lit × DataW H) → Nat
  | [] => 0
  | x :: r => uptoBulkEntry x + uptoBulkEntries r
def uptoBulkEntry {H : Type} : Lit × DataW H → Nat
  | (.string bytes, d) => bytes.length + uptoBulk d + 1
  | (_, d) => uptoBulk d + 1
 end
def uptoSmall : (H : Type) → List (DataW H) → Bool := fun _ ds => decide (uptoBulkAll ds ≤ 1048576)
def OpenSpec.upto (s : _root_.Go.ChangeSpec) : _root_.Go.OpenSpec := { _root_.Go.OpenSpec.ofChange s with cond := some uptoSmall }

/-- 'selvedgelaw06.MergeGroups', WHERE WHAT IT READS IS OF BULK AT MOST 1048576: true; the input reads as it did. -/
def mergeGroupsUptoRow : OpenClaim := { program := "ytkfjkhacchbkeaa", sum := "4f02704f62c38987bdfcd10dcada908b5fcf5f6cc024e1a2f5a382722d096abe", func := "selvedge/selvedgelaw06.MergeGroups", spec := "mergeGroups", unfollowed := true, recurses := true, apart := false, narrowed := true }
def MergeGroupsUptoSaid : Prop := mergeGroupsUptoRow.holds Try.pinned (OpenSpec.upto mergeGroupsSpec)

/-- 'selvedgelaw06.MergeExpands', WHERE WHAT IT READS IS OF BULK AT MOST 1048576: true; the input reads as it did. -/
def mergeExpandsUptoRow : OpenClaim := { program := "ytkfjkhacchbkeaa", sum := "4f02704f62c38987bdfcd10dcada908b5fcf5f6cc024e1a2f5a382722d096abe", func := "selvedge/selvedgelaw06.MergeExpands", spec := "mergeExpands", unfollowed := true, recurses := true, apart := false, narrowed := true }
def MergeExpandsUptoSaid : Prop := mergeExpandsUptoRow.holds Try.pinned (OpenSpec.upto mergeExpandsSpec)

/-- 'selvedgelaw06.MergeOverlaps', WHERE WHAT IT READS IS OF BULK AT MOST 1048576: true; the input reads as it did. -/
def mergeOverlapsUptoRow : OpenClaim := { program := "ytkfjkhacchbkeaa", sum := "4f02704f62c38987bdfcd10dcada908b5fcf5f6cc024e1a2f5a382722d096abe", func := "selvedge/selvedgelaw06.MergeOverlaps", spec := "mergeOverlaps", unfollowed := true, recurses := true, apart := false, narrowed := true }
def MergeOverlapsUptoSaid : Prop := mergeOverlapsUptoRow.holds Try.pinned (OpenSpec.upto mergeOverlapsSpec)

/-- 'selvedgelaw06.MergeBlocks', WHERE WHAT IT READS IS OF BULK AT MOST 1048576: true; the input reads as it did. -/
def mergeBlocksUptoRow : OpenClaim := { program := "ytkfjkhacchbkeaa", sum := "4f02704f62c38987bdfcd10dcada908b5fcf5f6cc024e1a2f5a382722d096abe", func := "selvedge/selvedgelaw06.MergeBlocks", spec := "mergeBlocks", unfollowed := true, recurses := true, apart := false, narrowed := true }
def MergeBlocksUptoSaid : Prop := mergeBlocksUptoRow.holds Try.pinned (OpenSpec.upto mergeBlocksSpec)

/-- 'selvedgelaw06.MergeParts', WHERE WHAT IT READS IS OF BULK AT MOST 1048576: true; the input reads as it did. -/
def mergePartsUptoRow : OpenClaim := { program := "ytkfjkhacchbkeaa", sum := "4f02704f62c38987bdfcd10dcada908b5fcf5f6cc024e1a2f5a382722d096abe", func := "selvedge/selvedgelaw06.MergeParts", spec := "mergeParts", unfollowed := true, recurses := true, apart := false, narrowed := true }
def MergePartsUptoSaid : Prop := mergePartsUptoRow.holds Try.pinned (OpenSpec.upto mergePartsSpec)

/-- 'selvedgelaw06.MergeClosed', WHERE WHAT IT READS IS OF BULK AT MOST 1048576: true; the input reads as it did. -/
def mergeClosedUptoRow : OpenClaim := { program := "ytkfjkhacchbkeaa", sum := "4f02704f62c38987bdfcd10dcada908b5fcf5f6cc024e1a2f5a382722d096abe", func := "selvedge/selvedgelaw06.MergeClosed", spec := "mergeClosed", unfollowed := true, recurses := true, apart := false, narrowed := true }
def MergeClosedUptoSaid : Prop := mergeClosedUptoRow.holds Try.pinned (OpenSpec.upto mergeClosedSpec)

/-- 'selvedgelaw06.MergeFew', WHERE WHAT IT READS IS OF BULK AT MOST 1048576: true; the input reads as it did. -/
def mergeFewUptoRow : OpenClaim := { program := "ytkfjkhacchbkeaa", sum := "4f02704f62c38987bdfcd10dcada908b5fcf5f6cc024e1a2f5a382722d096abe", func := "selvedge/selvedgelaw06.MergeFew", spec := "mergeFew", unfollowed := true, recurses := true, apart := false, narrowed := true }
def MergeFewUptoSaid : Prop := mergeFewUptoRow.holds Try.pinned (OpenSpec.upto mergeFewSpec)

/-- 'selvedgelaw06.MergeAll', WHERE WHAT IT READS IS OF BULK AT MOST 1048576: true; the input reads as it did. -/
def mergeAllUptoRow : OpenClaim := { program := "ytkfjkhacchbkeaa", sum := "4f02704f62c38987bdfcd10dcada908b5fcf5f6cc024e1a2f5a382722d096abe", func := "selvedge/selvedgelaw06.MergeAll", spec := "mergeAll", unfollowed := true, recurses := true, apart := false, narrowed := true }
def MergeAllUptoSaid : Prop := mergeAllUptoRow.holds Try.pinned (OpenSpec.upto mergeAllSpec)

/-- 'selvedgetop.TopTurns', WHERE WHAT IT READS IS OF BULK AT MOST 1048576: true; the input reads as it did. -/
def topTurnsUptoRow : OpenClaim := { program := "ytkfjkhacchbkeaa", sum := "4f02704f62c38987bdfcd10dcada908b5fcf5f6cc024e1a2f5a382722d096abe", func := "selvedge/selvedgetop.TopTurns", spec := "topTurns", unfollowed := true, recurses := true, apart := false, narrowed := true }
def TopTurnsUptoSaid : Prop := topTurnsUptoRow.holds Try.pinned (OpenSpec.upto topTurnsSpec)

/-- 'selvedgetop.TopWhole', WHERE WHAT IT READS IS OF BULK AT MOST 1048576: true; the input reads as it did. -/
def topWholeUptoRow : OpenClaim := { program := "ytkfjkhacchbkeaa", sum := "4f02704f62c38987bdfcd10dcada908b5fcf5f6cc024e1a2f5a382722d096abe", func := "selvedge/selvedgetop.TopWhole", spec := "topWhole", unfollowed := true, recurses := true, apart := false, narrowed := true }
def TopWholeUptoSaid : Prop := topWholeUptoRow.holds Try.pinned (OpenSpec.upto topWholeSpec)

end Rows
end Go.Proofs.Ytkfjkhacchbkeaa
