/-
  No cell of these rows narrows 'for every input' (looked for: loops, veiled, ifaces, maps, wideKeys, modest, calm, conditions, laid).
  DERIVED. THE GIVEN ROWS OF THIS SEAT. 4 by the template 'for every input the law returns true; each argument reads behind the call as it read before'; 0 by the template 'total and deterministic' (their statements: YthffdkoncagimaaTotals.lean).
  GIVEN WITH THE SEED: the statements are not yours to turn. If you find one false, say at which input.
  Laid BY PROGRAM, IN A SANDBOX (cutbox-rows.mjs): the forced cells as the released guide's own fill.sh prints them over the translation 7197d09e1e6d04c8… (all of the seat's roots in one cut). By AI agents, Wed Nov 11 2026. No macro, syntax, notation, axiom, sorry.
-/
import Derived.Test.YthffdkoncagimaaChecked
import GoSem.Claim
import GoSem.ClaimJoined
import GoSem.ClaimMapViews
import Derived.JoinedTies
import Derived.KernelRfl
namespace Go.Proofs.Ythffdkoncagimaa
/- THE CELL 'sum', in the pinned program and in every row, IS THE sha256 OF THE DUMP (.gsa) THAT YthffdkoncagimaaProg.lean LOADS. Nothing in Lean hashes anything: it is a label: what it is worth is what the hold of that sum in a sandbox is worth. -/
noncomputable def Try.pinned : Pinned := { name := "ythffdkoncagimaa", sum := "7197d09e1e6d04c809341aecb178465b8b88121372828cc1fc56390101afefd8", checked := Try.checked }
namespace Rows
def none {H : Type} : Left H := { results := [], args := [] }

/-- 'selvedgelaw23.ExploreCounts': WHATEVER THE INPUT: true; the input reads as it did. -/
def exploreCountsSpec : ChangeSpec := { name := "exploreCounts", fn := fun _ => fun
  | [d] => { results := [.lit (.bool true)], args := [d] }
  | _ => none }
def exploreCountsRow : OpenClaim := { program := "ythffdkoncagimaa", sum := "7197d09e1e6d04c809341aecb178465b8b88121372828cc1fc56390101afefd8", func := "selvedge/selvedgelaw23.ExploreCounts", spec := "exploreCounts", unfollowed := true, recurses := true, apart := false }
def ExploreCountsSaid : Prop := exploreCountsRow.holds Try.pinned (OpenSpec.ofChange exploreCountsSpec)

/-- ITS FALSE NEIGHBOUR: 'it returns false'. Refute it at one input. -/
def exploreCountsWrong : ChangeSpec := { name := "exploreCounts", fn := fun _ => fun
  | [d] => { results := [.lit (.bool false)], args := [d] }
  | _ => none }
def ExploreCountsWrongFalsely : Prop := exploreCountsRow.holds Try.pinned (OpenSpec.ofChange exploreCountsWrong)

/-- 'selvedgelaw23.ExploreAlls': WHATEVER THE INPUT: true; the input reads as it did. -/
def exploreAllsSpec : ChangeSpec := { name := "exploreAlls", fn := fun _ => fun
  | [d1, d2] => { results := [.lit (.bool true)], args := [d1, d2] }
  | _ => none }
def exploreAllsRow : OpenClaim := { program := "ythffdkoncagimaa", sum := "7197d09e1e6d04c809341aecb178465b8b88121372828cc1fc56390101afefd8", func := "selvedge/selvedgelaw23.ExploreAlls", spec := "exploreAlls", unfollowed := true, recurses := true, apart := false }
def ExploreAllsSaid : Prop := exploreAllsRow.holds Try.pinned (OpenSpec.ofChange exploreAllsSpec)

/-- ITS FALSE NEIGHBOUR: 'it returns false'. Refute it at one input. -/
def exploreAllsWrong : ChangeSpec := { name := "exploreAlls", fn := fun _ => fun
  | [d1, d2] => { results := [.lit (.bool false)], args := [d1, d2] }
  | _ => none }
def ExploreAllsWrongFalsely : Prop := exploreAllsRow.holds Try.pinned (OpenSpec.ofChange exploreAllsWrong)

/-- 'selvedgelaw23.ExploreLists': WHATEVER THE INPUT: true; the input reads as it did. -/
def exploreListsSpec : ChangeSpec := { name := "exploreLists", fn := fun _ => fun
  | [d] => { results := [.lit (.bool true)], args := [d] }
  | _ => none }
def exploreListsRow : OpenClaim := { program := "ythffdkoncagimaa", sum := "7197d09e1e6d04c809341aecb178465b8b88121372828cc1fc56390101afefd8", func := "selvedge/selvedgelaw23.ExploreLists", spec := "exploreLists", unfollowed := true, recurses := true, apart := false }
def ExploreListsSaid : Prop := exploreListsRow.holds Try.pinned (OpenSpec.ofChange exploreListsSpec)

/-- ITS FALSE NEIGHBOUR: 'it returns false'. Refute it at one input. -/
def exploreListsWrong : ChangeSpec := { name := "exploreLists", fn := fun _ => fun
  | [d] => { results := [.lit (.bool false)], args := [d] }
  | _ => none }
def ExploreListsWrongFalsely : Prop := exploreListsRow.holds Try.pinned (OpenSpec.ofChange exploreListsWrong)

/-- 'selvedgelaw23.ExploreRow': WHATEVER THE INPUT: true; the input reads as it did. -/
def exploreRowSpec : ChangeSpec := { name := "exploreRow", fn := fun _ => fun
  | [d] => { results := [.lit (.bool true)], args := [d] }
  | _ => none }
def exploreRowRow : OpenClaim := { program := "ythffdkoncagimaa", sum := "7197d09e1e6d04c809341aecb178465b8b88121372828cc1fc56390101afefd8", func := "selvedge/selvedgelaw23.ExploreRow", spec := "exploreRow", unfollowed := true, recurses := true, apart := false }
def ExploreRowSaid : Prop := exploreRowRow.holds Try.pinned (OpenSpec.ofChange exploreRowSpec)

/-- ITS FALSE NEIGHBOUR: 'it returns false'. Refute it at one input. -/
def exploreRowWrong : ChangeSpec := { name := "exploreRow", fn := fun _ => fun
  | [d] => { results := [.lit (.bool false)], args := [d] }
  | _ => none }
def ExploreRowWrongFalsely : Prop := exploreRowRow.holds Try.pinned (OpenSpec.ofChange exploreRowWrong)

/- THE SECOND FORM. 'bulk': how many values and letters a reading holds, each counted each time it is reached (what is shared counts as often as it is met; a slice's spare places count too). A statement '..UptoSaid' is the law's where the arguments, and the package variables that the reading takes, are together of bulk at most 1048576: NARROWER than '..Said'. Prove '..Said' where nothing that the law and all that it calls make is longer than what came in: it says more and counts as full. Else prove '..UptoSaid'. A law counts once. -/
mutual
def uptoBulk {H : Type} : DataW H → Nat
  | .lit (.string bytes) => bytes.length + 1
  | .lit _ => 1
  | .nil => 1
  | .ptr d => uptoBulk d + 1
  | .slice elems spare => uptoBulkAll elems + uptoBulkAll spare + 1
  | .agg parts => uptoBulkAll parts + 1
  | .iface _ d => uptoBulk d + 1
  | .map entries => uptoBulkEntries entries + 1
  | .held _ => 1
def uptoBulkAll {H : Type} : List (DataW H) → Nat
  | [] => 0
  | d :: r => uptoBulk d + uptoBulkAll r
def uptoBulkEntries {H : Type} : List (Lit × DataW H) → Nat
  | [] => 0
  | x :: r => uptoBulkEntry x + uptoBulkEntries r
def uptoBulkEntry {H : Type} : Lit × DataW H → Nat
  | (.string bytes, d) => bytes.length + uptoBulk d + 1
  | (_, d) => uptoBulk d + 1
 end
def uptoSmall : (H : Type) → List (DataW H) → Bool := fun _ ds => decide (uptoBulkAll ds ≤ 1048576)
def OpenSpec.upto (s : _root_.Go.ChangeSpec) : _root_.Go.OpenSpec := { _root_.Go.OpenSpec.ofChange s with cond := some uptoSmall }

/-- 'selvedgelaw23.ExploreCounts', WHERE WHAT IT READS IS OF BULK AT MOST 1048576: true; the input reads as it did. -/
def exploreCountsUptoRow : OpenClaim := { program := "ythffdkoncagimaa", sum := "7197d09e1e6d04c809341aecb178465b8b88121372828cc1fc56390101afefd8", func := "selvedge/selvedgelaw23.ExploreCounts", spec := "exploreCounts", unfollowed := true, recurses := true, apart := false, narrowed := true }
def ExploreCountsUptoSaid : Prop := exploreCountsUptoRow.holds Try.pinned (OpenSpec.upto exploreCountsSpec)

/-- 'selvedgelaw23.ExploreAlls', WHERE WHAT IT READS IS OF BULK AT MOST 1048576: true; the input reads as it did. -/
def exploreAllsUptoRow : OpenClaim := { program := "ythffdkoncagimaa", sum := "7197d09e1e6d04c809341aecb178465b8b88121372828cc1fc56390101afefd8", func := "selvedge/selvedgelaw23.ExploreAlls", spec := "exploreAlls", unfollowed := true, recurses := true, apart := false, narrowed := true }
def ExploreAllsUptoSaid : Prop := exploreAllsUptoRow.holds Try.pinned (OpenSpec.upto exploreAllsSpec)

/-- 'selvedgelaw23.ExploreLists', WHERE WHAT IT READS IS OF BULK AT MOST 1048576: true; the input reads as it did. -/
def exploreListsUptoRow : OpenClaim := { program := "ythffdkoncagimaa", sum := "7197d09e1e6d04c809341aecb178465b8b88121372828cc1fc56390101afefd8", func := "selvedge/selvedgelaw23.ExploreLists", spec := "exploreLists", unfollowed := true, recurses := true, apart := false, narrowed := true }
def ExploreListsUptoSaid : Prop := exploreListsUptoRow.holds Try.pinned (OpenSpec.upto exploreListsSpec)

/-- 'selvedgelaw23.ExploreRow', WHERE WHAT IT READS IS OF BULK AT MOST 1048576: true; the input reads as it did. -/
def exploreRowUptoRow : OpenClaim := { program := "ythffdkoncagimaa", sum := "7197d09e1e6d04c809341aecb178465b8b88121372828cc1fc56390101afefd8", func := "selvedge/selvedgelaw23.ExploreRow", spec := "exploreRow", unfollowed := true, recurses := true, apart := false, narrowed := true }
def ExploreRowUptoSaid : Prop := exploreRowUptoRow.holds Try.pinned (OpenSpec.upto exploreRowSpec)

end Rows
end Go.Proofs.Ythffdkoncagimaa
