/-
  No cell of these rows narrows 'for every input' (looked for: loops, veiled, ifaces, maps, wideKeys, modest, calm, conditions, laid).
  DERIVED. THE GIVEN ROWS OF THIS SEAT. 9 by the template 'for every input the law returns true; each argument reads behind the call as it read before'; 0 by the template 'total and deterministic' (their statements: YtieeibdhaoaeaaaTotals.lean).
  GIVEN WITH THE SEED: the statements are not yours to turn. If you find one false, say at which input.
  Laid BY PROGRAM, IN A SANDBOX (cutbox-rows.mjs): the forced cells as the released guide's own fill.sh prints them over the translation 92e1d0960e637918… (all of the seat's roots in one cut). By AI agents, Wed Nov 11 2026. No macro, syntax, notation, axiom, sorry.
-/
import Derived.Test.YtieeibdhaoaeaaaChecked
import GoSem.Claim
import GoSem.ClaimJoined
import GoSem.ClaimMapViews
import Derived.JoinedTies
import Derived.KernelRfl
namespace Go.Proofs.Ytieeibdhaoaeaaa
/- THE CELL 'sum', in the pinned program and in every row, IS THE sha256 OF THE DUMP (.gsa) THAT YtieeibdhaoaeaaaProg.lean LOADS. Nothing in Lean hashes anything: it is a label: what it is worth is what the hold of that sum in a sandbox is worth. -/
noncomputable def Try.pinned : Pinned := { name := "ytieeibdhaoaeaaa", sum := "92e1d0960e6379187c7da436db70e350cc265924fe4058258f38089f8af09cdb", checked := Try.checked }
namespace Rows
def none {H : Type} : Left H := { results := [], args := [] }

/-- 'selvedgelaw03.DiskPlays': WHATEVER THE INPUT: true; the input reads as it did. -/
def diskPlaysSpec : ChangeSpec := { name := "diskPlays", fn := fun _ => fun
  | [d1, d2] => { results := [.lit (.bool true)], args := [d1, d2] }
  | _ => none }
def diskPlaysRow : OpenClaim := { program := "ytieeibdhaoaeaaa", sum := "92e1d0960e6379187c7da436db70e350cc265924fe4058258f38089f8af09cdb", func := "selvedge/selvedgelaw03.DiskPlays", spec := "diskPlays", unfollowed := true, recurses := true, apart := false }
def DiskPlaysSaid : Prop := diskPlaysRow.holds Try.pinned (OpenSpec.ofChange diskPlaysSpec)

/-- ITS FALSE NEIGHBOUR: 'it returns false'. Refute it at one input. -/
def diskPlaysWrong : ChangeSpec := { name := "diskPlays", fn := fun _ => fun
  | [d1, d2] => { results := [.lit (.bool false)], args := [d1, d2] }
  | _ => none }
def DiskPlaysWrongFalsely : Prop := diskPlaysRow.holds Try.pinned (OpenSpec.ofChange diskPlaysWrong)

/-- 'selvedgelaw03.DiskVersions': WHATEVER THE INPUT: true; the input reads as it did. -/
def diskVersionsSpec : ChangeSpec := { name := "diskVersions", fn := fun _ => fun
  | [d1, d2, d3] => { results := [.lit (.bool true)], args := [d1, d2, d3] }
  | _ => none }
def diskVersionsRow : OpenClaim := { program := "ytieeibdhaoaeaaa", sum := "92e1d0960e6379187c7da436db70e350cc265924fe4058258f38089f8af09cdb", func := "selvedge/selvedgelaw03.DiskVersions", spec := "diskVersions", unfollowed := true, recurses := true, apart := false }
def DiskVersionsSaid : Prop := diskVersionsRow.holds Try.pinned (OpenSpec.ofChange diskVersionsSpec)

/-- ITS FALSE NEIGHBOUR: 'it returns false'. Refute it at one input. -/
def diskVersionsWrong : ChangeSpec := { name := "diskVersions", fn := fun _ => fun
  | [d1, d2, d3] => { results := [.lit (.bool false)], args := [d1, d2, d3] }
  | _ => none }
def DiskVersionsWrongFalsely : Prop := diskVersionsRow.holds Try.pinned (OpenSpec.ofChange diskVersionsWrong)

/-- 'selvedgelaw03.DiskLasts': WHATEVER THE INPUT: true; the input reads as it did. -/
def diskLastsSpec : ChangeSpec := { name := "diskLasts", fn := fun _ => fun
  | [d1, d2] => { results := [.lit (.bool true)], args := [d1, d2] }
  | _ => none }
def diskLastsRow : OpenClaim := { program := "ytieeibdhaoaeaaa", sum := "92e1d0960e6379187c7da436db70e350cc265924fe4058258f38089f8af09cdb", func := "selvedge/selvedgelaw03.DiskLasts", spec := "diskLasts", unfollowed := true, recurses := true, apart := false }
def DiskLastsSaid : Prop := diskLastsRow.holds Try.pinned (OpenSpec.ofChange diskLastsSpec)

/-- ITS FALSE NEIGHBOUR: 'it returns false'. Refute it at one input. -/
def diskLastsWrong : ChangeSpec := { name := "diskLasts", fn := fun _ => fun
  | [d1, d2] => { results := [.lit (.bool false)], args := [d1, d2] }
  | _ => none }
def DiskLastsWrongFalsely : Prop := diskLastsRow.holds Try.pinned (OpenSpec.ofChange diskLastsWrong)

/-- 'selvedgelaw03.DiskBad': WHATEVER THE INPUT: true; the input reads as it did. -/
def diskBadSpec : ChangeSpec := { name := "diskBad", fn := fun _ => fun
  | [d1, d2, d3] => { results := [.lit (.bool true)], args := [d1, d2, d3] }
  | _ => none }
def diskBadRow : OpenClaim := { program := "ytieeibdhaoaeaaa", sum := "92e1d0960e6379187c7da436db70e350cc265924fe4058258f38089f8af09cdb", func := "selvedge/selvedgelaw03.DiskBad", spec := "diskBad", unfollowed := true, recurses := true, apart := false }
def DiskBadSaid : Prop := diskBadRow.holds Try.pinned (OpenSpec.ofChange diskBadSpec)

/-- ITS FALSE NEIGHBOUR: 'it returns false'. Refute it at one input. -/
def diskBadWrong : ChangeSpec := { name := "diskBad", fn := fun _ => fun
  | [d1, d2, d3] => { results := [.lit (.bool false)], args := [d1, d2, d3] }
  | _ => none }
def DiskBadWrongFalsely : Prop := diskBadRow.holds Try.pinned (OpenSpec.ofChange diskBadWrong)

/-- 'selvedgelaw03.DiskLoads': WHATEVER THE INPUT: true; the input reads as it did. -/
def diskLoadsSpec : ChangeSpec := { name := "diskLoads", fn := fun _ => fun
  | [d1, d2] => { results := [.lit (.bool true)], args := [d1, d2] }
  | _ => none }
def diskLoadsRow : OpenClaim := { program := "ytieeibdhaoaeaaa", sum := "92e1d0960e6379187c7da436db70e350cc265924fe4058258f38089f8af09cdb", func := "selvedge/selvedgelaw03.DiskLoads", spec := "diskLoads", unfollowed := true, recurses := true, apart := false }
def DiskLoadsSaid : Prop := diskLoadsRow.holds Try.pinned (OpenSpec.ofChange diskLoadsSpec)

/-- ITS FALSE NEIGHBOUR: 'it returns false'. Refute it at one input. -/
def diskLoadsWrong : ChangeSpec := { name := "diskLoads", fn := fun _ => fun
  | [d1, d2] => { results := [.lit (.bool false)], args := [d1, d2] }
  | _ => none }
def DiskLoadsWrongFalsely : Prop := diskLoadsRow.holds Try.pinned (OpenSpec.ofChange diskLoadsWrong)

/-- 'selvedgelaw03.DiskForks': WHATEVER THE INPUT: true; the input reads as it did. -/
def diskForksSpec : ChangeSpec := { name := "diskForks", fn := fun _ => fun
  | [d1, d2] => { results := [.lit (.bool true)], args := [d1, d2] }
  | _ => none }
def diskForksRow : OpenClaim := { program := "ytieeibdhaoaeaaa", sum := "92e1d0960e6379187c7da436db70e350cc265924fe4058258f38089f8af09cdb", func := "selvedge/selvedgelaw03.DiskForks", spec := "diskForks", unfollowed := true, recurses := true, apart := false }
def DiskForksSaid : Prop := diskForksRow.holds Try.pinned (OpenSpec.ofChange diskForksSpec)

/-- ITS FALSE NEIGHBOUR: 'it returns false'. Refute it at one input. -/
def diskForksWrong : ChangeSpec := { name := "diskForks", fn := fun _ => fun
  | [d1, d2] => { results := [.lit (.bool false)], args := [d1, d2] }
  | _ => none }
def DiskForksWrongFalsely : Prop := diskForksRow.holds Try.pinned (OpenSpec.ofChange diskForksWrong)

/-- 'selvedgelaw03.DiskNone': WHATEVER THE INPUT: true; the input reads as it did. -/
def diskNoneSpec : ChangeSpec := { name := "diskNone", fn := fun _ => fun
  | [d] => { results := [.lit (.bool true)], args := [d] }
  | _ => none }
def diskNoneRow : OpenClaim := { program := "ytieeibdhaoaeaaa", sum := "92e1d0960e6379187c7da436db70e350cc265924fe4058258f38089f8af09cdb", func := "selvedge/selvedgelaw03.DiskNone", spec := "diskNone", unfollowed := true, recurses := true, apart := false }
def DiskNoneSaid : Prop := diskNoneRow.holds Try.pinned (OpenSpec.ofChange diskNoneSpec)

/-- ITS FALSE NEIGHBOUR: 'it returns false'. Refute it at one input. -/
def diskNoneWrong : ChangeSpec := { name := "diskNone", fn := fun _ => fun
  | [d] => { results := [.lit (.bool false)], args := [d] }
  | _ => none }
def DiskNoneWrongFalsely : Prop := diskNoneRow.holds Try.pinned (OpenSpec.ofChange diskNoneWrong)

/-- 'selvedgetop.TopVersions': WHATEVER THE INPUT: true; the input reads as it did. -/
def topVersionsSpec : ChangeSpec := { name := "topVersions", fn := fun _ => fun
  | [d1, d2] => { results := [.lit (.bool true)], args := [d1, d2] }
  | _ => none }
def topVersionsRow : OpenClaim := { program := "ytieeibdhaoaeaaa", sum := "92e1d0960e6379187c7da436db70e350cc265924fe4058258f38089f8af09cdb", func := "selvedge/selvedgetop.TopVersions", spec := "topVersions", unfollowed := true, recurses := true, apart := false }
def TopVersionsSaid : Prop := topVersionsRow.holds Try.pinned (OpenSpec.ofChange topVersionsSpec)

/-- ITS FALSE NEIGHBOUR: 'it returns false'. Refute it at one input. -/
def topVersionsWrong : ChangeSpec := { name := "topVersions", fn := fun _ => fun
  | [d1, d2] => { results := [.lit (.bool false)], args := [d1, d2] }
  | _ => none }
def TopVersionsWrongFalsely : Prop := topVersionsRow.holds Try.pinned (OpenSpec.ofChange topVersionsWrong)

/-- 'selvedgetop.TopDiffed': WHATEVER THE INPUT: true; the input reads as it did. -/
def topDiffedSpec : ChangeSpec := { name := "topDiffed", fn := fun _ => fun
  | [d1, d2] => { results := [.lit (.bool true)], args := [d1, d2] }
  | _ => none }
def topDiffedRow : OpenClaim := { program := "ytieeibdhaoaeaaa", sum := "92e1d0960e6379187c7da436db70e350cc265924fe4058258f38089f8af09cdb", func := "selvedge/selvedgetop.TopDiffed", spec := "topDiffed", apart := false }
def TopDiffedSaid : Prop := topDiffedRow.holds Try.pinned (OpenSpec.ofChange topDiffedSpec)

/-- ITS FALSE NEIGHBOUR: 'it returns false'. Refute it at one input. -/
def topDiffedWrong : ChangeSpec := { name := "topDiffed", fn := fun _ => fun
  | [d1, d2] => { results := [.lit (.bool false)], args := [d1, d2] }
  | _ => none }
def TopDiffedWrongFalsely : Prop := topDiffedRow.holds Try.pinned (OpenSpec.ofChange topDiffedWrong)

/- THE SECOND FORM. 'bulk': how many values and letters a reading holds, each counted each time it is reached (what is shared counts as often as it is met; a slice's spare places count too). A statement '..UptoSaid' is the law's where the arguments, and the package variables that the reading takes, are together of bulk at most 1048576: NARROWER than '..Said'. Prove '..Said' where nothing that the law and all that it calls make is longer than what came in: it says more and counts as full. Else prove '..UptoSaid'. A law counts once. -/
mutual
def uptoBulk {H : Type} : DataW H → Nat
  | .lit (.string bytes) => bytes.length + 1
  | .lit _ => 1
  | .nil => 1
  | .ptr d => uptoBulk d + 1
  | .slice elems spare => uptoBulkAll elems + uptoBulkAll spare + 1
  | .agg parts => uptoBulkAll parts + 1
  | .iface _ d => uptoBulk d + 1
  | .map entries => uptoBulkEntries entries + 1
  | .held _ => 1
def uptoBulkAll {H : Type} : List (DataW H) → Nat
  | [] => 0
  | d :: r => uptoBulk d + uptoBulkAll r
def uptoBulkEntries {H : Type} : List (Lit × DataW H) → Nat
  | [] => 0
  | x :: r => uptoBulkEntry x + uptoBulkEntries r
def uptoBulkEntry {H : Type} : Lit × DataW H → Nat
  | (.string bytes, d) => bytes.length + uptoBulk d + 1
  | (_, d) => uptoBulk d + 1
 end
def uptoSmall : (H : Type) → List (DataW H) → Bool := fun _ ds => decide (uptoBulkAll ds ≤ 1048576)
def OpenSpec.upto (s : _root_.Go.ChangeSpec) : _root_.Go.OpenSpec := { _root_.Go.OpenSpec.ofChange s with cond := some uptoSmall }

/-- 'selvedgelaw03.DiskPlays', WHERE WHAT IT READS IS OF BULK AT MOST 1048576: true; the input reads as it did. -/
def diskPlaysUptoRow : OpenClaim := { program := "ytieeibdhaoaeaaa", sum := "92e1d0960e6379187c7da436db70e350cc265924fe4058258f38089f8af09cdb", func := "selvedge/selvedgelaw03.DiskPlays", spec := "diskPlays", unfollowed := true, recurses := true, apart := false, narrowed := true }
def DiskPlaysUptoSaid : Prop := diskPlaysUptoRow.holds Try.pinned (OpenSpec.upto diskPlaysSpec)

/-- 'selvedgelaw03.DiskVersions', WHERE WHAT IT READS IS OF BULK AT MOST 1048576: true; the input reads as it did. -/
def diskVersionsUptoRow : OpenClaim := { program := "ytieeibdhaoaeaaa", sum := "92e1d0960e6379187c7da436db70e350cc265924fe4058258f38089f8af09cdb", func := "selvedge/selvedgelaw03.DiskVersions", spec := "diskVersions", unfollowed := true, recurses := true, apart := false, narrowed := true }
def DiskVersionsUptoSaid : Prop := diskVersionsUptoRow.holds Try.pinned (OpenSpec.upto diskVersionsSpec)

/-- 'selvedgelaw03.DiskLasts', WHERE WHAT IT READS IS OF BULK AT MOST 1048576: true; the input reads as it did. -/
def diskLastsUptoRow : OpenClaim := { program := "ytieeibdhaoaeaaa", sum := "92e1d0960e6379187c7da436db70e350cc265924fe4058258f38089f8af09cdb", func := "selvedge/selvedgelaw03.DiskLasts", spec := "diskLasts", unfollowed := true, recurses := true, apart := false, narrowed := true }
def DiskLastsUptoSaid : Prop := diskLastsUptoRow.holds Try.pinned (OpenSpec.upto diskLastsSpec)

/-- 'selvedgelaw03.DiskBad', WHERE WHAT IT READS IS OF BULK AT MOST 1048576: true; the input reads as it did. -/
def diskBadUptoRow : OpenClaim := { program := "ytieeibdhaoaeaaa", sum := "92e1d0960e6379187c7da436db70e350cc265924fe4058258f38089f8af09cdb", func := "selvedge/selvedgelaw03.DiskBad", spec := "diskBad", unfollowed := true, recurses := true, apart := false, narrowed := true }
def DiskBadUptoSaid : Prop := diskBadUptoRow.holds Try.pinned (OpenSpec.upto diskBadSpec)

/-- 'selvedgelaw03.DiskLoads', WHERE WHAT IT READS IS OF BULK AT MOST 1048576: true; the input reads as it did. -/
def diskLoadsUptoRow : OpenClaim := { program := "ytieeibdhaoaeaaa", sum := "92e1d0960e6379187c7da436db70e350cc265924fe4058258f38089f8af09cdb", func := "selvedge/selvedgelaw03.DiskLoads", spec := "diskLoads", unfollowed := true, recurses := true, apart := false, narrowed := true }
def DiskLoadsUptoSaid : Prop := diskLoadsUptoRow.holds Try.pinned (OpenSpec.upto diskLoadsSpec)

/-- 'selvedgelaw03.DiskForks', WHERE WHAT IT READS IS OF BULK AT MOST 1048576: true; the input reads as it did. -/
def diskForksUptoRow : OpenClaim := { program := "ytieeibdhaoaeaaa", sum := "92e1d0960e6379187c7da436db70e350cc265924fe4058258f38089f8af09cdb", func := "selvedge/selvedgelaw03.DiskForks", spec := "diskForks", unfollowed := true, recurses := true, apart := false, narrowed := true }
def DiskForksUptoSaid : Prop := diskForksUptoRow.holds Try.pinned (OpenSpec.upto diskForksSpec)

/-- 'selvedgelaw03.DiskNone', WHERE WHAT IT READS IS OF BULK AT MOST 1048576: true; the input reads as it did. -/
def diskNoneUptoRow : OpenClaim := { program := "ytieeibdhaoaeaaa", sum := "92e1d0960e6379187c7da436db70e350cc265924fe4058258f38089f8af09cdb", func := "selvedge/selvedgelaw03.DiskNone", spec := "diskNone", unfollowed := true, recurses := true, apart := false, narrowed := true }
def DiskNoneUptoSaid : Prop := diskNoneUptoRow.holds Try.pinned (OpenSpec.upto diskNoneSpec)

/-- 'selvedgetop.TopVersions', WHERE WHAT IT READS IS OF BULK AT MOST 1048576: true; the input reads as it did. -/
def topVersionsUptoRow : OpenClaim := { program := "ytieeibdhaoaeaaa", sum := "92e1d0960e6379187c7da436db70e350cc265924fe4058258f38089f8af09cdb", func := "selvedge/selvedgetop.TopVersions", spec := "topVersions", unfollowed := true, recurses := true, apart := false, narrowed := true }
def TopVersionsUptoSaid : Prop := topVersionsUptoRow.holds Try.pinned (OpenSpec.upto topVersionsSpec)

/-- 'selvedgetop.TopDiffed', WHERE WHAT IT READS IS OF BULK AT MOST 1048576: true; the input reads as it did. -/
def topDiffedUptoRow : OpenClaim := { program := "ytieeibdhaoaeaaa", sum := "92e1d0960e6379187c7da436db70e350cc265924fe4058258f38089f8af09cdb", func := "selvedge/selvedgetop.TopDiffed", spec := "topDiffed", apart := false, narrowed := true }
def TopDiffedUptoSaid : Prop := topDiffedUptoRow.holds Try.pinned (OpenSpec.upto topDiffedSpec)

end Rows
end Go.Proofs.Ytieeibdhaoaeaaa
