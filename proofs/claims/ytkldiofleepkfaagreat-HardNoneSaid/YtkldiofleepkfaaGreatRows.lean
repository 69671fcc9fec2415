/-
  No cell of these rows narrows 'for every input' (looked for: loops, veiled, ifaces, maps, wideKeys, modest, calm, conditions, laid).
  DERIVED. THE GIVEN ROWS OF THIS SEAT. 7 by the template 'for every input the law returns true; each argument reads behind the call as it read before'; 0 by the template 'total and deterministic' (their statements: YtkldiofleepkfaaGreatTotals.lean).
  GIVEN WITH THE SEED: the statements are not yours to turn. If you find one false, say at which input.
  Laid BY PROGRAM, IN A SANDBOX (cutbox-rows.mjs): the forced cells as the released guide's own fill.sh prints them over the translation 31dea021971cfba7… (all of the seat's roots in one cut). By AI agents, Wed Nov 11 2026. No macro, syntax, notation, axiom, sorry.
-/
import Derived.Test.YtkldiofleepkfaaGreatChecked
import GoSem.Claim
import GoSem.ClaimJoined
import GoSem.ClaimMapViews
import Derived.JoinedTies
import Derived.KernelRfl
namespace Go.Proofs.YtkldiofleepkfaaGreat
/- THE CELL 'sum', in the pinned program and in every row, IS THE sha256 OF THE DUMP (.gsa) THAT YtkldiofleepkfaaGreatProg.lean LOADS. Nothing in Lean hashes anything: it is a label: what it is worth is what the hold of that sum in a sandbox is worth. -/
noncomputable def Tryz.pinned : Pinned := { name := "ytkldiofleepkfaagreat", sum := "31dea021971cfba77dda8ee91811637ba1435093e41fb800e5f68dbcb4ff8e55", checked := Tryz.checked }
namespace Rows
def none {H : Type} : Left H := { results := [], args := [] }

/-- 'selvedgelaw22.HardPlays': WHATEVER THE INPUT: true; the input reads as it did. -/
def hardPlaysSpec : ChangeSpec := { name := "hardPlays", fn := fun _ => fun
  | [d1, d2] => { results := [.lit (.bool true)], args := [d1, d2] }
  | _ => none }
def hardPlaysRow : OpenClaim := { program := "ytkldiofleepkfaagreat", sum := "31dea021971cfba77dda8ee91811637ba1435093e41fb800e5f68dbcb4ff8e55", func := "selvedge/selvedgelaw22.HardPlays", spec := "hardPlays", unfollowed := true, recurses := true, apart := false }
def HardPlaysSaid : Prop := hardPlaysRow.holds Tryz.pinned (OpenSpec.ofChange hardPlaysSpec)

/-- ITS FALSE NEIGHBOUR: 'it returns false'. Refute it at one input. -/
def hardPlaysWrong : ChangeSpec := { name := "hardPlays", fn := fun _ => fun
  | [d1, d2] => { results := [.lit (.bool false)], args := [d1, d2] }
  | _ => none }
def HardPlaysWrongFalsely : Prop := hardPlaysRow.holds Tryz.pinned (OpenSpec.ofChange hardPlaysWrong)

/-- 'selvedgelaw22.HardBlock': WHATEVER THE INPUT: true; the input reads as it did. -/
def hardBlockSpec : ChangeSpec := { name := "hardBlock", fn := fun _ => fun
  | [d1, d2] => { results := [.lit (.bool true)], args := [d1, d2] }
  | _ => none }
def hardBlockRow : OpenClaim := { program := "ytkldiofleepkfaagreat", sum := "31dea021971cfba77dda8ee91811637ba1435093e41fb800e5f68dbcb4ff8e55", func := "selvedge/selvedgelaw22.HardBlock", spec := "hardBlock", unfollowed := true, recurses := true, apart := false }
def HardBlockSaid : Prop := hardBlockRow.holds Tryz.pinned (OpenSpec.ofChange hardBlockSpec)

/-- ITS FALSE NEIGHBOUR: 'it returns false'. Refute it at one input. -/
def hardBlockWrong : ChangeSpec := { name := "hardBlock", fn := fun _ => fun
  | [d1, d2] => { results := [.lit (.bool false)], args := [d1, d2] }
  | _ => none }
def HardBlockWrongFalsely : Prop := hardBlockRow.holds Tryz.pinned (OpenSpec.ofChange hardBlockWrong)

/-- 'selvedgelaw22.HardClosed': WHATEVER THE INPUT: true; the input reads as it did. -/
def hardClosedSpec : ChangeSpec := { name := "hardClosed", fn := fun _ => fun
  | [d1, d2, d3] => { results := [.lit (.bool true)], args := [d1, d2, d3] }
  | _ => none }
def hardClosedRow : OpenClaim := { program := "ytkldiofleepkfaagreat", sum := "31dea021971cfba77dda8ee91811637ba1435093e41fb800e5f68dbcb4ff8e55", func := "selvedge/selvedgelaw22.HardClosed", spec := "hardClosed", unfollowed := true, recurses := true, apart := false }
def HardClosedSaid : Prop := hardClosedRow.holds Tryz.pinned (OpenSpec.ofChange hardClosedSpec)

/-- ITS FALSE NEIGHBOUR: 'it returns false'. Refute it at one input. -/
def hardClosedWrong : ChangeSpec := { name := "hardClosed", fn := fun _ => fun
  | [d1, d2, d3] => { results := [.lit (.bool false)], args := [d1, d2, d3] }
  | _ => none }
def HardClosedWrongFalsely : Prop := hardClosedRow.holds Tryz.pinned (OpenSpec.ofChange hardClosedWrong)

/-- 'selvedgelaw22.HardUnits': WHATEVER THE INPUT: true; the input reads as it did. -/
def hardUnitsSpec : ChangeSpec := { name := "hardUnits", fn := fun _ => fun
  | [d] => { results := [.lit (.bool true)], args := [d] }
  | _ => none }
def hardUnitsRow : OpenClaim := { program := "ytkldiofleepkfaagreat", sum := "31dea021971cfba77dda8ee91811637ba1435093e41fb800e5f68dbcb4ff8e55", func := "selvedge/selvedgelaw22.HardUnits", spec := "hardUnits", unfollowed := true, recurses := true, apart := false }
def HardUnitsSaid : Prop := hardUnitsRow.holds Tryz.pinned (OpenSpec.ofChange hardUnitsSpec)

/-- ITS FALSE NEIGHBOUR: 'it returns false'. Refute it at one input. -/
def hardUnitsWrong : ChangeSpec := { name := "hardUnits", fn := fun _ => fun
  | [d] => { results := [.lit (.bool false)], args := [d] }
  | _ => none }
def HardUnitsWrongFalsely : Prop := hardUnitsRow.holds Tryz.pinned (OpenSpec.ofChange hardUnitsWrong)

/-- 'selvedgelaw22.HardSyncs': WHATEVER THE INPUT: true; the input reads as it did. -/
def hardSyncsSpec : ChangeSpec := { name := "hardSyncs", fn := fun _ => fun
  | [d1, d2] => { results := [.lit (.bool true)], args := [d1, d2] }
  | _ => none }
def hardSyncsRow : OpenClaim := { program := "ytkldiofleepkfaagreat", sum := "31dea021971cfba77dda8ee91811637ba1435093e41fb800e5f68dbcb4ff8e55", func := "selvedge/selvedgelaw22.HardSyncs", spec := "hardSyncs", unfollowed := true, recurses := true, apart := false }
def HardSyncsSaid : Prop := hardSyncsRow.holds Tryz.pinned (OpenSpec.ofChange hardSyncsSpec)

/-- ITS FALSE NEIGHBOUR: 'it returns false'. Refute it at one input. -/
def hardSyncsWrong : ChangeSpec := { name := "hardSyncs", fn := fun _ => fun
  | [d1, d2] => { results := [.lit (.bool false)], args := [d1, d2] }
  | _ => none }
def HardSyncsWrongFalsely : Prop := hardSyncsRow.holds Tryz.pinned (OpenSpec.ofChange hardSyncsWrong)

/-- 'selvedgelaw22.HardForks': WHATEVER THE INPUT: true; the input reads as it did. -/
def hardForksSpec : ChangeSpec := { name := "hardForks", fn := fun _ => fun
  | [d1, d2, d3] => { results := [.lit (.bool true)], args := [d1, d2, d3] }
  | _ => none }
def hardForksRow : OpenClaim := { program := "ytkldiofleepkfaagreat", sum := "31dea021971cfba77dda8ee91811637ba1435093e41fb800e5f68dbcb4ff8e55", func := "selvedge/selvedgelaw22.HardForks", spec := "hardForks", inPlace := ["maps.clone"], unfollowed := true, recurses := true, apart := false }
def HardForksSaid : Prop := hardForksRow.holds Tryz.pinned (OpenSpec.ofChange hardForksSpec)

/-- ITS FALSE NEIGHBOUR: 'it returns false'. Refute it at one input. -/
def hardForksWrong : ChangeSpec := { name := "hardForks", fn := fun _ => fun
  | [d1, d2, d3] => { results := [.lit (.bool false)], args := [d1, d2, d3] }
  | _ => none }
def HardForksWrongFalsely : Prop := hardForksRow.holds Tryz.pinned (OpenSpec.ofChange hardForksWrong)

/-- 'selvedgelaw22.HardNone': WHATEVER THE INPUT: true; the input reads as it did. -/
def hardNoneSpec : ChangeSpec := { name := "hardNone", fn := fun _ => fun
  | [d] => { results := [.lit (.bool true)], args := [d] }
  | _ => none }
def hardNoneRow : OpenClaim := { program := "ytkldiofleepkfaagreat", sum := "31dea021971cfba77dda8ee91811637ba1435093e41fb800e5f68dbcb4ff8e55", func := "selvedge/selvedgelaw22.HardNone", spec := "hardNone", inPlace := ["maps.clone"], unfollowed := true, recurses := true, apart := false }
def HardNoneSaid : Prop := hardNoneRow.holds Tryz.pinned (OpenSpec.ofChange hardNoneSpec)

/-- ITS FALSE NEIGHBOUR: 'it returns false'. Refute it at one input. -/
def hardNoneWrong : ChangeSpec := { name := "hardNone", fn := fun _ => fun
  | [d] => { results := [.lit (.bool false)], args := [d] }
  | _ => none }
def HardNoneWrongFalsely : Prop := hardNoneRow.holds Tryz.pinned (OpenSpec.ofChange hardNoneWrong)

/- THE SECOND FORM. 'bulk': how many values and letters a reading holds, each counted each time it is reached (what is shared counts as often as it is met; a slice's spare places count too). A statement '..UptoSaid' is the law's where the arguments, and the package variables that the reading takes, are together of bulk at most 1048576: NARROWER than '..Said'. Prove '..Said' where nothing that the law and all that it calls make is longer than what came in: it says more and counts as full. Else prove '..UptoSaid'. A law counts once. -/
mutual
def uptoBulk {H : Type} : DataW H → Nat
  | .lit (.string bytes) => bytes.length + 1
  | .lit _ => 1
  | .nil => 1
  | .ptr d => uptoBulk d + 1
  | .slice elems spare => uptoBulkAll elems + uptoBulkAll spare + 1
  | .agg parts => uptoBulkAll parts + 1
  | .iface _ d => uptoBulk d + 1
  | .map entries => uptoBulkEntries entries + 1
  | .held _ => 1
def uptoBulkAll {H : Type} : List (DataW H) → Nat
  | [] => 0
  | d :: r => uptoBulk d + uptoBulkAll r
def uptoBulkEntries {H : Type} : List (Lit × DataW H) → Nat
  | [] => 0
  | x :: r => uptoBulkEntry x + uptoBulkEntries r
def uptoBulkEntry {H : Type} : Lit × DataW H → Nat
  | (.string bytes, d) => bytes.length + uptoBulk d + 1
  | (_, d) => uptoBulk d + 1
 end
def uptoSmall : (H : Type) → List (DataW H) → Bool := fun _ ds => decide (uptoBulkAll ds ≤ 1048576)
def OpenSpec.upto (s : _root_.Go.ChangeSpec) : _root_.Go.OpenSpec := { _root_.Go.OpenSpec.ofChange s with cond := some uptoSmall }

/-- 'selvedgelaw22.HardPlays', WHERE WHAT IT READS IS OF BULK AT MOST 1048576: true; the input reads as it did. -/
def hardPlaysUptoRow : OpenClaim := { program := "ytkldiofleepkfaagreat", sum := "31dea021971cfba77dda8ee91811637ba1435093e41fb800e5f68dbcb4ff8e55", func := "selvedge/selvedgelaw22.HardPlays", spec := "hardPlays", unfollowed := true, recurses := true, apart := false, narrowed := true }
def HardPlaysUptoSaid : Prop := hardPlaysUptoRow.holds Tryz.pinned (OpenSpec.upto hardPlaysSpec)

/-- 'selvedgelaw22.HardBlock', WHERE WHAT IT READS IS OF BULK AT MOST 1048576: true; the input reads as it did. -/
def hardBlockUptoRow : OpenClaim := { program := "ytkldiofleepkfaagreat", sum := "31dea021971cfba77dda8ee91811637ba1435093e41fb800e5f68dbcb4ff8e55", func := "selvedge/selvedgelaw22.HardBlock", spec := "hardBlock", unfollowed := true, recurses := true, apart := false, narrowed := true }
def HardBlockUptoSaid : Prop := hardBlockUptoRow.holds Tryz.pinned (OpenSpec.upto hardBlockSpec)

/-- 'selvedgelaw22.HardClosed', WHERE WHAT IT READS IS OF BULK AT MOST 1048576: true; the input reads as it did. -/
def hardClosedUptoRow : OpenClaim := { program := "ytkldiofleepkfaagreat", sum := "31dea021971cfba77dda8ee91811637ba1435093e41fb800e5f68dbcb4ff8e55", func := "selvedge/selvedgelaw22.HardClosed", spec := "hardClosed", unfollowed := true, recurses := true, apart := false, narrowed := true }
def HardClosedUptoSaid : Prop := hardClosedUptoRow.holds Tryz.pinned (OpenSpec.upto hardClosedSpec)

/-- 'selvedgelaw22.HardUnits', WHERE WHAT IT READS IS OF BULK AT MOST 1048576: true; the input reads as it did. -/
def hardUnitsUptoRow : OpenClaim := { program := "ytkldiofleepkfaagreat", sum := "31dea021971cfba77dda8ee91811637ba1435093e41fb800e5f68dbcb4ff8e55", func := "selvedge/selvedgelaw22.HardUnits", spec := "hardUnits", unfollowed := true, recurses := true, apart := false, narrowed := true }
def HardUnitsUptoSaid : Prop := hardUnitsUptoRow.holds Tryz.pinned (OpenSpec.upto hardUnitsSpec)

/-- 'selvedgelaw22.HardSyncs', WHERE WHAT IT READS IS OF BULK AT MOST 1048576: true; the input reads as it did. -/
def hardSyncsUptoRow : OpenClaim := { program := "ytkldiofleepkfaagreat", sum := "31dea021971cfba77dda8ee91811637ba1435093e41fb800e5f68dbcb4ff8e55", func := "selvedge/selvedgelaw22.HardSyncs", spec := "hardSyncs", unfollowed := true, recurses := true, apart := false, narrowed := true }
def HardSyncsUptoSaid : Prop := hardSyncsUptoRow.holds Tryz.pinned (OpenSpec.upto hardSyncsSpec)

/-- 'selvedgelaw22.HardForks', WHERE WHAT IT READS IS OF BULK AT MOST 1048576: true; the input reads as it did. -/
def hardForksUptoRow : OpenClaim := { program := "ytkldiofleepkfaagreat", sum := "31dea021971cfba77dda8ee91811637ba1435093e41fb800e5f68dbcb4ff8e55", func := "selvedge/selvedgelaw22.HardForks", spec := "hardForks", inPlace := ["maps.clone"], unfollowed := true, recurses := true, apart := false, narrowed := true }
def HardForksUptoSaid : Prop := hardForksUptoRow.holds Tryz.pinned (OpenSpec.upto hardForksSpec)

/-- 'selvedgelaw22.HardNone', WHERE WHAT IT READS IS OF BULK AT MOST 1048576: true; the input reads as it did. -/
def hardNoneUptoRow : OpenClaim := { program := "ytkldiofleepkfaagreat", sum := "31dea021971cfba77dda8ee91811637ba1435093e41fb800e5f68dbcb4ff8e55", func := "selvedge/selvedgelaw22.HardNone", spec := "hardNone", inPlace := ["maps.clone"], unfollowed := true, recurses := true, apart := false, narrowed := true }
def HardNoneUptoSaid : Prop := hardNoneUptoRow.holds Tryz.pinned (OpenSpec.upto hardNoneSpec)

end Rows
end Go.Proofs.YtkldiofleepkfaaGreat
