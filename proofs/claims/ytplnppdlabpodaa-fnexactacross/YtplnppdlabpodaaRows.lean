/-
  No cell of these rows narrows 'for every input' (looked for: loops, veiled, ifaces, maps, wideKeys, modest, calm, conditions, laid).
  DERIVED. THE GIVEN ROWS OF THIS SEAT. 11 by the template 'for every input the law returns true; each argument reads behind the call as it read before'; 0 by the template 'total and deterministic' (their statements: YtplnppdlabpodaaTotals.lean).
  GIVEN WITH THE SEED: the statements are not yours to turn. If you find one false, say at which input.
  Laid BY PROGRAM, IN A SANDBOX (cutbox-rows.mjs): the forced cells as the released guide's own fill.sh prints them over the translation f7aec740ebef5c1a… (all of the seat's roots in one cut). By AI agents, Wed Nov 11 2026. No macro, syntax, notation, axiom, sorry.
-/
import Derived.Test.YtplnppdlabpodaaChecked
import GoSem.Claim
import GoSem.ClaimJoined
import GoSem.ClaimMapViews
import Derived.JoinedTies
import Derived.KernelRfl
namespace Go.Proofs.Ytplnppdlabpodaa
/- THE CELL 'sum', in the pinned program and in every row, IS THE sha256 OF THE DUMP (.gsa) THAT YtplnppdlabpodaaProg.lean LOADS. Nothing in Lean hashes anything: it is a label: what it is worth is what the hold of that sum in a sandbox is worth. -/
noncomputable def Try.pinned : Pinned := { name := "ytplnppdlabpodaa", sum := "f7aec740ebef5c1a1fc27592d6dd8307ab066ea86c7ff8c4b1bdf5e0b551f2d0", checked := Try.checked }
namespace Rows
def none {H : Type} : Left H := { results := [], args := [] }

/-- 'laws.FnExactNetOk': WHATEVER THE INPUT: true; the input reads as it did. -/
def fnExactNetOkSpec : ChangeSpec := { name := "fnExactNetOk", fn := fun _ => fun
  | [d] => { results := [.lit (.bool true)], args := [d] }
  | _ => none }
def fnExactNetOkRow : OpenClaim := { program := "ytplnppdlabpodaa", sum := "f7aec740ebef5c1a1fc27592d6dd8307ab066ea86c7ff8c4b1bdf5e0b551f2d0", func := "loop.example/ballast/laws.FnExactNetOk", spec := "fnExactNetOk", unfollowed := true, recurses := true, plainKeys := false, apart := false }
def FnExactNetOkSaid : Prop := fnExactNetOkRow.holds Try.pinned (OpenSpec.ofChange fnExactNetOkSpec)

/-- ITS FALSE NEIGHBOUR: 'it returns false'. Refute it at one input. -/
def fnExactNetOkWrong : ChangeSpec := { name := "fnExactNetOk", fn := fun _ => fun
  | [d] => { results := [.lit (.bool false)], args := [d] }
  | _ => none }
def FnExactNetOkWrongFalsely : Prop := fnExactNetOkRow.holds Try.pinned (OpenSpec.ofChange fnExactNetOkWrong)

/-- 'laws.FnExactJointAt': WHATEVER THE INPUT: true; the input reads as it did. -/
def fnExactJointAtSpec : ChangeSpec := { name := "fnExactJointAt", fn := fun _ => fun
  | [d1, d2] => { results := [.lit (.bool true)], args := [d1, d2] }
  | _ => none }
def fnExactJointAtRow : OpenClaim := { program := "ytplnppdlabpodaa", sum := "f7aec740ebef5c1a1fc27592d6dd8307ab066ea86c7ff8c4b1bdf5e0b551f2d0", func := "loop.example/ballast/laws.FnExactJointAt", spec := "fnExactJointAt", unfollowed := true, recurses := true, plainKeys := false, apart := false }
def FnExactJointAtSaid : Prop := fnExactJointAtRow.holds Try.pinned (OpenSpec.ofChange fnExactJointAtSpec)

/-- ITS FALSE NEIGHBOUR: 'it returns false'. Refute it at one input. -/
def fnExactJointAtWrong : ChangeSpec := { name := "fnExactJointAt", fn := fun _ => fun
  | [d1, d2] => { results := [.lit (.bool false)], args := [d1, d2] }
  | _ => none }
def FnExactJointAtWrongFalsely : Prop := fnExactJointAtRow.holds Try.pinned (OpenSpec.ofChange fnExactJointAtWrong)

/-- 'laws.FnExactAcross': WHATEVER THE INPUT: true; the input reads as it did. -/
def fnExactAcrossSpec : ChangeSpec := { name := "fnExactAcross", fn := fun _ => fun
  | [d1, d2] => { results := [.lit (.bool true)], args := [d1, d2] }
  | _ => none }
def fnExactAcrossRow : OpenClaim := { program := "ytplnppdlabpodaa", sum := "f7aec740ebef5c1a1fc27592d6dd8307ab066ea86c7ff8c4b1bdf5e0b551f2d0", func := "loop.example/ballast/laws.FnExactAcross", spec := "fnExactAcross", unfollowed := true, recurses := true, plainKeys := false, apart := false }
def FnExactAcrossSaid : Prop := fnExactAcrossRow.holds Try.pinned (OpenSpec.ofChange fnExactAcrossSpec)

/-- ITS FALSE NEIGHBOUR: 'it returns false'. Refute it at one input. -/
def fnExactAcrossWrong : ChangeSpec := { name := "fnExactAcross", fn := fun _ => fun
  | [d1, d2] => { results := [.lit (.bool false)], args := [d1, d2] }
  | _ => none }
def FnExactAcrossWrongFalsely : Prop := fnExactAcrossRow.holds Try.pinned (OpenSpec.ofChange fnExactAcrossWrong)

/-- 'laws.FnExactSpotOk': WHATEVER THE INPUT: true; the input reads as it did. -/
def fnExactSpotOkSpec : ChangeSpec := { name := "fnExactSpotOk", fn := fun _ => fun
  | [d1, d2] => { results := [.lit (.bool true)], args := [d1, d2] }
  | _ => none }
def fnExactSpotOkRow : OpenClaim := { program := "ytplnppdlabpodaa", sum := "f7aec740ebef5c1a1fc27592d6dd8307ab066ea86c7ff8c4b1bdf5e0b551f2d0", func := "loop.example/ballast/laws.FnExactSpotOk", spec := "fnExactSpotOk", unfollowed := true, recurses := true, plainKeys := false, apart := false }
def FnExactSpotOkSaid : Prop := fnExactSpotOkRow.holds Try.pinned (OpenSpec.ofChange fnExactSpotOkSpec)

/-- ITS FALSE NEIGHBOUR: 'it returns false'. Refute it at one input. -/
def fnExactSpotOkWrong : ChangeSpec := { name := "fnExactSpotOk", fn := fun _ => fun
  | [d1, d2] => { results := [.lit (.bool false)], args := [d1, d2] }
  | _ => none }
def FnExactSpotOkWrongFalsely : Prop := fnExactSpotOkRow.holds Try.pinned (OpenSpec.ofChange fnExactSpotOkWrong)

/-- 'laws.FnExactTurn': WHATEVER THE INPUT: true; the input reads as it did. -/
def fnExactTurnSpec : ChangeSpec := { name := "fnExactTurn", fn := fun _ => fun
  | [d1, d2] => { results := [.lit (.bool true)], args := [d1, d2] }
  | _ => none }
def fnExactTurnRow : OpenClaim := { program := "ytplnppdlabpodaa", sum := "f7aec740ebef5c1a1fc27592d6dd8307ab066ea86c7ff8c4b1bdf5e0b551f2d0", func := "loop.example/ballast/laws.FnExactTurn", spec := "fnExactTurn", unfollowed := true, recurses := true, plainKeys := false, apart := false }
def FnExactTurnSaid : Prop := fnExactTurnRow.holds Try.pinned (OpenSpec.ofChange fnExactTurnSpec)

/-- ITS FALSE NEIGHBOUR: 'it returns false'. Refute it at one input. -/
def fnExactTurnWrong : ChangeSpec := { name := "fnExactTurn", fn := fun _ => fun
  | [d1, d2] => { results := [.lit (.bool false)], args := [d1, d2] }
  | _ => none }
def FnExactTurnWrongFalsely : Prop := fnExactTurnRow.holds Try.pinned (OpenSpec.ofChange fnExactTurnWrong)

/-- 'laws.FnExactDrive': WHATEVER THE INPUT: true; the input reads as it did. -/
def fnExactDriveSpec : ChangeSpec := { name := "fnExactDrive", fn := fun _ => fun
  | [d1, d2, d3, d4] => { results := [.lit (.bool true)], args := [d1, d2, d3, d4] }
  | _ => none }
def fnExactDriveRow : OpenClaim := { program := "ytplnppdlabpodaa", sum := "f7aec740ebef5c1a1fc27592d6dd8307ab066ea86c7ff8c4b1bdf5e0b551f2d0", func := "loop.example/ballast/laws.FnExactDrive", spec := "fnExactDrive", unfollowed := true, recurses := true, plainKeys := false, apart := false }
def FnExactDriveSaid : Prop := fnExactDriveRow.holds Try.pinned (OpenSpec.ofChange fnExactDriveSpec)

/-- ITS FALSE NEIGHBOUR: 'it returns false'. Refute it at one input. -/
def fnExactDriveWrong : ChangeSpec := { name := "fnExactDrive", fn := fun _ => fun
  | [d1, d2, d3, d4] => { results := [.lit (.bool false)], args := [d1, d2, d3, d4] }
  | _ => none }
def FnExactDriveWrongFalsely : Prop := fnExactDriveRow.holds Try.pinned (OpenSpec.ofChange fnExactDriveWrong)

/-- 'laws.FnExactAhead': WHATEVER THE INPUT: true; the input reads as it did. -/
def fnExactAheadSpec : ChangeSpec := { name := "fnExactAhead", fn := fun _ => fun
  | [d1, d2, d3, d4] => { results := [.lit (.bool true)], args := [d1, d2, d3, d4] }
  | _ => none }
def fnExactAheadRow : OpenClaim := { program := "ytplnppdlabpodaa", sum := "f7aec740ebef5c1a1fc27592d6dd8307ab066ea86c7ff8c4b1bdf5e0b551f2d0", func := "loop.example/ballast/laws.FnExactAhead", spec := "fnExactAhead", unfollowed := true, recurses := true, plainKeys := false, apart := false }
def FnExactAheadSaid : Prop := fnExactAheadRow.holds Try.pinned (OpenSpec.ofChange fnExactAheadSpec)

/-- ITS FALSE NEIGHBOUR: 'it returns false'. Refute it at one input. -/
def fnExactAheadWrong : ChangeSpec := { name := "fnExactAhead", fn := fun _ => fun
  | [d1, d2, d3, d4] => { results := [.lit (.bool false)], args := [d1, d2, d3, d4] }
  | _ => none }
def FnExactAheadWrongFalsely : Prop := fnExactAheadRow.holds Try.pinned (OpenSpec.ofChange fnExactAheadWrong)

/-- 'laws.FnExactBehind': WHATEVER THE INPUT: true; the input reads as it did. -/
def fnExactBehindSpec : ChangeSpec := { name := "fnExactBehind", fn := fun _ => fun
  | [d1, d2, d3, d4] => { results := [.lit (.bool true)], args := [d1, d2, d3, d4] }
  | _ => none }
def fnExactBehindRow : OpenClaim := { program := "ytplnppdlabpodaa", sum := "f7aec740ebef5c1a1fc27592d6dd8307ab066ea86c7ff8c4b1bdf5e0b551f2d0", func := "loop.example/ballast/laws.FnExactBehind", spec := "fnExactBehind", unfollowed := true, recurses := true, plainKeys := false, apart := false }
def FnExactBehindSaid : Prop := fnExactBehindRow.holds Try.pinned (OpenSpec.ofChange fnExactBehindSpec)

/-- ITS FALSE NEIGHBOUR: 'it returns false'. Refute it at one input. -/
def fnExactBehindWrong : ChangeSpec := { name := "fnExactBehind", fn := fun _ => fun
  | [d1, d2, d3, d4] => { results := [.lit (.bool false)], args := [d1, d2, d3, d4] }
  | _ => none }
def FnExactBehindWrongFalsely : Prop := fnExactBehindRow.holds Try.pinned (OpenSpec.ofChange fnExactBehindWrong)

/-- 'laws.FnExactPartsLen': WHATEVER THE INPUT: true; the input reads as it did. -/
def fnExactPartsLenSpec : ChangeSpec := { name := "fnExactPartsLen", fn := fun _ => fun
  | [d] => { results := [.lit (.bool true)], args := [d] }
  | _ => none }
def fnExactPartsLenRow : OpenClaim := { program := "ytplnppdlabpodaa", sum := "f7aec740ebef5c1a1fc27592d6dd8307ab066ea86c7ff8c4b1bdf5e0b551f2d0", func := "loop.example/ballast/laws.FnExactPartsLen", spec := "fnExactPartsLen", plainKeys := false, apart := false }
def FnExactPartsLenSaid : Prop := fnExactPartsLenRow.holds Try.pinned (OpenSpec.ofChange fnExactPartsLenSpec)

/-- ITS FALSE NEIGHBOUR: 'it returns false'. Refute it at one input. -/
def fnExactPartsLenWrong : ChangeSpec := { name := "fnExactPartsLen", fn := fun _ => fun
  | [d] => { results := [.lit (.bool false)], args := [d] }
  | _ => none }
def FnExactPartsLenWrongFalsely : Prop := fnExactPartsLenRow.holds Try.pinned (OpenSpec.ofChange fnExactPartsLenWrong)

/-- 'laws.FnExactTouch': WHATEVER THE INPUT: true; the input reads as it did. -/
def fnExactTouchSpec : ChangeSpec := { name := "fnExactTouch", fn := fun _ => fun
  | [d1, d2] => { results := [.lit (.bool true)], args := [d1, d2] }
  | _ => none }
def fnExactTouchRow : OpenClaim := { program := "ytplnppdlabpodaa", sum := "f7aec740ebef5c1a1fc27592d6dd8307ab066ea86c7ff8c4b1bdf5e0b551f2d0", func := "loop.example/ballast/laws.FnExactTouch", spec := "fnExactTouch", unfollowed := true, recurses := true, plainKeys := false, apart := false }
def FnExactTouchSaid : Prop := fnExactTouchRow.holds Try.pinned (OpenSpec.ofChange fnExactTouchSpec)

/-- ITS FALSE NEIGHBOUR: 'it returns false'. Refute it at one input. -/
def fnExactTouchWrong : ChangeSpec := { name := "fnExactTouch", fn := fun _ => fun
  | [d1, d2] => { results := [.lit (.bool false)], args := [d1, d2] }
  | _ => none }
def FnExactTouchWrongFalsely : Prop := fnExactTouchRow.holds Try.pinned (OpenSpec.ofChange fnExactTouchWrong)

/-- 'laws.FnExactPathLies': WHATEVER THE INPUT: true; the input reads as it did. -/
def fnExactPathLiesSpec : ChangeSpec := { name := "fnExactPathLies", fn := fun _ => fun
  | [d1, d2] => { results := [.lit (.bool true)], args := [d1, d2] }
  | _ => none }
def fnExactPathLiesRow : OpenClaim := { program := "ytplnppdlabpodaa", sum := "f7aec740ebef5c1a1fc27592d6dd8307ab066ea86c7ff8c4b1bdf5e0b551f2d0", func := "loop.example/ballast/laws.FnExactPathLies", spec := "fnExactPathLies", unfollowed := true, recurses := true, plainKeys := false, apart := false }
def FnExactPathLiesSaid : Prop := fnExactPathLiesRow.holds Try.pinned (OpenSpec.ofChange fnExactPathLiesSpec)

/-- ITS FALSE NEIGHBOUR: 'it returns false'. Refute it at one input. -/
def fnExactPathLiesWrong : ChangeSpec := { name := "fnExactPathLies", fn := fun _ => fun
  | [d1, d2] => { results := [.lit (.bool false)], args := [d1, d2] }
  | _ => none }
def FnExactPathLiesWrongFalsely : Prop := fnExactPathLiesRow.holds Try.pinned (OpenSpec.ofChange fnExactPathLiesWrong)

/- THE SECOND FORM. 'bulk': how many values and letters a reading holds, each counted each time it is reached (what is shared counts as often as it is met; a slice's spare places count too). A statement '..UptoSaid' is the law's where the arguments, and the package variables that the reading takes, are together of bulk at most 1048576: NARROWER than '..Said'. Prove '..Said' where nothing that the law and all that it calls make is longer than what came in: it says more and counts as full. Else prove '..UptoSaid'. A law counts once. -/
mutual
def uptoBulk {H : Type} : DataW H → Nat
  | .lit (.string bytes) => bytes.length + 1
  | .lit _ => 1
  | .nil => 1
  | .ptr d => uptoBulk d + 1
  | .slice elems spare => uptoBulkAll elems + uptoBulkAll spare + 1
  | .agg parts => uptoBulkAll parts + 1
  | .iface _ d => uptoBulk d + 1
  | .map entries => uptoBulkEntries entries + 1
  | .held _ => 1
def uptoBulkAll {H : Type} : List (DataW H) → Nat
  | [] => 0
  | d :: r => uptoBulk d + uptoBulkAll r
def uptoBulkEntries {H : Type} : List (Lit × DataW H) → Nat
  | [] => 0
  | x :: r => uptoBulkEntry x + uptoBulkEntries r
def uptoBulkEntry {H : Type} : Lit × DataW H → Nat
  | (.string bytes, d) => bytes.length + uptoBulk d + 1
  | (_, d) => uptoBulk d + 1
 end
def uptoSmall : (H : Type) → List (DataW H) → Bool := fun _ ds => decide (uptoBulkAll ds ≤ 1048576)
def OpenSpec.upto (s : _root_.Go.ChangeSpec) : _root_.Go.OpenSpec := { _root_.Go.OpenSpec.ofChange s with cond := some uptoSmall }

/-- 'laws.FnExactNetOk', WHERE WHAT IT READS IS OF BULK AT MOST 1048576: true; the input reads as it did. -/
def fnExactNetOkUptoRow : OpenClaim := { program := "ytplnppdlabpodaa", sum := "f7aec740ebef5c1a1fc27592d6dd8307ab066ea86c7ff8c4b1bdf5e0b551f2d0", func := "loop.example/ballast/laws.FnExactNetOk", spec := "fnExactNetOk", unfollowed := true, recurses := true, plainKeys := false, apart := false, narrowed := true }
def FnExactNetOkUptoSaid : Prop := fnExactNetOkUptoRow.holds Try.pinned (OpenSpec.upto fnExactNetOkSpec)

/-- 'laws.FnExactJointAt', WHERE WHAT IT READS IS OF BULK AT MOST 1048576: true; the input reads as it did. -/
def fnExactJointAtUptoRow : OpenClaim := { program := "ytplnppdlabpodaa", sum := "f7aec740ebef5c1a1fc27592d6dd8307ab066ea86c7ff8c4b1bdf5e0b551f2d0", func := "loop.example/ballast/laws.FnExactJointAt", spec := "fnExactJointAt", unfollowed := true, recurses := true, plainKeys := false, apart := false, narrowed := true }
def FnExactJointAtUptoSaid : Prop := fnExactJointAtUptoRow.holds Try.pinned (OpenSpec.upto fnExactJointAtSpec)

/-- 'laws.FnExactAcross', WHERE WHAT IT READS IS OF BULK AT MOST 1048576: true; the input reads as it did. -/
def fnExactAcrossUptoRow : OpenClaim := { program := "ytplnppdlabpodaa", sum := "f7aec740ebef5c1a1fc27592d6dd8307ab066ea86c7ff8c4b1bdf5e0b551f2d0", func := "loop.example/ballast/laws.FnExactAcross", spec := "fnExactAcross", unfollowed := true, recurses := true, plainKeys := false, apart := false, narrowed := true }
def FnExactAcrossUptoSaid : Prop := fnExactAcrossUptoRow.holds Try.pinned (OpenSpec.upto fnExactAcrossSpec)

/-- 'laws.FnExactSpotOk', WHERE WHAT IT READS IS OF BULK AT MOST 1048576: true; the input reads as it did. -/
def fnExactSpotOkUptoRow : OpenClaim := { program := "ytplnppdlabpodaa", sum := "f7aec740ebef5c1a1fc27592d6dd8307ab066ea86c7ff8c4b1bdf5e0b551f2d0", func := "loop.example/ballast/laws.FnExactSpotOk", spec := "fnExactSpotOk", unfollowed := true, recurses := true, plainKeys := false, apart := false, narrowed := true }
def FnExactSpotOkUptoSaid : Prop := fnExactSpotOkUptoRow.holds Try.pinned (OpenSpec.upto fnExactSpotOkSpec)

/-- 'laws.FnExactTurn', WHERE WHAT IT READS IS OF BULK AT MOST 1048576: true; the input reads as it did. -/
def fnExactTurnUptoRow : OpenClaim := { program := "ytplnppdlabpodaa", sum := "f7aec740ebef5c1a1fc27592d6dd8307ab066ea86c7ff8c4b1bdf5e0b551f2d0", func := "loop.example/ballast/laws.FnExactTurn", spec := "fnExactTurn", unfollowed := true, recurses := true, plainKeys := false, apart := false, narrowed := true }
def FnExactTurnUptoSaid : Prop := fnExactTurnUptoRow.holds Try.pinned (OpenSpec.upto fnExactTurnSpec)

/-- 'laws.FnExactDrive', WHERE WHAT IT READS IS OF BULK AT MOST 1048576: true; the input reads as it did. -/
def fnExactDriveUptoRow : OpenClaim := { program := "ytplnppdlabpodaa", sum := "f7aec740ebef5c1a1fc27592d6dd8307ab066ea86c7ff8c4b1bdf5e0b551f2d0", func := "loop.example/ballast/laws.FnExactDrive", spec := "fnExactDrive", unfollowed := true, recurses := true, plainKeys := false, apart := false, narrowed := true }
def FnExactDriveUptoSaid : Prop := fnExactDriveUptoRow.holds Try.pinned (OpenSpec.upto fnExactDriveSpec)

/-- 'laws.FnExactAhead', WHERE WHAT IT READS IS OF BULK AT MOST 1048576: true; the input reads as it did. -/
def fnExactAheadUptoRow : OpenClaim := { program := "ytplnppdlabpodaa", sum := "f7aec740ebef5c1a1fc27592d6dd8307ab066ea86c7ff8c4b1bdf5e0b551f2d0", func := "loop.example/ballast/laws.FnExactAhead", spec := "fnExactAhead", unfollowed := true, recurses := true, plainKeys := false, apart := false, narrowed := true }
def FnExactAheadUptoSaid : Prop := fnExactAheadUptoRow.holds Try.pinned (OpenSpec.upto fnExactAheadSpec)

/-- 'laws.FnExactBehind', WHERE WHAT IT READS IS OF BULK AT MOST 1048576: true; the input reads as it did. -/
def fnExactBehindUptoRow : OpenClaim := { program := "ytplnppdlabpodaa", sum := "f7aec740ebef5c1a1fc27592d6dd8307ab066ea86c7ff8c4b1bdf5e0b551f2d0", func := "loop.example/ballast/laws.FnExactBehind", spec := "fnExactBehind", unfollowed := true, recurses := true, plainKeys := false, apart := false, narrowed := true }
def FnExactBehindUptoSaid : Prop := fnExactBehindUptoRow.holds Try.pinned (OpenSpec.upto fnExactBehindSpec)

/-- 'laws.FnExactPartsLen', WHERE WHAT IT READS IS OF BULK AT MOST 1048576: true; the input reads as it did. -/
def fnExactPartsLenUptoRow : OpenClaim := { program := "ytplnppdlabpodaa", sum := "f7aec740ebef5c1a1fc27592d6dd8307ab066ea86c7ff8c4b1bdf5e0b551f2d0", func := "loop.example/ballast/laws.FnExactPartsLen", spec := "fnExactPartsLen", plainKeys := false, apart := false, narrowed := true }
def FnExactPartsLenUptoSaid : Prop := fnExactPartsLenUptoRow.holds Try.pinned (OpenSpec.upto fnExactPartsLenSpec)

/-- 'laws.FnExactTouch', WHERE WHAT IT READS IS OF BULK AT MOST 1048576: true; the input reads as it did. -/
def fnExactTouchUptoRow : OpenClaim := { program := "ytplnppdlabpodaa", sum := "f7aec740ebef5c1a1fc27592d6dd8307ab066ea86c7ff8c4b1bdf5e0b551f2d0", func := "loop.example/ballast/laws.FnExactTouch", spec := "fnExactTouch", unfollowed := true, recurses := true, plainKeys := false, apart := false, narrowed := true }
def FnExactTouchUptoSaid : Prop := fnExactTouchUptoRow.holds Try.pinned (OpenSpec.upto fnExactTouchSpec)

/-- 'laws.FnExactPathLies', WHERE WHAT IT READS IS OF BULK AT MOST 1048576: true; the input reads as it did. -/
def fnExactPathLiesUptoRow : OpenClaim := { program := "ytplnppdlabpodaa", sum := "f7aec740ebef5c1a1fc27592d6dd8307ab066ea86c7ff8c4b1bdf5e0b551f2d0", func := "loop.example/ballast/laws.FnExactPathLies", spec := "fnExactPathLies", unfollowed := true, recurses := true, plainKeys := false, apart := false, narrowed := true }
def FnExactPathLiesUptoSaid : Prop := fnExactPathLiesUptoRow.holds Try.pinned (OpenSpec.upto fnExactPathLiesSpec)

end Rows
end Go.Proofs.Ytplnppdlabpodaa
