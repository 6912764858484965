/-
  No cell of these rows narrows 'for every input' (looked for: loops, veiled, ifaces, maps, wideKeys, modest, calm, conditions, laid).
  DERIVED. THE GIVEN ROWS OF THIS SEAT. 3 by the template 'for every input the law returns true; each argument reads behind the call as it read before'; 0 by the template 'total and deterministic' (their statements: YtckfopfdhodceaaTotals.lean).
  GIVEN WITH THE SEED: the statements are not yours to turn. If you find one false, say at which input.
  Laid BY PROGRAM, IN A SANDBOX (cutbox-rows.mjs): the forced cells as the released guide's own fill.sh prints them over the translation b2d4ff39227e5a6d… (all of the seat's roots in one cut). By AI agents, Wed Nov 11 2026. No macro, syntax, notation, axiom, sorry.
-/
import Derived.Test.YtckfopfdhodceaaChecked
import GoSem.Claim
import GoSem.ClaimJoined
import GoSem.ClaimMapViews
import Derived.JoinedTies
import Derived.KernelRfl
namespace Go.Proofs.Ytckfopfdhodceaa
/- THE CELL 'sum', in the pinned program and in every row, IS THE sha256 OF THE DUMP (.gsa) THAT YtckfopfdhodceaaProg.lean LOADS. Nothing in Lean hashes anything: it is a label: what it is worth is what the hold of that sum in a sandbox is worth. -/
noncomputable def Try.pinned : Pinned := { name := "ytckfopfdhodceaa", sum := "b2d4ff39227e5a6dc1a5a76a4b19bd0b6fb1b7823253ebc9270f7cb9224126cc", checked := Try.checked }
namespace Rows
def none {H : Type} : Left H := { results := [], args := [] }

/-- 'laws.FnExactNetOk': WHATEVER THE INPUT: true; the input reads as it did. -/
def fnExactNetOkSpec : ChangeSpec := { name := "fnExactNetOk", fn := fun _ => fun
  | [d] => { results := [.lit (.bool true)], args := [d] }
  | _ => none }
def fnExactNetOkRow : OpenClaim := { program := "ytckfopfdhodceaa", sum := "b2d4ff39227e5a6dc1a5a76a4b19bd0b6fb1b7823253ebc9270f7cb9224126cc", func := "loop.example/ballast/laws.FnExactNetOk", spec := "fnExactNetOk", unfollowed := true, recurses := true, plainKeys := false, apart := false }
def FnExactNetOkSaid : Prop := fnExactNetOkRow.holds Try.pinned (OpenSpec.ofChange fnExactNetOkSpec)

/-- ITS FALSE NEIGHBOUR: 'it returns false'. Refute it at one input. -/
def fnExactNetOkWrong : ChangeSpec := { name := "fnExactNetOk", fn := fun _ => fun
  | [d] => { results := [.lit (.bool false)], args := [d] }
  | _ => none }
def FnExactNetOkWrongFalsely : Prop := fnExactNetOkRow.holds Try.pinned (OpenSpec.ofChange fnExactNetOkWrong)

/-- 'laws.FnExactJointAt': WHATEVER THE INPUT: true; the input reads as it did. -/
def fnExactJointAtSpec : ChangeSpec := { name := "fnExactJointAt", fn := fun _ => fun
  | [d1, d2] => { results := [.lit (.bool true)], args := [d1, d2] }
  | _ => none }
def fnExactJointAtRow : OpenClaim := { program := "ytckfopfdhodceaa", sum := "b2d4ff39227e5a6dc1a5a76a4b19bd0b6fb1b7823253ebc9270f7cb9224126cc", func := "loop.example/ballast/laws.FnExactJointAt", spec := "fnExactJointAt", unfollowed := true, recurses := true, plainKeys := false, apart := false }
def FnExactJointAtSaid : Prop := fnExactJointAtRow.holds Try.pinned (OpenSpec.ofChange fnExactJointAtSpec)

/-- ITS FALSE NEIGHBOUR: 'it returns false'. Refute it at one input. -/
def fnExactJointAtWrong : ChangeSpec := { name := "fnExactJointAt", fn := fun _ => fun
  | [d1, d2] => { results := [.lit (.bool false)], args := [d1, d2] }
  | _ => none }
def FnExactJointAtWrongFalsely : Prop := fnExactJointAtRow.holds Try.pinned (OpenSpec.ofChange fnExactJointAtWrong)

/-- 'laws.FnExactAcross': WHATEVER THE INPUT: true; the input reads as it did. -/
def fnExactAcrossSpec : ChangeSpec := { name := "fnExactAcross", fn := fun _ => fun
  | [d1, d2] => { results := [.lit (.bool true)], args := [d1, d2] }
  | _ => none }
def fnExactAcrossRow : OpenClaim := { program := "ytckfopfdhodceaa", sum := "b2d4ff39227e5a6dc1a5a76a4b19bd0b6fb1b7823253ebc9270f7cb9224126cc", func := "loop.example/ballast/laws.FnExactAcross", spec := "fnExactAcross", unfollowed := true, recurses := true, plainKeys := false, apart := false }
def FnExactAcrossSaid : Prop := fnExactAcrossRow.holds Try.pinned (OpenSpec.ofChange fnExactAcrossSpec)

/-- ITS FALSE NEIGHBOUR: 'it returns false'. Refute it at one input. -/
def fnExactAcrossWrong : ChangeSpec := { name := "fnExactAcross", fn := fun _ => fun
  | [d1, d2] => { results := [.lit (.bool false)], args := [d1, d2] }
  | _ => none }
def FnExactAcrossWrongFalsely : Prop := fnExactAcrossRow.holds Try.pinned (OpenSpec.ofChange fnExactAcrossWrong)

/- THE SECOND FORM. 'bulk': how many values and letters a reading holds, each counted each time it is reached (what is shared counts as often as it is met; a slice's spare places count too). A statement '..UptoSaid' is the law's where the arguments, and the package variables that the reading takes, are together of bulk at most 1048576: NARROWER than '..Said'. Prove '..Said' where nothing that the law and all that it calls make is longer than what came in: it says more and counts as full. Else prove '..UptoSaid'. A law counts once. -/
mutual
def uptoBulk {H : Type} : DataW H → Nat
  | .lit (.string bytes) => bytes.length + 1
  | .lit _ => 1
  | .nil => 1
  | .ptr d => uptoBulk d + 1
  | .slice elems spare => uptoBulkAll elems + uptoBulkAll spare + 1
  | .agg parts => uptoBulkAll parts + 1
  | .iface _ d => uptoBulk d + 1
  | .map entries => uptoBulkEntries entries + 1
  | .held _ => 1
def uptoBulkAll {H : Type} : List (DataW H) → Nat
  | [] => 0
  | d :: r => uptoBulk d + uptoBulkAll r
def uptoBulkEntries {H : Type} : List (Lit × DataW H) → Nat
  | [] => 0
  | x :: r => uptoBulkEntry x + uptoBulkEntries r
def uptoBulkEntry {H : Type} : Lit × DataW H → Nat
  | (.string bytes, d) => bytes.length + uptoBulk d + 1
  | (_, d) => uptoBulk d + 1
 end
def uptoSmall : (H : Type) → List (DataW H) → Bool := fun _ ds => decide (uptoBulkAll ds ≤ 1048576)
def OpenSpec.upto (s : _root_.Go.ChangeSpec) : _root_.Go.OpenSpec := { _root_.Go.OpenSpec.ofChange s with cond := some uptoSmall }

/-- 'laws.FnExactNetOk', WHERE WHAT IT READS IS OF BULK AT MOST 1048576: true; the input reads as it did. -/
def fnExactNetOkUptoRow : OpenClaim := { program := "ytckfopfdhodceaa", sum := "b2d4ff39227e5a6dc1a5a76a4b19bd0b6fb1b7823253ebc9270f7cb9224126cc", func := "loop.example/ballast/laws.FnExactNetOk", spec := "fnExactNetOk", unfollowed := true, recurses := true, plainKeys := false, apart := false, narrowed := true }
def FnExactNetOkUptoSaid : Prop := fnExactNetOkUptoRow.holds Try.pinned (OpenSpec.upto fnExactNetOkSpec)

/-- 'laws.FnExactJointAt', WHERE WHAT IT READS IS OF BULK AT MOST 1048576: true; the input reads as it did. -/
def fnExactJointAtUptoRow : OpenClaim := { program := "ytckfopfdhodceaa", sum := "b2d4ff39227e5a6dc1a5a76a4b19bd0b6fb1b7823253ebc9270f7cb9224126cc", func := "loop.example/ballast/laws.FnExactJointAt", spec := "fnExactJointAt", unfollowed := true, recurses := true, plainKeys := false, apart := false, narrowed := true }
def FnExactJointAtUptoSaid : Prop := fnExactJointAtUptoRow.holds Try.pinned (OpenSpec.upto fnExactJointAtSpec)

/-- 'laws.FnExactAcross', WHERE WHAT IT READS IS OF BULK AT MOST 1048576: true; the input reads as it did. -/
def fnExactAcrossUptoRow : OpenClaim := { program := "ytckfopfdhodceaa", sum := "b2d4ff39227e5a6dc1a5a76a4b19bd0b6fb1b7823253ebc9270f7cb9224126cc", func := "loop.example/ballast/laws.FnExactAcross", spec := "fnExactAcross", unfollowed := true, recurses := true, plainKeys := false, apart := false, narrowed := true }
def FnExactAcrossUptoSaid : Prop := fnExactAcrossUptoRow.holds Try.pinned (OpenSpec.upto fnExactAcrossSpec)

end Rows
end Go.Proofs.Ytckfopfdhodceaa
