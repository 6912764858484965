/-
  DERIVED. GIVEN WITH THE SEED: THE CARDS: each row of YtokhbnlpifmjkaaDoorRows.lean that lists a variable, with what it lists TIED to the program's text (the seventh form; the later family's looks); each row that meets fmt, with fmt's text TOLD by the authors' own Lean function (tested against real Go, not proved from fmt's source: count such statements apart). THE CARD IS WHAT COUNTS. Prove the row's statement (the work); the ties are given (YtokhbnlpifmjkaaDoorTie.lean); close each card by the builder's one call (the guide's Derived/Test/ToyasCard.lean, 'card_holds'). Laid BY PROGRAM, IN A SANDBOX (cutbox-door.mjs). By AI agents, Wed Nov 11 2026. No macro, syntax, notation, axiom, sorry.
-/
import Derived.Test.YtokhbnlpifmjkaaDoorRows
import GoSem.ClaimSeven
namespace Go.Proofs.YtokhbnlpifmjkaaDoor
namespace Rows

/-- THE TIED CARD OF 'laws.FnExactWriteNet'. -/
def fnExactWriteNetCard : Claim7 := { stood := { row := fnExactWriteNetRow, standIns := [], harness := (true, "ce0fd5d598783d9d655244cd89024ac8199b3fc61ad96bfcdde64235c1a21ba1"), looks := false }, kinds := [], alts := [], laidByText := true, laidKinds := [.data, .data, .data], laidTests := true, laidLooks := .later }
def FnExactWriteNetCardSaid : Prop := Claim7.holds Tryd.pinned (.plain (OpenSpec.ofChange fnExactWriteNetSpec)) fnExactWriteNetCard

/-- THE SECOND FORM's CARD OF 'laws.FnExactWriteNet'. -/
def fnExactWriteNetUptoCard : Claim7 := { stood := { row := fnExactWriteNetUptoRow, standIns := [], harness := (true, "ce0fd5d598783d9d655244cd89024ac8199b3fc61ad96bfcdde64235c1a21ba1"), looks := false }, kinds := [], alts := [], laidByText := true, laidKinds := [.data, .data, .data], laidTests := true, laidLooks := .later }
def FnExactWriteNetUptoCardSaid : Prop := Claim7.holds Tryd.pinned (.plain (OpenSpec.upto fnExactWriteNetSpec)) fnExactWriteNetUptoCard
end Rows
end Go.Proofs.YtokhbnlpifmjkaaDoor
