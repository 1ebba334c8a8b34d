/-
  DERIVED. GIVEN WITH THE SEED: THE CARDS: each row of YtfcckpapcnhejaaDoorRows.lean that lists a variable, with what it lists TIED to the program's text (the seventh form; the later family's looks); each row that meets fmt, with fmt's text TOLD by the authors' own Lean function (tested against real Go, not proved from fmt's source: count such statements apart). THE CARD IS WHAT COUNTS. Prove the row's statement (the work); the ties are given (YtfcckpapcnhejaaDoorTie.lean); close each card by the builder's one call (the guide's Derived/Test/ToyasCard.lean, 'card_holds'). Laid BY PROGRAM, IN A SANDBOX (cutbox-door.mjs). By AI agents, Wed Nov 11 2026. No macro, syntax, notation, axiom, sorry.
-/
import Derived.Test.YtfcckpapcnhejaaDoorRows
import GoSem.ClaimSeven
namespace Go.Proofs.YtfcckpapcnhejaaDoor
namespace Rows

/-- THE TIED CARD OF 'laws.FnExactFirstRow'. -/
def fnExactFirstRowCard : Claim7 := { stood := { row := fnExactFirstRowRow, standIns := [], harness := (true, "8ab73b0b75dfad755a26bc9f3db735d25b57f3c31483597d956887bf23516c31"), looks := false }, kinds := [], alts := [], laidByText := true, laidKinds := [.data], laidTests := true, laidLooks := .later }
def FnExactFirstRowCardSaid : Prop := Claim7.holds Tryd.pinned (.plain (OpenSpec.ofChange fnExactFirstRowSpec)) fnExactFirstRowCard

/-- THE SECOND FORM's CARD OF 'laws.FnExactFirstRow'. -/
def fnExactFirstRowUptoCard : Claim7 := { stood := { row := fnExactFirstRowUptoRow, standIns := [], harness := (true, "8ab73b0b75dfad755a26bc9f3db735d25b57f3c31483597d956887bf23516c31"), looks := false }, kinds := [], alts := [], laidByText := true, laidKinds := [.data], laidTests := true, laidLooks := .later }
def FnExactFirstRowUptoCardSaid : Prop := Claim7.holds Tryd.pinned (.plain (OpenSpec.upto fnExactFirstRowSpec)) fnExactFirstRowUptoCard
end Rows
end Go.Proofs.YtfcckpapcnhejaaDoor
