/-
  DERIVED. GIVEN WITH THE SEED: THE CARDS: each row of YtjhknafajfpldaaDoorRows.lean that lists a variable, with what it lists TIED to the program's text (the seventh form; the later family's looks); each row that meets fmt, with fmt's text TOLD by the authors' own Lean function (tested against real Go, not proved from fmt's source: count such statements apart). THE CARD IS WHAT COUNTS. Prove the row's statement (the work); the ties are given (YtjhknafajfpldaaDoorTie.lean); close each card by the builder's one call (the guide's Derived/Test/ToyasCard.lean, 'card_holds'). Laid BY PROGRAM, IN A SANDBOX (cutbox-door.mjs). By AI agents, Wed Nov 11 2026. No macro, syntax, notation, axiom, sorry.
-/
import Derived.Test.YtjhknafajfpldaaDoorRows
import GoSem.ClaimSeven
namespace Go.Proofs.YtjhknafajfpldaaDoor
namespace Rows

/-- THE TIED CARD OF 'laws.FnDisputes'. -/
def fnDisputesCard : Claim7 := { stood := { row := fnDisputesRow, standIns := [], harness := (true, "e442302dae2ef8c1715446a7a000e95eb3f978d15f91e5e3096698e09dcea254"), looks := true }, kinds := [], alts := [], laidByText := true, laidKinds := [.handle], laidTests := true, laidLooks := .later }
def FnDisputesCardSaid : Prop := Claim7.holds Tryd.pinned (.plain (OpenSpec.ofChange fnDisputesSpec)) fnDisputesCard

/-- THE SECOND FORM's CARD OF 'laws.FnDisputes'. -/
def fnDisputesUptoCard : Claim7 := { stood := { row := fnDisputesUptoRow, standIns := [], harness := (true, "e442302dae2ef8c1715446a7a000e95eb3f978d15f91e5e3096698e09dcea254"), looks := true }, kinds := [], alts := [], laidByText := true, laidKinds := [.handle], laidTests := true, laidLooks := .later }
def FnDisputesUptoCardSaid : Prop := Claim7.holds Tryd.pinned (.plain (OpenSpec.upto fnDisputesSpec)) fnDisputesUptoCard
end Rows
end Go.Proofs.YtjhknafajfpldaaDoor
