/-
  DERIVED. GIVEN WITH THE SEED: THE CARDS: each row of YtagbdgmhlichiaaDoorRows.lean that lists a variable, with what it lists TIED to the program's text (the seventh form; the later family's looks); each row that meets fmt, with fmt's text TOLD by the authors' own Lean function (tested against real Go, not proved from fmt's source: count such statements apart). THE CARD IS WHAT COUNTS. Prove the row's statement (the work); the ties are given (YtagbdgmhlichiaaDoorTie.lean); close each card by the builder's one call (the guide's Derived/Test/ToyasCard.lean, 'card_holds'). Laid BY PROGRAM, IN A SANDBOX (cutbox-door.mjs). By AI agents, Wed Nov 11 2026. No macro, syntax, notation, axiom, sorry.
-/
import Derived.Test.YtagbdgmhlichiaaDoorRows
import GoSem.ClaimSeven
namespace Go.Proofs.YtagbdgmhlichiaaDoor
namespace Rows

/-- THE TIED CARD OF 'laws.FnFree'. -/
def fnFreeCard : Claim7 := { stood := { row := fnFreeRow, standIns := [], harness := (true, "0a0e497170eb83d38a65fad0e91daef8ed1fe8b38474c9e7a8388684f42a5551"), looks := true }, kinds := [], alts := [], laidByText := true, laidKinds := [.handle], laidTests := true, laidLooks := .later }
def FnFreeCardSaid : Prop := Claim7.holds Tryd.pinned (.plain (OpenSpec.ofChange fnFreeSpec)) fnFreeCard

/-- THE TIED CARD OF 'laws.FnExactIsSet'. -/
def fnExactIsSetCard : Claim7 := { stood := { row := fnExactIsSetRow, standIns := [], harness := (true, "0a0e497170eb83d38a65fad0e91daef8ed1fe8b38474c9e7a8388684f42a5551"), looks := true }, kinds := [], alts := [], laidByText := true, laidKinds := [.handle], laidTests := true, laidLooks := .later }
def FnExactIsSetCardSaid : Prop := Claim7.holds Tryd.pinned (.plain (OpenSpec.ofChange fnExactIsSetSpec)) fnExactIsSetCard

/-- THE TIED CARD OF 'laws.FnExactDefends'. -/
def fnExactDefendsCard : Claim7 := { stood := { row := fnExactDefendsRow, standIns := [], harness := (true, "0a0e497170eb83d38a65fad0e91daef8ed1fe8b38474c9e7a8388684f42a5551"), looks := true }, kinds := [], alts := [], laidByText := true, laidKinds := [.handle], laidTests := true, laidLooks := .later }
def FnExactDefendsCardSaid : Prop := Claim7.holds Tryd.pinned (.plain (OpenSpec.ofChange fnExactDefendsSpec)) fnExactDefendsCard

/-- THE TIED CARD OF 'laws.FnExactDefendedBy'. -/
def fnExactDefendedByCard : Claim7 := { stood := { row := fnExactDefendedByRow, standIns := [], harness := (true, "0a0e497170eb83d38a65fad0e91daef8ed1fe8b38474c9e7a8388684f42a5551"), looks := true }, kinds := [], alts := [], laidByText := true, laidKinds := [.handle], laidTests := true, laidLooks := .later }
def FnExactDefendedByCardSaid : Prop := Claim7.holds Tryd.pinned (.plain (OpenSpec.ofChange fnExactDefendedBySpec)) fnExactDefendedByCard

/-- THE SECOND FORM's CARD OF 'laws.FnFree'. -/
def fnFreeUptoCard : Claim7 := { stood := { row := fnFreeUptoRow, standIns := [], harness := (true, "0a0e497170eb83d38a65fad0e91daef8ed1fe8b38474c9e7a8388684f42a5551"), looks := true }, kinds := [], alts := [], laidByText := true, laidKinds := [.handle], laidTests := true, laidLooks := .later }
def FnFreeUptoCardSaid : Prop := Claim7.holds Tryd.pinned (.plain (OpenSpec.upto fnFreeSpec)) fnFreeUptoCard

/-- THE SECOND FORM's CARD OF 'laws.FnExactIsSet'. -/
def fnExactIsSetUptoCard : Claim7 := { stood := { row := fnExactIsSetUptoRow, standIns := [], harness := (true, "0a0e497170eb83d38a65fad0e91daef8ed1fe8b38474c9e7a8388684f42a5551"), looks := true }, kinds := [], alts := [], laidByText := true, laidKinds := [.handle], laidTests := true, laidLooks := .later }
def FnExactIsSetUptoCardSaid : Prop := Claim7.holds Tryd.pinned (.plain (OpenSpec.upto fnExactIsSetSpec)) fnExactIsSetUptoCard

/-- THE SECOND FORM's CARD OF 'laws.FnExactDefends'. -/
def fnExactDefendsUptoCard : Claim7 := { stood := { row := fnExactDefendsUptoRow, standIns := [], harness := (true, "0a0e497170eb83d38a65fad0e91daef8ed1fe8b38474c9e7a8388684f42a5551"), looks := true }, kinds := [], alts := [], laidByText := true, laidKinds := [.handle], laidTests := true, laidLooks := .later }
def FnExactDefendsUptoCardSaid : Prop := Claim7.holds Tryd.pinned (.plain (OpenSpec.upto fnExactDefendsSpec)) fnExactDefendsUptoCard

/-- THE SECOND FORM's CARD OF 'laws.FnExactDefendedBy'. -/
def fnExactDefendedByUptoCard : Claim7 := { stood := { row := fnExactDefendedByUptoRow, standIns := [], harness := (true, "0a0e497170eb83d38a65fad0e91daef8ed1fe8b38474c9e7a8388684f42a5551"), looks := true }, kinds := [], alts := [], laidByText := true, laidKinds := [.handle], laidTests := true, laidLooks := .later }
def FnExactDefendedByUptoCardSaid : Prop := Claim7.holds Tryd.pinned (.plain (OpenSpec.upto fnExactDefendedBySpec)) fnExactDefendedByUptoCard
end Rows
end Go.Proofs.YtagbdgmhlichiaaDoor
