/-
  No cell of these rows narrows 'for every input' (looked for: loops, veiled, ifaces, maps, wideKeys, modest, calm, conditions, laid).
  DERIVED. THE GIVEN ROWS OF THIS SEAT. 12 by the template 'for every input the law returns true; each argument reads behind the call as it read before'; 0 by the template 'total and deterministic' (their statements: YtndahdppikcidaaTotals.lean).
  GIVEN WITH THE SEED: the statements are not yours to turn. If you find one false, say at which input.
  Laid BY PROGRAM, IN A SANDBOX (cutbox-rows.mjs): the forced cells as the released guide's own fill.sh prints them over the translation 3d1524dd1c2bc602… (all of the seat's roots in one cut). By AI agents, Wed Nov 11 2026. No macro, syntax, notation, axiom, sorry.
-/
import Derived.Test.YtndahdppikcidaaChecked
import GoSem.Claim
import GoSem.ClaimJoined
import GoSem.ClaimMapViews
import Derived.JoinedTies
import Derived.KernelRfl
namespace Go.Proofs.Ytndahdppikcidaa
/- THE CELL 'sum', in the pinned program and in every row, IS THE sha256 OF THE DUMP (.gsa) THAT YtndahdppikcidaaProg.lean LOADS. Nothing in Lean hashes anything: it is a label: what it is worth is what the hold of that sum in a sandbox is worth. -/
noncomputable def Try.pinned : Pinned := { name := "ytndahdppikcidaa", sum := "3d1524dd1c2bc60246cf4adfc61f19c3d3adea2f9e68bfacda8313d64eb2d98b", checked := Try.checked }
namespace Rows
def none {H : Type} : Left H := { results := [], args := [] }

/-- 'laws.FnBrackets': WHATEVER THE INPUT: true; the input reads as it did. -/
def fnBracketsSpec : ChangeSpec := { name := "fnBrackets", fn := fun _ => fun
  | [d] => { results := [.lit (.bool true)], args := [d] }
  | _ => none }
def fnBracketsRow : OpenClaim := { program := "ytndahdppikcidaa", sum := "3d1524dd1c2bc60246cf4adfc61f19c3d3adea2f9e68bfacda8313d64eb2d98b", func := "loop.example/g03009/laws.FnBrackets", spec := "fnBrackets", unfollowed := true, recurses := true, apart := false }
def FnBracketsSaid : Prop := fnBracketsRow.holds Try.pinned (OpenSpec.ofChange fnBracketsSpec)

/-- ITS FALSE NEIGHBOUR: 'it returns false'. Refute it at one input. -/
def fnBracketsWrong : ChangeSpec := { name := "fnBrackets", fn := fun _ => fun
  | [d] => { results := [.lit (.bool false)], args := [d] }
  | _ => none }
def FnBracketsWrongFalsely : Prop := fnBracketsRow.holds Try.pinned (OpenSpec.ofChange fnBracketsWrong)

/-- 'laws.FnMotions': WHATEVER THE INPUT: true; the input reads as it did. -/
def fnMotionsSpec : ChangeSpec := { name := "fnMotions", fn := fun _ => fun
  | [d] => { results := [.lit (.bool true)], args := [d] }
  | _ => none }
def fnMotionsRow : OpenClaim := { program := "ytndahdppikcidaa", sum := "3d1524dd1c2bc60246cf4adfc61f19c3d3adea2f9e68bfacda8313d64eb2d98b", func := "loop.example/g03009/laws.FnMotions", spec := "fnMotions", unfollowed := true, recurses := true, apart := false }
def FnMotionsSaid : Prop := fnMotionsRow.holds Try.pinned (OpenSpec.ofChange fnMotionsSpec)

/-- ITS FALSE NEIGHBOUR: 'it returns false'. Refute it at one input. -/
def fnMotionsWrong : ChangeSpec := { name := "fnMotions", fn := fun _ => fun
  | [d] => { results := [.lit (.bool false)], args := [d] }
  | _ => none }
def FnMotionsWrongFalsely : Prop := fnMotionsRow.holds Try.pinned (OpenSpec.ofChange fnMotionsWrong)

/-- 'laws.FnExactSeedOrder': WHATEVER THE INPUT: true; the input reads as it did. -/
def fnExactSeedOrderSpec : ChangeSpec := { name := "fnExactSeedOrder", fn := fun _ => fun
  | [d] => { results := [.lit (.bool true)], args := [d] }
  | _ => none }
def fnExactSeedOrderRow : OpenClaim := { program := "ytndahdppikcidaa", sum := "3d1524dd1c2bc60246cf4adfc61f19c3d3adea2f9e68bfacda8313d64eb2d98b", func := "loop.example/g03009/laws.FnExactSeedOrder", spec := "fnExactSeedOrder", unfollowed := true, recurses := true, apart := false }
def FnExactSeedOrderSaid : Prop := fnExactSeedOrderRow.holds Try.pinned (OpenSpec.ofChange fnExactSeedOrderSpec)

/-- ITS FALSE NEIGHBOUR: 'it returns false'. Refute it at one input. -/
def fnExactSeedOrderWrong : ChangeSpec := { name := "fnExactSeedOrder", fn := fun _ => fun
  | [d] => { results := [.lit (.bool false)], args := [d] }
  | _ => none }
def FnExactSeedOrderWrongFalsely : Prop := fnExactSeedOrderRow.holds Try.pinned (OpenSpec.ofChange fnExactSeedOrderWrong)

/-- 'laws.FnExactFirstRound': WHATEVER THE INPUT: true; the input reads as it did. -/
def fnExactFirstRoundSpec : ChangeSpec := { name := "fnExactFirstRound", fn := fun _ => fun
  | [d] => { results := [.lit (.bool true)], args := [d] }
  | _ => none }
def fnExactFirstRoundRow : OpenClaim := { program := "ytndahdppikcidaa", sum := "3d1524dd1c2bc60246cf4adfc61f19c3d3adea2f9e68bfacda8313d64eb2d98b", func := "loop.example/g03009/laws.FnExactFirstRound", spec := "fnExactFirstRound", unfollowed := true, recurses := true, apart := false }
def FnExactFirstRoundSaid : Prop := fnExactFirstRoundRow.holds Try.pinned (OpenSpec.ofChange fnExactFirstRoundSpec)

/-- ITS FALSE NEIGHBOUR: 'it returns false'. Refute it at one input. -/
def fnExactFirstRoundWrong : ChangeSpec := { name := "fnExactFirstRound", fn := fun _ => fun
  | [d] => { results := [.lit (.bool false)], args := [d] }
  | _ => none }
def FnExactFirstRoundWrongFalsely : Prop := fnExactFirstRoundRow.holds Try.pinned (OpenSpec.ofChange fnExactFirstRoundWrong)

/-- 'laws.FnExactNextRound': WHATEVER THE INPUT: true; the input reads as it did. -/
def fnExactNextRoundSpec : ChangeSpec := { name := "fnExactNextRound", fn := fun _ => fun
  | [d1, d2] => { results := [.lit (.bool true)], args := [d1, d2] }
  | _ => none }
def fnExactNextRoundRow : OpenClaim := { program := "ytndahdppikcidaa", sum := "3d1524dd1c2bc60246cf4adfc61f19c3d3adea2f9e68bfacda8313d64eb2d98b", func := "loop.example/g03009/laws.FnExactNextRound", spec := "fnExactNextRound", unfollowed := true, recurses := true, apart := false }
def FnExactNextRoundSaid : Prop := fnExactNextRoundRow.holds Try.pinned (OpenSpec.ofChange fnExactNextRoundSpec)

/-- ITS FALSE NEIGHBOUR: 'it returns false'. Refute it at one input. -/
def fnExactNextRoundWrong : ChangeSpec := { name := "fnExactNextRound", fn := fun _ => fun
  | [d1, d2] => { results := [.lit (.bool false)], args := [d1, d2] }
  | _ => none }
def FnExactNextRoundWrongFalsely : Prop := fnExactNextRoundRow.holds Try.pinned (OpenSpec.ofChange fnExactNextRoundWrong)

/-- 'laws.FnExactRoundsOf': WHATEVER THE INPUT: true; the input reads as it did. -/
def fnExactRoundsOfSpec : ChangeSpec := { name := "fnExactRoundsOf", fn := fun _ => fun
  | [d] => { results := [.lit (.bool true)], args := [d] }
  | _ => none }
def fnExactRoundsOfRow : OpenClaim := { program := "ytndahdppikcidaa", sum := "3d1524dd1c2bc60246cf4adfc61f19c3d3adea2f9e68bfacda8313d64eb2d98b", func := "loop.example/g03009/laws.FnExactRoundsOf", spec := "fnExactRoundsOf", unfollowed := true, recurses := true, apart := false }
def FnExactRoundsOfSaid : Prop := fnExactRoundsOfRow.holds Try.pinned (OpenSpec.ofChange fnExactRoundsOfSpec)

/-- ITS FALSE NEIGHBOUR: 'it returns false'. Refute it at one input. -/
def fnExactRoundsOfWrong : ChangeSpec := { name := "fnExactRoundsOf", fn := fun _ => fun
  | [d] => { results := [.lit (.bool false)], args := [d] }
  | _ => none }
def FnExactRoundsOfWrongFalsely : Prop := fnExactRoundsOfRow.holds Try.pinned (OpenSpec.ofChange fnExactRoundsOfWrong)

/-- 'laws.FnExactMeetIn': WHATEVER THE INPUT: true; the input reads as it did. -/
def fnExactMeetInSpec : ChangeSpec := { name := "fnExactMeetIn", fn := fun _ => fun
  | [d1, d2, d3] => { results := [.lit (.bool true)], args := [d1, d2, d3] }
  | _ => none }
def fnExactMeetInRow : OpenClaim := { program := "ytndahdppikcidaa", sum := "3d1524dd1c2bc60246cf4adfc61f19c3d3adea2f9e68bfacda8313d64eb2d98b", func := "loop.example/g03009/laws.FnExactMeetIn", spec := "fnExactMeetIn", unfollowed := true, recurses := true, apart := false }
def FnExactMeetInSaid : Prop := fnExactMeetInRow.holds Try.pinned (OpenSpec.ofChange fnExactMeetInSpec)

/-- ITS FALSE NEIGHBOUR: 'it returns false'. Refute it at one input. -/
def fnExactMeetInWrong : ChangeSpec := { name := "fnExactMeetIn", fn := fun _ => fun
  | [d1, d2, d3] => { results := [.lit (.bool false)], args := [d1, d2, d3] }
  | _ => none }
def FnExactMeetInWrongFalsely : Prop := fnExactMeetInRow.holds Try.pinned (OpenSpec.ofChange fnExactMeetInWrong)

/-- 'laws.FnExactAreOffers': WHATEVER THE INPUT: true; the input reads as it did. -/
def fnExactAreOffersSpec : ChangeSpec := { name := "fnExactAreOffers", fn := fun _ => fun
  | [d1, d2] => { results := [.lit (.bool true)], args := [d1, d2] }
  | _ => none }
def fnExactAreOffersRow : OpenClaim := { program := "ytndahdppikcidaa", sum := "3d1524dd1c2bc60246cf4adfc61f19c3d3adea2f9e68bfacda8313d64eb2d98b", func := "loop.example/g03009/laws.FnExactAreOffers", spec := "fnExactAreOffers", unfollowed := true, recurses := true, apart := false }
def FnExactAreOffersSaid : Prop := fnExactAreOffersRow.holds Try.pinned (OpenSpec.ofChange fnExactAreOffersSpec)

/-- ITS FALSE NEIGHBOUR: 'it returns false'. Refute it at one input. -/
def fnExactAreOffersWrong : ChangeSpec := { name := "fnExactAreOffers", fn := fun _ => fun
  | [d1, d2] => { results := [.lit (.bool false)], args := [d1, d2] }
  | _ => none }
def FnExactAreOffersWrongFalsely : Prop := fnExactAreOffersRow.holds Try.pinned (OpenSpec.ofChange fnExactAreOffersWrong)

/-- 'laws.FnExactMayOffer': WHATEVER THE INPUT: true; the input reads as it did. -/
def fnExactMayOfferSpec : ChangeSpec := { name := "fnExactMayOffer", fn := fun _ => fun
  | [d1, d2] => { results := [.lit (.bool true)], args := [d1, d2] }
  | _ => none }
def fnExactMayOfferRow : OpenClaim := { program := "ytndahdppikcidaa", sum := "3d1524dd1c2bc60246cf4adfc61f19c3d3adea2f9e68bfacda8313d64eb2d98b", func := "loop.example/g03009/laws.FnExactMayOffer", spec := "fnExactMayOffer", apart := false }
def FnExactMayOfferSaid : Prop := fnExactMayOfferRow.holds Try.pinned (OpenSpec.ofChange fnExactMayOfferSpec)

/-- ITS FALSE NEIGHBOUR: 'it returns false'. Refute it at one input. -/
def fnExactMayOfferWrong : ChangeSpec := { name := "fnExactMayOffer", fn := fun _ => fun
  | [d1, d2] => { results := [.lit (.bool false)], args := [d1, d2] }
  | _ => none }
def FnExactMayOfferWrongFalsely : Prop := fnExactMayOfferRow.holds Try.pinned (OpenSpec.ofChange fnExactMayOfferWrong)

/-- 'laws.FnExactMakeOffer': WHATEVER THE INPUT: true; the input reads as it did. -/
def fnExactMakeOfferSpec : ChangeSpec := { name := "fnExactMakeOffer", fn := fun _ => fun
  | [d1, d2, d3] => { results := [.lit (.bool true)], args := [d1, d2, d3] }
  | _ => none }
def fnExactMakeOfferRow : OpenClaim := { program := "ytndahdppikcidaa", sum := "3d1524dd1c2bc60246cf4adfc61f19c3d3adea2f9e68bfacda8313d64eb2d98b", func := "loop.example/g03009/laws.FnExactMakeOffer", spec := "fnExactMakeOffer", unfollowed := true, recurses := true, apart := false }
def FnExactMakeOfferSaid : Prop := fnExactMakeOfferRow.holds Try.pinned (OpenSpec.ofChange fnExactMakeOfferSpec)

/-- ITS FALSE NEIGHBOUR: 'it returns false'. Refute it at one input. -/
def fnExactMakeOfferWrong : ChangeSpec := { name := "fnExactMakeOffer", fn := fun _ => fun
  | [d1, d2, d3] => { results := [.lit (.bool false)], args := [d1, d2, d3] }
  | _ => none }
def FnExactMakeOfferWrongFalsely : Prop := fnExactMakeOfferRow.holds Try.pinned (OpenSpec.ofChange fnExactMakeOfferWrong)

/-- 'laws.FnExactTakenFrom': WHATEVER THE INPUT: true; the input reads as it did. -/
def fnExactTakenFromSpec : ChangeSpec := { name := "fnExactTakenFrom", fn := fun _ => fun
  | [d1, d2] => { results := [.lit (.bool true)], args := [d1, d2] }
  | _ => none }
def fnExactTakenFromRow : OpenClaim := { program := "ytndahdppikcidaa", sum := "3d1524dd1c2bc60246cf4adfc61f19c3d3adea2f9e68bfacda8313d64eb2d98b", func := "loop.example/g03009/laws.FnExactTakenFrom", spec := "fnExactTakenFrom", unfollowed := true, recurses := true, apart := false }
def FnExactTakenFromSaid : Prop := fnExactTakenFromRow.holds Try.pinned (OpenSpec.ofChange fnExactTakenFromSpec)

/-- ITS FALSE NEIGHBOUR: 'it returns false'. Refute it at one input. -/
def fnExactTakenFromWrong : ChangeSpec := { name := "fnExactTakenFrom", fn := fun _ => fun
  | [d1, d2] => { results := [.lit (.bool false)], args := [d1, d2] }
  | _ => none }
def FnExactTakenFromWrongFalsely : Prop := fnExactTakenFromRow.holds Try.pinned (OpenSpec.ofChange fnExactTakenFromWrong)

/-- 'laws.FnExactRefusedOf': WHATEVER THE INPUT: true; the input reads as it did. -/
def fnExactRefusedOfSpec : ChangeSpec := { name := "fnExactRefusedOf", fn := fun _ => fun
  | [d] => { results := [.lit (.bool true)], args := [d] }
  | _ => none }
def fnExactRefusedOfRow : OpenClaim := { program := "ytndahdppikcidaa", sum := "3d1524dd1c2bc60246cf4adfc61f19c3d3adea2f9e68bfacda8313d64eb2d98b", func := "loop.example/g03009/laws.FnExactRefusedOf", spec := "fnExactRefusedOf", unfollowed := true, recurses := true, apart := false }
def FnExactRefusedOfSaid : Prop := fnExactRefusedOfRow.holds Try.pinned (OpenSpec.ofChange fnExactRefusedOfSpec)

/-- ITS FALSE NEIGHBOUR: 'it returns false'. Refute it at one input. -/
def fnExactRefusedOfWrong : ChangeSpec := { name := "fnExactRefusedOf", fn := fun _ => fun
  | [d] => { results := [.lit (.bool false)], args := [d] }
  | _ => none }
def FnExactRefusedOfWrongFalsely : Prop := fnExactRefusedOfRow.holds Try.pinned (OpenSpec.ofChange fnExactRefusedOfWrong)

/- THE SECOND FORM. 'bulk': how many values and letters a reading holds, each counted each time it is reached (what is shared counts as often as it is met; a slice's spare places count too). A statement '..UptoSaid' is the law's where the arguments, and the package variables that the reading takes, are together of bulk at most 1048576: NARROWER than '..Said'. Prove '..Said' where nothing that the law and all that it calls make is longer than what came in: it says more and counts as full. Else prove '..UptoSaid'. A law counts once. -/
mutual
def uptoBulk {H : Type} : DataW H → Nat
  | .lit (.string bytes) => bytes.length + 1
  | .lit _ => 1
  | .nil => 1
  | .ptr d => uptoBulk d + 1
  | .slice elems spare => uptoBulkAll elems + uptoBulkAll spare + 1
  | .agg parts => uptoBulkAll parts + 1
  | .iface _ d => uptoBulk d + 1
  | .map entries => uptoBulkEntries entries + 1
  | .held _ => 1
def uptoBulkAll {H : Type} : List (DataW H) → Nat
  | [] => 0
  | d :: r => uptoBulk d + uptoBulkAll r
def uptoBulkEntries {H : Type} : List (Lit × DataW H) → Nat
  | [] => 0
  | x :: r => uptoBulkEntry x + uptoBulkEntries r
def uptoBulkEntry {H : Type} : Lit × DataW H → Nat
  | (.string bytes, d) => bytes.length + uptoBulk d + 1
  | (_, d) => uptoBulk d + 1
 end
def uptoSmall : (H : Type) → List (DataW H) → Bool := fun _ ds => decide (uptoBulkAll ds ≤ 1048576)
def OpenSpec.upto (s : _root_.Go.ChangeSpec) : _root_.Go.OpenSpec := { _root_.Go.OpenSpec.ofChange s with cond := some uptoSmall }

/-- 'laws.FnBrackets', WHERE WHAT IT READS IS OF BULK AT MOST 1048576: true; the input reads as it did. -/
def fnBracketsUptoRow : OpenClaim := { program := "ytndahdppikcidaa", sum := "3d1524dd1c2bc60246cf4adfc61f19c3d3adea2f9e68bfacda8313d64eb2d98b", func := "loop.example/g03009/laws.FnBrackets", spec := "fnBrackets", unfollowed := true, recurses := true, apart := false, narrowed := true }
def FnBracketsUptoSaid : Prop := fnBracketsUptoRow.holds Try.pinned (OpenSpec.upto fnBracketsSpec)

/-- 'laws.FnMotions', WHERE WHAT IT READS IS OF BULK AT MOST 1048576: true; the input reads as it did. -/
def fnMotionsUptoRow : OpenClaim := { program := "ytndahdppikcidaa", sum := "3d1524dd1c2bc60246cf4adfc61f19c3d3adea2f9e68bfacda8313d64eb2d98b", func := "loop.example/g03009/laws.FnMotions", spec := "fnMotions", unfollowed := true, recurses := true, apart := false, narrowed := true }
def FnMotionsUptoSaid : Prop := fnMotionsUptoRow.holds Try.pinned (OpenSpec.upto fnMotionsSpec)

/-- 'laws.FnExactSeedOrder', WHERE WHAT IT READS IS OF BULK AT MOST 1048576: true; the input reads as it did. -/
def fnExactSeedOrderUptoRow : OpenClaim := { program := "ytndahdppikcidaa", sum := "3d1524dd1c2bc60246cf4adfc61f19c3d3adea2f9e68bfacda8313d64eb2d98b", func := "loop.example/g03009/laws.FnExactSeedOrder", spec := "fnExactSeedOrder", unfollowed := true, recurses := true, apart := false, narrowed := true }
def FnExactSeedOrderUptoSaid : Prop := fnExactSeedOrderUptoRow.holds Try.pinned (OpenSpec.upto fnExactSeedOrderSpec)

/-- 'laws.FnExactFirstRound', WHERE WHAT IT READS IS OF BULK AT MOST 1048576: true; the input reads as it did. -/
def fnExactFirstRoundUptoRow : OpenClaim := { program := "ytndahdppikcidaa", sum := "3d1524dd1c2bc60246cf4adfc61f19c3d3adea2f9e68bfacda8313d64eb2d98b", func := "loop.example/g03009/laws.FnExactFirstRound", spec := "fnExactFirstRound", unfollowed := true, recurses := true, apart := false, narrowed := true }
def FnExactFirstRoundUptoSaid : Prop := fnExactFirstRoundUptoRow.holds Try.pinned (OpenSpec.upto fnExactFirstRoundSpec)

/-- 'laws.FnExactNextRound', WHERE WHAT IT READS IS OF BULK AT MOST 1048576: true; the input reads as it did. -/
def fnExactNextRoundUptoRow : OpenClaim := { program := "ytndahdppikcidaa", sum := "3d1524dd1c2bc60246cf4adfc61f19c3d3adea2f9e68bfacda8313d64eb2d98b", func := "loop.example/g03009/laws.FnExactNextRound", spec := "fnExactNextRound", unfollowed := true, recurses := true, apart := false, narrowed := true }
def FnExactNextRoundUptoSaid : Prop := fnExactNextRoundUptoRow.holds Try.pinned (OpenSpec.upto fnExactNextRoundSpec)

/-- 'laws.FnExactRoundsOf', WHERE WHAT IT READS IS OF BULK AT MOST 1048576: true; the input reads as it did. -/
def fnExactRoundsOfUptoRow : OpenClaim := { program := "ytndahdppikcidaa", sum := "3d1524dd1c2bc60246cf4adfc61f19c3d3adea2f9e68bfacda8313d64eb2d98b", func := "loop.example/g03009/laws.FnExactRoundsOf", spec := "fnExactRoundsOf", unfollowed := true, recurses := true, apart := false, narrowed := true }
def FnExactRoundsOfUptoSaid : Prop := fnExactRoundsOfUptoRow.holds Try.pinned (OpenSpec.upto fnExactRoundsOfSpec)

/-- 'laws.FnExactMeetIn', WHERE WHAT IT READS IS OF BULK AT MOST 1048576: true; the input reads as it did. -/
def fnExactMeetInUptoRow : OpenClaim := { program := "ytndahdppikcidaa", sum := "3d1524dd1c2bc60246cf4adfc61f19c3d3adea2f9e68bfacda8313d64eb2d98b", func := "loop.example/g03009/laws.FnExactMeetIn", spec := "fnExactMeetIn", unfollowed := true, recurses := true, apart := false, narrowed := true }
def FnExactMeetInUptoSaid : Prop := fnExactMeetInUptoRow.holds Try.pinned (OpenSpec.upto fnExactMeetInSpec)

/-- 'laws.FnExactAreOffers', WHERE WHAT IT READS IS OF BULK AT MOST 1048576: true; the input reads as it did. -/
def fnExactAreOffersUptoRow : OpenClaim := { program := "ytndahdppikcidaa", sum := "3d1524dd1c2bc60246cf4adfc61f19c3d3adea2f9e68bfacda8313d64eb2d98b", func := "loop.example/g03009/laws.FnExactAreOffers", spec := "fnExactAreOffers", unfollowed := true, recurses := true, apart := false, narrowed := true }
def FnExactAreOffersUptoSaid : Prop := fnExactAreOffersUptoRow.holds Try.pinned (OpenSpec.upto fnExactAreOffersSpec)

/-- 'laws.FnExactMayOffer', WHERE WHAT IT READS IS OF BULK AT MOST 1048576: true; the input reads as it did. -/
def fnExactMayOfferUptoRow : OpenClaim := { program := "ytndahdppikcidaa", sum := "3d1524dd1c2bc60246cf4adfc61f19c3d3adea2f9e68bfacda8313d64eb2d98b", func := "loop.example/g03009/laws.FnExactMayOffer", spec := "fnExactMayOffer", apart := false, narrowed := true }
def FnExactMayOfferUptoSaid : Prop := fnExactMayOfferUptoRow.holds Try.pinned (OpenSpec.upto fnExactMayOfferSpec)

/-- 'laws.FnExactMakeOffer', WHERE WHAT IT READS IS OF BULK AT MOST 1048576: true; the input reads as it did. -/
def fnExactMakeOfferUptoRow : OpenClaim := { program := "ytndahdppikcidaa", sum := "3d1524dd1c2bc60246cf4adfc61f19c3d3adea2f9e68bfacda8313d64eb2d98b", func := "loop.example/g03009/laws.FnExactMakeOffer", spec := "fnExactMakeOffer", unfollowed := true, recurses := true, apart := false, narrowed := true }
def FnExactMakeOfferUptoSaid : Prop := fnExactMakeOfferUptoRow.holds Try.pinned (OpenSpec.upto fnExactMakeOfferSpec)

/-- 'laws.FnExactTakenFrom', WHERE WHAT IT READS IS OF BULK AT MOST 1048576: true; the input reads as it did. -/
def fnExactTakenFromUptoRow : OpenClaim := { program := "ytndahdppikcidaa", sum := "3d1524dd1c2bc60246cf4adfc61f19c3d3adea2f9e68bfacda8313d64eb2d98b", func := "loop.example/g03009/laws.FnExactTakenFrom", spec := "fnExactTakenFrom", unfollowed := true, recurses := true, apart := false, narrowed := true }
def FnExactTakenFromUptoSaid : Prop := fnExactTakenFromUptoRow.holds Try.pinned (OpenSpec.upto fnExactTakenFromSpec)

/-- 'laws.FnExactRefusedOf', WHERE WHAT IT READS IS OF BULK AT MOST 1048576: true; the input reads as it did. -/
def fnExactRefusedOfUptoRow : OpenClaim := { program := "ytndahdppikcidaa", sum := "3d1524dd1c2bc60246cf4adfc61f19c3d3adea2f9e68bfacda8313d64eb2d98b", func := "loop.example/g03009/laws.FnExactRefusedOf", spec := "fnExactRefusedOf", unfollowed := true, recurses := true, apart := false, narrowed := true }
def FnExactRefusedOfUptoSaid : Prop := fnExactRefusedOfUptoRow.holds Try.pinned (OpenSpec.upto fnExactRefusedOfSpec)

end Rows
end Go.Proofs.Ytndahdppikcidaa
