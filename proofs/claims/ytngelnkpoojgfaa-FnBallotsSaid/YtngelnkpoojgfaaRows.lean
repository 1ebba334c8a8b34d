/-
  No cell of these rows narrows 'for every input' (looked for: loops, veiled, ifaces, maps, wideKeys, modest, calm, conditions, laid).
  DERIVED. THE GIVEN ROWS OF THIS SEAT. 12 by the template 'for every input the law returns true; each argument reads behind the call as it read before'; 0 by the template 'total and deterministic' (their statements: YtngelnkpoojgfaaTotals.lean).
  GIVEN WITH THE SEED: the statements are not yours to turn. If you find one false, say at which input.
  Laid BY PROGRAM, IN A SANDBOX (cutbox-rows.mjs): the forced cells as the released guide's own fill.sh prints them over the translation b28dc8b9822b870b… (all of the seat's roots in one cut). By AI agents, Wed Nov 11 2026. No macro, syntax, notation, axiom, sorry.
-/
import Derived.Test.YtngelnkpoojgfaaChecked
import GoSem.Claim
import GoSem.ClaimJoined
import GoSem.ClaimMapViews
import Derived.JoinedTies
import Derived.KernelRfl
namespace Go.Proofs.Ytngelnkpoojgfaa
/- THE CELL 'sum', in the pinned program and in every row, IS THE sha256 OF THE DUMP (.gsa) THAT YtngelnkpoojgfaaProg.lean LOADS. Nothing in Lean hashes anything: it is a label: what it is worth is what the hold of that sum in a sandbox is worth. -/
noncomputable def Try.pinned : Pinned := { name := "ytngelnkpoojgfaa", sum := "b28dc8b9822b870bc086881be5327343fbc4d803a1b492eddcdb68c4c494a654", checked := Try.checked }
namespace Rows
def none {H : Type} : Left H := { results := [], args := [] }

/-- 'laws.FnExactArePoints': WHATEVER THE INPUT: true; the input reads as it did. -/
def fnExactArePointsSpec : ChangeSpec := { name := "fnExactArePoints", fn := fun _ => fun
  | [d] => { results := [.lit (.bool true)], args := [d] }
  | _ => none }
def fnExactArePointsRow : OpenClaim := { program := "ytngelnkpoojgfaa", sum := "b28dc8b9822b870bc086881be5327343fbc4d803a1b492eddcdb68c4c494a654", func := "loop.example/g03009/laws.FnExactArePoints", spec := "fnExactArePoints", apart := false }
def FnExactArePointsSaid : Prop := fnExactArePointsRow.holds Try.pinned (OpenSpec.ofChange fnExactArePointsSpec)

/-- ITS FALSE NEIGHBOUR: 'it returns false'. Refute it at one input. -/
def fnExactArePointsWrong : ChangeSpec := { name := "fnExactArePoints", fn := fun _ => fun
  | [d] => { results := [.lit (.bool false)], args := [d] }
  | _ => none }
def FnExactArePointsWrongFalsely : Prop := fnExactArePointsRow.holds Try.pinned (OpenSpec.ofChange fnExactArePointsWrong)

/-- 'laws.FnExactRaise': WHATEVER THE INPUT: true; the input reads as it did. -/
def fnExactRaiseSpec : ChangeSpec := { name := "fnExactRaise", fn := fun _ => fun
  | [d1, d2, d3] => { results := [.lit (.bool true)], args := [d1, d2, d3] }
  | _ => none }
def fnExactRaiseRow : OpenClaim := { program := "ytngelnkpoojgfaa", sum := "b28dc8b9822b870bc086881be5327343fbc4d803a1b492eddcdb68c4c494a654", func := "loop.example/g03009/laws.FnExactRaise", spec := "fnExactRaise", inPlace := ["slices.overlaps[loop.example/g03009/impl.Point]"], unfollowed := true, recurses := true, apart := false }
def FnExactRaiseSaid : Prop := fnExactRaiseRow.holds Try.pinned (OpenSpec.ofChange fnExactRaiseSpec)

/-- ITS FALSE NEIGHBOUR: 'it returns false'. Refute it at one input. -/
def fnExactRaiseWrong : ChangeSpec := { name := "fnExactRaise", fn := fun _ => fun
  | [d1, d2, d3] => { results := [.lit (.bool false)], args := [d1, d2, d3] }
  | _ => none }
def FnExactRaiseWrongFalsely : Prop := fnExactRaiseRow.holds Try.pinned (OpenSpec.ofChange fnExactRaiseWrong)

/-- 'laws.FnExactReply': WHATEVER THE INPUT: true; the input reads as it did. -/
def fnExactReplySpec : ChangeSpec := { name := "fnExactReply", fn := fun _ => fun
  | [d1, d2, d3, d4] => { results := [.lit (.bool true)], args := [d1, d2, d3, d4] }
  | _ => none }
def fnExactReplyRow : OpenClaim := { program := "ytngelnkpoojgfaa", sum := "b28dc8b9822b870bc086881be5327343fbc4d803a1b492eddcdb68c4c494a654", func := "loop.example/g03009/laws.FnExactReply", spec := "fnExactReply", unfollowed := true, recurses := true, apart := false }
def FnExactReplySaid : Prop := fnExactReplyRow.holds Try.pinned (OpenSpec.ofChange fnExactReplySpec)

/-- ITS FALSE NEIGHBOUR: 'it returns false'. Refute it at one input. -/
def fnExactReplyWrong : ChangeSpec := { name := "fnExactReply", fn := fun _ => fun
  | [d1, d2, d3, d4] => { results := [.lit (.bool false)], args := [d1, d2, d3, d4] }
  | _ => none }
def FnExactReplyWrongFalsely : Prop := fnExactReplyRow.holds Try.pinned (OpenSpec.ofChange fnExactReplyWrong)

/-- 'laws.FnExactMustSpeak': WHATEVER THE INPUT: true; the input reads as it did. -/
def fnExactMustSpeakSpec : ChangeSpec := { name := "fnExactMustSpeak", fn := fun _ => fun
  | [d1, d2] => { results := [.lit (.bool true)], args := [d1, d2] }
  | _ => none }
def fnExactMustSpeakRow : OpenClaim := { program := "ytngelnkpoojgfaa", sum := "b28dc8b9822b870bc086881be5327343fbc4d803a1b492eddcdb68c4c494a654", func := "loop.example/g03009/laws.FnExactMustSpeak", spec := "fnExactMustSpeak", unfollowed := true, recurses := true, apart := false }
def FnExactMustSpeakSaid : Prop := fnExactMustSpeakRow.holds Try.pinned (OpenSpec.ofChange fnExactMustSpeakSpec)

/-- ITS FALSE NEIGHBOUR: 'it returns false'. Refute it at one input. -/
def fnExactMustSpeakWrong : ChangeSpec := { name := "fnExactMustSpeak", fn := fun _ => fun
  | [d1, d2] => { results := [.lit (.bool false)], args := [d1, d2] }
  | _ => none }
def FnExactMustSpeakWrongFalsely : Prop := fnExactMustSpeakRow.holds Try.pinned (OpenSpec.ofChange fnExactMustSpeakWrong)

/-- 'laws.FnExactWon': WHATEVER THE INPUT: true; the input reads as it did. -/
def fnExactWonSpec : ChangeSpec := { name := "fnExactWon", fn := fun _ => fun
  | [d1, d2] => { results := [.lit (.bool true)], args := [d1, d2] }
  | _ => none }
def fnExactWonRow : OpenClaim := { program := "ytngelnkpoojgfaa", sum := "b28dc8b9822b870bc086881be5327343fbc4d803a1b492eddcdb68c4c494a654", func := "loop.example/g03009/laws.FnExactWon", spec := "fnExactWon", apart := false }
def FnExactWonSaid : Prop := fnExactWonRow.holds Try.pinned (OpenSpec.ofChange fnExactWonSpec)

/-- ITS FALSE NEIGHBOUR: 'it returns false'. Refute it at one input. -/
def fnExactWonWrong : ChangeSpec := { name := "fnExactWon", fn := fun _ => fun
  | [d1, d2] => { results := [.lit (.bool false)], args := [d1, d2] }
  | _ => none }
def FnExactWonWrongFalsely : Prop := fnExactWonRow.holds Try.pinned (OpenSpec.ofChange fnExactWonWrong)

/-- 'laws.FnExactIsSettled': WHATEVER THE INPUT: true; the input reads as it did. -/
def fnExactIsSettledSpec : ChangeSpec := { name := "fnExactIsSettled", fn := fun _ => fun
  | [d] => { results := [.lit (.bool true)], args := [d] }
  | _ => none }
def fnExactIsSettledRow : OpenClaim := { program := "ytngelnkpoojgfaa", sum := "b28dc8b9822b870bc086881be5327343fbc4d803a1b492eddcdb68c4c494a654", func := "loop.example/g03009/laws.FnExactIsSettled", spec := "fnExactIsSettled", unfollowed := true, recurses := true, apart := false }
def FnExactIsSettledSaid : Prop := fnExactIsSettledRow.holds Try.pinned (OpenSpec.ofChange fnExactIsSettledSpec)

/-- ITS FALSE NEIGHBOUR: 'it returns false'. Refute it at one input. -/
def fnExactIsSettledWrong : ChangeSpec := { name := "fnExactIsSettled", fn := fun _ => fun
  | [d] => { results := [.lit (.bool false)], args := [d] }
  | _ => none }
def FnExactIsSettledWrongFalsely : Prop := fnExactIsSettledRow.holds Try.pinned (OpenSpec.ofChange fnExactIsSettledWrong)

/-- 'laws.FnExactTurnOrder': WHATEVER THE INPUT: true; the input reads as it did. -/
def fnExactTurnOrderSpec : ChangeSpec := { name := "fnExactTurnOrder", fn := fun _ => fun
  | [d1, d2] => { results := [.lit (.bool true)], args := [d1, d2] }
  | _ => none }
def fnExactTurnOrderRow : OpenClaim := { program := "ytngelnkpoojgfaa", sum := "b28dc8b9822b870bc086881be5327343fbc4d803a1b492eddcdb68c4c494a654", func := "loop.example/g03009/laws.FnExactTurnOrder", spec := "fnExactTurnOrder", apart := false }
def FnExactTurnOrderSaid : Prop := fnExactTurnOrderRow.holds Try.pinned (OpenSpec.ofChange fnExactTurnOrderSpec)

/-- ITS FALSE NEIGHBOUR: 'it returns false'. Refute it at one input. -/
def fnExactTurnOrderWrong : ChangeSpec := { name := "fnExactTurnOrder", fn := fun _ => fun
  | [d1, d2] => { results := [.lit (.bool false)], args := [d1, d2] }
  | _ => none }
def FnExactTurnOrderWrongFalsely : Prop := fnExactTurnOrderRow.holds Try.pinned (OpenSpec.ofChange fnExactTurnOrderWrong)

/-- 'laws.FnExactIsFairOrder': WHATEVER THE INPUT: true; the input reads as it did. -/
def fnExactIsFairOrderSpec : ChangeSpec := { name := "fnExactIsFairOrder", fn := fun _ => fun
  | [d1, d2] => { results := [.lit (.bool true)], args := [d1, d2] }
  | _ => none }
def fnExactIsFairOrderRow : OpenClaim := { program := "ytngelnkpoojgfaa", sum := "b28dc8b9822b870bc086881be5327343fbc4d803a1b492eddcdb68c4c494a654", func := "loop.example/g03009/laws.FnExactIsFairOrder", spec := "fnExactIsFairOrder", apart := false }
def FnExactIsFairOrderSaid : Prop := fnExactIsFairOrderRow.holds Try.pinned (OpenSpec.ofChange fnExactIsFairOrderSpec)

/-- ITS FALSE NEIGHBOUR: 'it returns false'. Refute it at one input. -/
def fnExactIsFairOrderWrong : ChangeSpec := { name := "fnExactIsFairOrder", fn := fun _ => fun
  | [d1, d2] => { results := [.lit (.bool false)], args := [d1, d2] }
  | _ => none }
def FnExactIsFairOrderWrongFalsely : Prop := fnExactIsFairOrderRow.holds Try.pinned (OpenSpec.ofChange fnExactIsFairOrderWrong)

/-- 'laws.FnExactNextAfter': WHATEVER THE INPUT: true; the input reads as it did. -/
def fnExactNextAfterSpec : ChangeSpec := { name := "fnExactNextAfter", fn := fun _ => fun
  | [d1, d2] => { results := [.lit (.bool true)], args := [d1, d2] }
  | _ => none }
def fnExactNextAfterRow : OpenClaim := { program := "ytngelnkpoojgfaa", sum := "b28dc8b9822b870bc086881be5327343fbc4d803a1b492eddcdb68c4c494a654", func := "loop.example/g03009/laws.FnExactNextAfter", spec := "fnExactNextAfter", apart := false }
def FnExactNextAfterSaid : Prop := fnExactNextAfterRow.holds Try.pinned (OpenSpec.ofChange fnExactNextAfterSpec)

/-- ITS FALSE NEIGHBOUR: 'it returns false'. Refute it at one input. -/
def fnExactNextAfterWrong : ChangeSpec := { name := "fnExactNextAfter", fn := fun _ => fun
  | [d1, d2] => { results := [.lit (.bool false)], args := [d1, d2] }
  | _ => none }
def FnExactNextAfterWrongFalsely : Prop := fnExactNextAfterRow.holds Try.pinned (OpenSpec.ofChange fnExactNextAfterWrong)

/-- 'laws.FnExactRightOfReply': WHATEVER THE INPUT: true; the input reads as it did. -/
def fnExactRightOfReplySpec : ChangeSpec := { name := "fnExactRightOfReply", fn := fun _ => fun
  | [d1, d2] => { results := [.lit (.bool true)], args := [d1, d2] }
  | _ => none }
def fnExactRightOfReplyRow : OpenClaim := { program := "ytngelnkpoojgfaa", sum := "b28dc8b9822b870bc086881be5327343fbc4d803a1b492eddcdb68c4c494a654", func := "loop.example/g03009/laws.FnExactRightOfReply", spec := "fnExactRightOfReply", unfollowed := true, recurses := true, apart := false }
def FnExactRightOfReplySaid : Prop := fnExactRightOfReplyRow.holds Try.pinned (OpenSpec.ofChange fnExactRightOfReplySpec)

/-- ITS FALSE NEIGHBOUR: 'it returns false'. Refute it at one input. -/
def fnExactRightOfReplyWrong : ChangeSpec := { name := "fnExactRightOfReply", fn := fun _ => fun
  | [d1, d2] => { results := [.lit (.bool false)], args := [d1, d2] }
  | _ => none }
def FnExactRightOfReplyWrongFalsely : Prop := fnExactRightOfReplyRow.holds Try.pinned (OpenSpec.ofChange fnExactRightOfReplyWrong)

/-- 'laws.FnExactCountOf': WHATEVER THE INPUT: true; the input reads as it did. -/
def fnExactCountOfSpec : ChangeSpec := { name := "fnExactCountOf", fn := fun _ => fun
  | [d1, d2] => { results := [.lit (.bool true)], args := [d1, d2] }
  | _ => none }
def fnExactCountOfRow : OpenClaim := { program := "ytngelnkpoojgfaa", sum := "b28dc8b9822b870bc086881be5327343fbc4d803a1b492eddcdb68c4c494a654", func := "loop.example/g03009/laws.FnExactCountOf", spec := "fnExactCountOf", apart := false }
def FnExactCountOfSaid : Prop := fnExactCountOfRow.holds Try.pinned (OpenSpec.ofChange fnExactCountOfSpec)

/-- ITS FALSE NEIGHBOUR: 'it returns false'. Refute it at one input. -/
def fnExactCountOfWrong : ChangeSpec := { name := "fnExactCountOf", fn := fun _ => fun
  | [d1, d2] => { results := [.lit (.bool false)], args := [d1, d2] }
  | _ => none }
def FnExactCountOfWrongFalsely : Prop := fnExactCountOfRow.holds Try.pinned (OpenSpec.ofChange fnExactCountOfWrong)

/-- 'laws.FnBallots': WHATEVER THE INPUT: true; the input reads as it did. -/
def fnBallotsSpec : ChangeSpec := { name := "fnBallots", fn := fun _ => fun
  | [d] => { results := [.lit (.bool true)], args := [d] }
  | _ => none }
def fnBallotsRow : OpenClaim := { program := "ytngelnkpoojgfaa", sum := "b28dc8b9822b870bc086881be5327343fbc4d803a1b492eddcdb68c4c494a654", func := "loop.example/g03009/laws.FnBallots", spec := "fnBallots", apart := false }
def FnBallotsSaid : Prop := fnBallotsRow.holds Try.pinned (OpenSpec.ofChange fnBallotsSpec)

/-- ITS FALSE NEIGHBOUR: 'it returns false'. Refute it at one input. -/
def fnBallotsWrong : ChangeSpec := { name := "fnBallots", fn := fun _ => fun
  | [d] => { results := [.lit (.bool false)], args := [d] }
  | _ => none }
def FnBallotsWrongFalsely : Prop := fnBallotsRow.holds Try.pinned (OpenSpec.ofChange fnBallotsWrong)

/- THE SECOND FORM. 'bulk': how many values and letters a reading holds, each counted each time it is reached (what is shared counts as often as it is met; a slice's spare places count too). A statement '..UptoSaid' is the law's where the arguments, and the package variables that the reading takes, are together of bulk at most 1048576: NARROWER than '..Said'. Prove '..Said' where nothing that the law and all that it calls make is longer than what came in: it says more and counts as full. Else prove '..UptoSaid'. A law counts once. -/
mutual
def uptoBulk {H : Type} : DataW H → Nat
  | .lit (.string bytes) => bytes.length + 1
  | .lit _ => 1
  | .nil => 1
  | .ptr d => uptoBulk d + 1
  | .slice elems spare => uptoBulkAll elems + uptoBulkAll spare + 1
  | .agg parts => uptoBulkAll parts + 1
  | .iface _ d => uptoBulk d + 1
  | .map entries => uptoBulkEntries entries + 1
  | .held _ => 1
def uptoBulkAll {H : Type} : List (DataW H) → Nat
  | [] => 0
  | d :: r => uptoBulk d + uptoBulkAll r
def uptoBulkEntries {H : Type} : List (Lit × DataW H) → Nat
  | [] => 0
  | x :: r => uptoBulkEntry x + uptoBulkEntries r
def uptoBulkEntry {H : Type} : Lit × DataW H → Nat
  | (.string bytes, d) => bytes.length + uptoBulk d + 1
  | (_, d) => uptoBulk d + 1
 end
def uptoSmall : (H : Type) → List (DataW H) → Bool := fun _ ds => decide (uptoBulkAll ds ≤ 1048576)
def OpenSpec.upto (s : _root_.Go.ChangeSpec) : _root_.Go.OpenSpec := { _root_.Go.OpenSpec.ofChange s with cond := some uptoSmall }

/-- 'laws.FnExactArePoints', WHERE WHAT IT READS IS OF BULK AT MOST 1048576: true; the input reads as it did. -/
def fnExactArePointsUptoRow : OpenClaim := { program := "ytngelnkpoojgfaa", sum := "b28dc8b9822b870bc086881be5327343fbc4d803a1b492eddcdb68c4c494a654", func := "loop.example/g03009/laws.FnExactArePoints", spec := "fnExactArePoints", apart := false, narrowed := true }
def FnExactArePointsUptoSaid : Prop := fnExactArePointsUptoRow.holds Try.pinned (OpenSpec.upto fnExactArePointsSpec)

/-- 'laws.FnExactRaise', WHERE WHAT IT READS IS OF BULK AT MOST 1048576: true; the input reads as it did. -/
def fnExactRaiseUptoRow : OpenClaim := { program := "ytngelnkpoojgfaa", sum := "b28dc8b9822b870bc086881be5327343fbc4d803a1b492eddcdb68c4c494a654", func := "loop.example/g03009/laws.FnExactRaise", spec := "fnExactRaise", inPlace := ["slices.overlaps[loop.example/g03009/impl.Point]"], unfollowed := true, recurses := true, apart := false, narrowed := true }
def FnExactRaiseUptoSaid : Prop := fnExactRaiseUptoRow.holds Try.pinned (OpenSpec.upto fnExactRaiseSpec)

/-- 'laws.FnExactReply', WHERE WHAT IT READS IS OF BULK AT MOST 1048576: true; the input reads as it did. -/
def fnExactReplyUptoRow : OpenClaim := { program := "ytngelnkpoojgfaa", sum := "b28dc8b9822b870bc086881be5327343fbc4d803a1b492eddcdb68c4c494a654", func := "loop.example/g03009/laws.FnExactReply", spec := "fnExactReply", unfollowed := true, recurses := true, apart := false, narrowed := true }
def FnExactReplyUptoSaid : Prop := fnExactReplyUptoRow.holds Try.pinned (OpenSpec.upto fnExactReplySpec)

/-- 'laws.FnExactMustSpeak', WHERE WHAT IT READS IS OF BULK AT MOST 1048576: true; the input reads as it did. -/
def fnExactMustSpeakUptoRow : OpenClaim := { program := "ytngelnkpoojgfaa", sum := "b28dc8b9822b870bc086881be5327343fbc4d803a1b492eddcdb68c4c494a654", func := "loop.example/g03009/laws.FnExactMustSpeak", spec := "fnExactMustSpeak", unfollowed := true, recurses := true, apart := false, narrowed := true }
def FnExactMustSpeakUptoSaid : Prop := fnExactMustSpeakUptoRow.holds Try.pinned (OpenSpec.upto fnExactMustSpeakSpec)

/-- 'laws.FnExactWon', WHERE WHAT IT READS IS OF BULK AT MOST 1048576: true; the input reads as it did. -/
def fnExactWonUptoRow : OpenClaim := { program := "ytngelnkpoojgfaa", sum := "b28dc8b9822b870bc086881be5327343fbc4d803a1b492eddcdb68c4c494a654", func := "loop.example/g03009/laws.FnExactWon", spec := "fnExactWon", apart := false, narrowed := true }
def FnExactWonUptoSaid : Prop := fnExactWonUptoRow.holds Try.pinned (OpenSpec.upto fnExactWonSpec)

/-- 'laws.FnExactIsSettled', WHERE WHAT IT READS IS OF BULK AT MOST 1048576: true; the input reads as it did. -/
def fnExactIsSettledUptoRow : OpenClaim := { program := "ytngelnkpoojgfaa", sum := "b28dc8b9822b870bc086881be5327343fbc4d803a1b492eddcdb68c4c494a654", func := "loop.example/g03009/laws.FnExactIsSettled", spec := "fnExactIsSettled", unfollowed := true, recurses := true, apart := false, narrowed := true }
def FnExactIsSettledUptoSaid : Prop := fnExactIsSettledUptoRow.holds Try.pinned (OpenSpec.upto fnExactIsSettledSpec)

/-- 'laws.FnExactTurnOrder', WHERE WHAT IT READS IS OF BULK AT MOST 1048576: true; the input reads as it did. -/
def fnExactTurnOrderUptoRow : OpenClaim := { program := "ytngelnkpoojgfaa", sum := "b28dc8b9822b870bc086881be5327343fbc4d803a1b492eddcdb68c4c494a654", func := "loop.example/g03009/laws.FnExactTurnOrder", spec := "fnExactTurnOrder", apart := false, narrowed := true }
def FnExactTurnOrderUptoSaid : Prop := fnExactTurnOrderUptoRow.holds Try.pinned (OpenSpec.upto fnExactTurnOrderSpec)

/-- 'laws.FnExactIsFairOrder', WHERE WHAT IT READS IS OF BULK AT MOST 1048576: true; the input reads as it did. -/
def fnExactIsFairOrderUptoRow : OpenClaim := { program := "ytngelnkpoojgfaa", sum := "b28dc8b9822b870bc086881be5327343fbc4d803a1b492eddcdb68c4c494a654", func := "loop.example/g03009/laws.FnExactIsFairOrder", spec := "fnExactIsFairOrder", apart := false, narrowed := true }
def FnExactIsFairOrderUptoSaid : Prop := fnExactIsFairOrderUptoRow.holds Try.pinned (OpenSpec.upto fnExactIsFairOrderSpec)

/-- 'laws.FnExactNextAfter', WHERE WHAT IT READS IS OF BULK AT MOST 1048576: true; the input reads as it did. -/
def fnExactNextAfterUptoRow : OpenClaim := { program := "ytngelnkpoojgfaa", sum := "b28dc8b9822b870bc086881be5327343fbc4d803a1b492eddcdb68c4c494a654", func := "loop.example/g03009/laws.FnExactNextAfter", spec := "fnExactNextAfter", apart := false, narrowed := true }
def FnExactNextAfterUptoSaid : Prop := fnExactNextAfterUptoRow.holds Try.pinned (OpenSpec.upto fnExactNextAfterSpec)

/-- 'laws.FnExactRightOfReply', WHERE WHAT IT READS IS OF BULK AT MOST 1048576: true; the input reads as it did. -/
def fnExactRightOfReplyUptoRow : OpenClaim := { program := "ytngelnkpoojgfaa", sum := "b28dc8b9822b870bc086881be5327343fbc4d803a1b492eddcdb68c4c494a654", func := "loop.example/g03009/laws.FnExactRightOfReply", spec := "fnExactRightOfReply", unfollowed := true, recurses := true, apart := false, narrowed := true }
def FnExactRightOfReplyUptoSaid : Prop := fnExactRightOfReplyUptoRow.holds Try.pinned (OpenSpec.upto fnExactRightOfReplySpec)

/-- 'laws.FnExactCountOf', WHERE WHAT IT READS IS OF BULK AT MOST 1048576: true; the input reads as it did. -/
def fnExactCountOfUptoRow : OpenClaim := { program := "ytngelnkpoojgfaa", sum := "b28dc8b9822b870bc086881be5327343fbc4d803a1b492eddcdb68c4c494a654", func := "loop.example/g03009/laws.FnExactCountOf", spec := "fnExactCountOf", apart := false, narrowed := true }
def FnExactCountOfUptoSaid : Prop := fnExactCountOfUptoRow.holds Try.pinned (OpenSpec.upto fnExactCountOfSpec)

/-- 'laws.FnBallots', WHERE WHAT IT READS IS OF BULK AT MOST 1048576: true; the input reads as it did. -/
def fnBallotsUptoRow : OpenClaim := { program := "ytngelnkpoojgfaa", sum := "b28dc8b9822b870bc086881be5327343fbc4d803a1b492eddcdb68c4c494a654", func := "loop.example/g03009/laws.FnBallots", spec := "fnBallots", apart := false, narrowed := true }
def FnBallotsUptoSaid : Prop := fnBallotsUptoRow.holds Try.pinned (OpenSpec.upto fnBallotsSpec)

end Rows
end Go.Proofs.Ytngelnkpoojgfaa
