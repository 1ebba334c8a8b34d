/-
  No cell of these rows narrows 'for every input' (looked for: loops, veiled, ifaces, maps, wideKeys, modest, calm, conditions, laid).
  DERIVED. THE GIVEN ROWS OF THIS SEAT. 12 by the template 'for every input the law returns true; each argument reads behind the call as it read before'; 0 by the template 'total and deterministic' (their statements: YteffhbboeacogaaTotals.lean).
  GIVEN WITH THE SEED: the statements are not yours to turn. If you find one false, say at which input.
  Laid BY PROGRAM, IN A SANDBOX (cutbox-rows.mjs): the forced cells as the released guide's own fill.sh prints them over the translation cc37b0824397fbaa… (all of the seat's roots in one cut). By AI agents, Wed Nov 11 2026. No macro, syntax, notation, axiom, sorry.
-/
import Derived.Test.YteffhbboeacogaaChecked
import GoSem.Claim
import GoSem.ClaimJoined
import GoSem.ClaimMapViews
import Derived.JoinedTies
import Derived.KernelRfl
namespace Go.Proofs.Yteffhbboeacogaa
/- THE CELL 'sum', in the pinned program and in every row, IS THE sha256 OF THE DUMP (.gsa) THAT YteffhbboeacogaaProg.lean LOADS. Nothing in Lean hashes anything: it is a label: what it is worth is what the hold of that sum in a sandbox is worth. -/
noncomputable def Try.pinned : Pinned := { name := "yteffhbboeacogaa", sum := "cc37b0824397fbaa4102834f28e5ca761f25cf0c25497efec94565f933b2dc0b", checked := Try.checked }
namespace Rows
def none {H : Type} : Left H := { results := [], args := [] }

/-- 'laws.FnAmendments': WHATEVER THE INPUT: true; the input reads as it did. -/
def fnAmendmentsSpec : ChangeSpec := { name := "fnAmendments", fn := fun _ => fun
  | [d] => { results := [.lit (.bool true)], args := [d] }
  | _ => none }
def fnAmendmentsRow : OpenClaim := { program := "yteffhbboeacogaa", sum := "cc37b0824397fbaa4102834f28e5ca761f25cf0c25497efec94565f933b2dc0b", func := "loop.example/g03009/laws.FnAmendments", spec := "fnAmendments", apart := false }
def FnAmendmentsSaid : Prop := fnAmendmentsRow.holds Try.pinned (OpenSpec.ofChange fnAmendmentsSpec)

/-- ITS FALSE NEIGHBOUR: 'it returns false'. Refute it at one input. -/
def fnAmendmentsWrong : ChangeSpec := { name := "fnAmendments", fn := fun _ => fun
  | [d] => { results := [.lit (.bool false)], args := [d] }
  | _ => none }
def FnAmendmentsWrongFalsely : Prop := fnAmendmentsRow.holds Try.pinned (OpenSpec.ofChange fnAmendmentsWrong)

/-- 'laws.FnExactStrike': WHATEVER THE INPUT: true; the input reads as it did. -/
def fnExactStrikeSpec : ChangeSpec := { name := "fnExactStrike", fn := fun _ => fun
  | [d1, d2] => { results := [.lit (.bool true)], args := [d1, d2] }
  | _ => none }
def fnExactStrikeRow : OpenClaim := { program := "yteffhbboeacogaa", sum := "cc37b0824397fbaa4102834f28e5ca761f25cf0c25497efec94565f933b2dc0b", func := "loop.example/g03009/laws.FnExactStrike", spec := "fnExactStrike", apart := false }
def FnExactStrikeSaid : Prop := fnExactStrikeRow.holds Try.pinned (OpenSpec.ofChange fnExactStrikeSpec)

/-- ITS FALSE NEIGHBOUR: 'it returns false'. Refute it at one input. -/
def fnExactStrikeWrong : ChangeSpec := { name := "fnExactStrike", fn := fun _ => fun
  | [d1, d2] => { results := [.lit (.bool false)], args := [d1, d2] }
  | _ => none }
def FnExactStrikeWrongFalsely : Prop := fnExactStrikeRow.holds Try.pinned (OpenSpec.ofChange fnExactStrikeWrong)

/-- 'laws.FnExactLeastWanted': WHATEVER THE INPUT: true; the input reads as it did. -/
def fnExactLeastWantedSpec : ChangeSpec := { name := "fnExactLeastWanted", fn := fun _ => fun
  | [d1, d2] => { results := [.lit (.bool true)], args := [d1, d2] }
  | _ => none }
def fnExactLeastWantedRow : OpenClaim := { program := "yteffhbboeacogaa", sum := "cc37b0824397fbaa4102834f28e5ca761f25cf0c25497efec94565f933b2dc0b", func := "loop.example/g03009/laws.FnExactLeastWanted", spec := "fnExactLeastWanted", unfollowed := true, recurses := true, apart := false }
def FnExactLeastWantedSaid : Prop := fnExactLeastWantedRow.holds Try.pinned (OpenSpec.ofChange fnExactLeastWantedSpec)

/-- ITS FALSE NEIGHBOUR: 'it returns false'. Refute it at one input. -/
def fnExactLeastWantedWrong : ChangeSpec := { name := "fnExactLeastWanted", fn := fun _ => fun
  | [d1, d2] => { results := [.lit (.bool false)], args := [d1, d2] }
  | _ => none }
def FnExactLeastWantedWrongFalsely : Prop := fnExactLeastWantedRow.holds Try.pinned (OpenSpec.ofChange fnExactLeastWantedWrong)

/-- 'laws.FnExactStrikeAll': WHATEVER THE INPUT: true; the input reads as it did. -/
def fnExactStrikeAllSpec : ChangeSpec := { name := "fnExactStrikeAll", fn := fun _ => fun
  | [d1, d2, d3] => { results := [.lit (.bool true)], args := [d1, d2, d3] }
  | _ => none }
def fnExactStrikeAllRow : OpenClaim := { program := "yteffhbboeacogaa", sum := "cc37b0824397fbaa4102834f28e5ca761f25cf0c25497efec94565f933b2dc0b", func := "loop.example/g03009/laws.FnExactStrikeAll", spec := "fnExactStrikeAll", unfollowed := true, recurses := true, apart := false }
def FnExactStrikeAllSaid : Prop := fnExactStrikeAllRow.holds Try.pinned (OpenSpec.ofChange fnExactStrikeAllSpec)

/-- ITS FALSE NEIGHBOUR: 'it returns false'. Refute it at one input. -/
def fnExactStrikeAllWrong : ChangeSpec := { name := "fnExactStrikeAll", fn := fun _ => fun
  | [d1, d2, d3] => { results := [.lit (.bool false)], args := [d1, d2, d3] }
  | _ => none }
def FnExactStrikeAllWrongFalsely : Prop := fnExactStrikeAllRow.holds Try.pinned (OpenSpec.ofChange fnExactStrikeAllWrong)

/-- 'laws.FnExactAgreed': WHATEVER THE INPUT: true; the input reads as it did. -/
def fnExactAgreedSpec : ChangeSpec := { name := "fnExactAgreed", fn := fun _ => fun
  | [d1, d2, d3] => { results := [.lit (.bool true)], args := [d1, d2, d3] }
  | _ => none }
def fnExactAgreedRow : OpenClaim := { program := "yteffhbboeacogaa", sum := "cc37b0824397fbaa4102834f28e5ca761f25cf0c25497efec94565f933b2dc0b", func := "loop.example/g03009/laws.FnExactAgreed", spec := "fnExactAgreed", unfollowed := true, recurses := true, apart := false }
def FnExactAgreedSaid : Prop := fnExactAgreedRow.holds Try.pinned (OpenSpec.ofChange fnExactAgreedSpec)

/-- ITS FALSE NEIGHBOUR: 'it returns false'. Refute it at one input. -/
def fnExactAgreedWrong : ChangeSpec := { name := "fnExactAgreed", fn := fun _ => fun
  | [d1, d2, d3] => { results := [.lit (.bool false)], args := [d1, d2, d3] }
  | _ => none }
def FnExactAgreedWrongFalsely : Prop := fnExactAgreedRow.holds Try.pinned (OpenSpec.ofChange fnExactAgreedWrong)

/-- 'laws.FnExactFirstChoice': WHATEVER THE INPUT: true; the input reads as it did. -/
def fnExactFirstChoiceSpec : ChangeSpec := { name := "fnExactFirstChoice", fn := fun _ => fun
  | [d1, d2] => { results := [.lit (.bool true)], args := [d1, d2] }
  | _ => none }
def fnExactFirstChoiceRow : OpenClaim := { program := "yteffhbboeacogaa", sum := "cc37b0824397fbaa4102834f28e5ca761f25cf0c25497efec94565f933b2dc0b", func := "loop.example/g03009/laws.FnExactFirstChoice", spec := "fnExactFirstChoice", apart := false }
def FnExactFirstChoiceSaid : Prop := fnExactFirstChoiceRow.holds Try.pinned (OpenSpec.ofChange fnExactFirstChoiceSpec)

/-- ITS FALSE NEIGHBOUR: 'it returns false'. Refute it at one input. -/
def fnExactFirstChoiceWrong : ChangeSpec := { name := "fnExactFirstChoice", fn := fun _ => fun
  | [d1, d2] => { results := [.lit (.bool false)], args := [d1, d2] }
  | _ => none }
def FnExactFirstChoiceWrongFalsely : Prop := fnExactFirstChoiceRow.holds Try.pinned (OpenSpec.ofChange fnExactFirstChoiceWrong)

/-- 'laws.FnExactMayAmend': WHATEVER THE INPUT: true; the input reads as it did. -/
def fnExactMayAmendSpec : ChangeSpec := { name := "fnExactMayAmend", fn := fun _ => fun
  | [d1, d2] => { results := [.lit (.bool true)], args := [d1, d2] }
  | _ => none }
def fnExactMayAmendRow : OpenClaim := { program := "yteffhbboeacogaa", sum := "cc37b0824397fbaa4102834f28e5ca761f25cf0c25497efec94565f933b2dc0b", func := "loop.example/g03009/laws.FnExactMayAmend", spec := "fnExactMayAmend", apart := false }
def FnExactMayAmendSaid : Prop := fnExactMayAmendRow.holds Try.pinned (OpenSpec.ofChange fnExactMayAmendSpec)

/-- ITS FALSE NEIGHBOUR: 'it returns false'. Refute it at one input. -/
def fnExactMayAmendWrong : ChangeSpec := { name := "fnExactMayAmend", fn := fun _ => fun
  | [d1, d2] => { results := [.lit (.bool false)], args := [d1, d2] }
  | _ => none }
def FnExactMayAmendWrongFalsely : Prop := fnExactMayAmendRow.holds Try.pinned (OpenSpec.ofChange fnExactMayAmendWrong)

/-- 'laws.FnExactAmended': WHATEVER THE INPUT: true; the input reads as it did. -/
def fnExactAmendedSpec : ChangeSpec := { name := "fnExactAmended", fn := fun _ => fun
  | [d1, d2] => { results := [.lit (.bool true)], args := [d1, d2] }
  | _ => none }
def fnExactAmendedRow : OpenClaim := { program := "yteffhbboeacogaa", sum := "cc37b0824397fbaa4102834f28e5ca761f25cf0c25497efec94565f933b2dc0b", func := "loop.example/g03009/laws.FnExactAmended", spec := "fnExactAmended", apart := false }
def FnExactAmendedSaid : Prop := fnExactAmendedRow.holds Try.pinned (OpenSpec.ofChange fnExactAmendedSpec)

/-- ITS FALSE NEIGHBOUR: 'it returns false'. Refute it at one input. -/
def fnExactAmendedWrong : ChangeSpec := { name := "fnExactAmended", fn := fun _ => fun
  | [d1, d2] => { results := [.lit (.bool false)], args := [d1, d2] }
  | _ => none }
def FnExactAmendedWrongFalsely : Prop := fnExactAmendedRow.holds Try.pinned (OpenSpec.ofChange fnExactAmendedWrong)

/-- 'laws.FnExactUndo': WHATEVER THE INPUT: true; the input reads as it did. -/
def fnExactUndoSpec : ChangeSpec := { name := "fnExactUndo", fn := fun _ => fun
  | [d1, d2] => { results := [.lit (.bool true)], args := [d1, d2] }
  | _ => none }
def fnExactUndoRow : OpenClaim := { program := "yteffhbboeacogaa", sum := "cc37b0824397fbaa4102834f28e5ca761f25cf0c25497efec94565f933b2dc0b", func := "loop.example/g03009/laws.FnExactUndo", spec := "fnExactUndo", apart := false }
def FnExactUndoSaid : Prop := fnExactUndoRow.holds Try.pinned (OpenSpec.ofChange fnExactUndoSpec)

/-- ITS FALSE NEIGHBOUR: 'it returns false'. Refute it at one input. -/
def fnExactUndoWrong : ChangeSpec := { name := "fnExactUndo", fn := fun _ => fun
  | [d1, d2] => { results := [.lit (.bool false)], args := [d1, d2] }
  | _ => none }
def FnExactUndoWrongFalsely : Prop := fnExactUndoRow.holds Try.pinned (OpenSpec.ofChange fnExactUndoWrong)

/-- 'laws.FnExactAmendAll': WHATEVER THE INPUT: true; the input reads as it did. -/
def fnExactAmendAllSpec : ChangeSpec := { name := "fnExactAmendAll", fn := fun _ => fun
  | [d1, d2] => { results := [.lit (.bool true)], args := [d1, d2] }
  | _ => none }
def fnExactAmendAllRow : OpenClaim := { program := "yteffhbboeacogaa", sum := "cc37b0824397fbaa4102834f28e5ca761f25cf0c25497efec94565f933b2dc0b", func := "loop.example/g03009/laws.FnExactAmendAll", spec := "fnExactAmendAll", apart := false }
def FnExactAmendAllSaid : Prop := fnExactAmendAllRow.holds Try.pinned (OpenSpec.ofChange fnExactAmendAllSpec)

/-- ITS FALSE NEIGHBOUR: 'it returns false'. Refute it at one input. -/
def fnExactAmendAllWrong : ChangeSpec := { name := "fnExactAmendAll", fn := fun _ => fun
  | [d1, d2] => { results := [.lit (.bool false)], args := [d1, d2] }
  | _ => none }
def FnExactAmendAllWrongFalsely : Prop := fnExactAmendAllRow.holds Try.pinned (OpenSpec.ofChange fnExactAmendAllWrong)

/-- 'laws.FnExactDifference': WHATEVER THE INPUT: true; the input reads as it did. -/
def fnExactDifferenceSpec : ChangeSpec := { name := "fnExactDifference", fn := fun _ => fun
  | [d1, d2] => { results := [.lit (.bool true)], args := [d1, d2] }
  | _ => none }
def fnExactDifferenceRow : OpenClaim := { program := "yteffhbboeacogaa", sum := "cc37b0824397fbaa4102834f28e5ca761f25cf0c25497efec94565f933b2dc0b", func := "loop.example/g03009/laws.FnExactDifference", spec := "fnExactDifference", apart := false }
def FnExactDifferenceSaid : Prop := fnExactDifferenceRow.holds Try.pinned (OpenSpec.ofChange fnExactDifferenceSpec)

/-- ITS FALSE NEIGHBOUR: 'it returns false'. Refute it at one input. -/
def fnExactDifferenceWrong : ChangeSpec := { name := "fnExactDifference", fn := fun _ => fun
  | [d1, d2] => { results := [.lit (.bool false)], args := [d1, d2] }
  | _ => none }
def FnExactDifferenceWrongFalsely : Prop := fnExactDifferenceRow.holds Try.pinned (OpenSpec.ofChange fnExactDifferenceWrong)

/-- 'laws.FnExactClash': WHATEVER THE INPUT: true; the input reads as it did. -/
def fnExactClashSpec : ChangeSpec := { name := "fnExactClash", fn := fun _ => fun
  | [d1, d2] => { results := [.lit (.bool true)], args := [d1, d2] }
  | _ => none }
def fnExactClashRow : OpenClaim := { program := "yteffhbboeacogaa", sum := "cc37b0824397fbaa4102834f28e5ca761f25cf0c25497efec94565f933b2dc0b", func := "loop.example/g03009/laws.FnExactClash", spec := "fnExactClash", apart := false }
def FnExactClashSaid : Prop := fnExactClashRow.holds Try.pinned (OpenSpec.ofChange fnExactClashSpec)

/-- ITS FALSE NEIGHBOUR: 'it returns false'. Refute it at one input. -/
def fnExactClashWrong : ChangeSpec := { name := "fnExactClash", fn := fun _ => fun
  | [d1, d2] => { results := [.lit (.bool false)], args := [d1, d2] }
  | _ => none }
def FnExactClashWrongFalsely : Prop := fnExactClashRow.holds Try.pinned (OpenSpec.ofChange fnExactClashWrong)

/- THE SECOND FORM. 'bulk': how many values and letters a reading holds, each counted each time it is reached (what is shared counts as often as it is met; a slice's spare places count too). A statement '..UptoSaid' is the law's where the arguments, and the package variables that the reading takes, are together of bulk at most 1048576: NARROWER than '..Said'. Prove '..Said' where nothing that the law and all that it calls make is longer than what came in: it says more and counts as full. Else prove '..UptoSaid'. A law counts once. -/
mutual
def uptoBulk {H : Type} : DataW H → Nat
  | .lit (.string bytes) => bytes.length + 1
  | .lit _ => 1
  | .nil => 1
  | .ptr d => uptoBulk d + 1
  | .slice elems spare => uptoBulkAll elems + uptoBulkAll spare + 1
  | .agg parts => uptoBulkAll parts + 1
  | .iface _ d => uptoBulk d + 1
  | .map entries => uptoBulkEntries entries + 1
  | .held _ => 1
def uptoBulkAll {H : Type} : List (DataW H) → Nat
  | [] => 0
  | d :: r => uptoBulk d + uptoBulkAll r
def uptoBulkEntries {H : Type} : List (Lit × DataW H) → Nat
  | [] => 0
  | x :: r => uptoBulkEntry x + uptoBulkEntries r
def uptoBulkEntry {H : Type} : Lit × DataW H → Nat
  | (.string bytes, d) => bytes.length + uptoBulk d + 1
  | (_, d) => uptoBulk d + 1
 end
def uptoSmall : (H : Type) → List (DataW H) → Bool := fun _ ds => decide (uptoBulkAll ds ≤ 1048576)
def OpenSpec.upto (s : _root_.Go.ChangeSpec) : _root_.Go.OpenSpec := { _root_.Go.OpenSpec.ofChange s with cond := some uptoSmall }

/-- 'laws.FnAmendments', WHERE WHAT IT READS IS OF BULK AT MOST 1048576: true; the input reads as it did. -/
def fnAmendmentsUptoRow : OpenClaim := { program := "yteffhbboeacogaa", sum := "cc37b0824397fbaa4102834f28e5ca761f25cf0c25497efec94565f933b2dc0b", func := "loop.example/g03009/laws.FnAmendments", spec := "fnAmendments", apart := false, narrowed := true }
def FnAmendmentsUptoSaid : Prop := fnAmendmentsUptoRow.holds Try.pinned (OpenSpec.upto fnAmendmentsSpec)

/-- 'laws.FnExactStrike', WHERE WHAT IT READS IS OF BULK AT MOST 1048576: true; the input reads as it did. -/
def fnExactStrikeUptoRow : OpenClaim := { program := "yteffhbboeacogaa", sum := "cc37b0824397fbaa4102834f28e5ca761f25cf0c25497efec94565f933b2dc0b", func := "loop.example/g03009/laws.FnExactStrike", spec := "fnExactStrike", apart := false, narrowed := true }
def FnExactStrikeUptoSaid : Prop := fnExactStrikeUptoRow.holds Try.pinned (OpenSpec.upto fnExactStrikeSpec)

/-- 'laws.FnExactLeastWanted', WHERE WHAT IT READS IS OF BULK AT MOST 1048576: true; the input reads as it did. -/
def fnExactLeastWantedUptoRow : OpenClaim := { program := "yteffhbboeacogaa", sum := "cc37b0824397fbaa4102834f28e5ca761f25cf0c25497efec94565f933b2dc0b", func := "loop.example/g03009/laws.FnExactLeastWanted", spec := "fnExactLeastWanted", unfollowed := true, recurses := true, apart := false, narrowed := true }
def FnExactLeastWantedUptoSaid : Prop := fnExactLeastWantedUptoRow.holds Try.pinned (OpenSpec.upto fnExactLeastWantedSpec)

/-- 'laws.FnExactStrikeAll', WHERE WHAT IT READS IS OF BULK AT MOST 1048576: true; the input reads as it did. -/
def fnExactStrikeAllUptoRow : OpenClaim := { program := "yteffhbboeacogaa", sum := "cc37b0824397fbaa4102834f28e5ca761f25cf0c25497efec94565f933b2dc0b", func := "loop.example/g03009/laws.FnExactStrikeAll", spec := "fnExactStrikeAll", unfollowed := true, recurses := true, apart := false, narrowed := true }
def FnExactStrikeAllUptoSaid : Prop := fnExactStrikeAllUptoRow.holds Try.pinned (OpenSpec.upto fnExactStrikeAllSpec)

/-- 'laws.FnExactAgreed', WHERE WHAT IT READS IS OF BULK AT MOST 1048576: true; the input reads as it did. -/
def fnExactAgreedUptoRow : OpenClaim := { program := "yteffhbboeacogaa", sum := "cc37b0824397fbaa4102834f28e5ca761f25cf0c25497efec94565f933b2dc0b", func := "loop.example/g03009/laws.FnExactAgreed", spec := "fnExactAgreed", unfollowed := true, recurses := true, apart := false, narrowed := true }
def FnExactAgreedUptoSaid : Prop := fnExactAgreedUptoRow.holds Try.pinned (OpenSpec.upto fnExactAgreedSpec)

/-- 'laws.FnExactFirstChoice', WHERE WHAT IT READS IS OF BULK AT MOST 1048576: true; the input reads as it did. -/
def fnExactFirstChoiceUptoRow : OpenClaim := { program := "yteffhbboeacogaa", sum := "cc37b0824397fbaa4102834f28e5ca761f25cf0c25497efec94565f933b2dc0b", func := "loop.example/g03009/laws.FnExactFirstChoice", spec := "fnExactFirstChoice", apart := false, narrowed := true }
def FnExactFirstChoiceUptoSaid : Prop := fnExactFirstChoiceUptoRow.holds Try.pinned (OpenSpec.upto fnExactFirstChoiceSpec)

/-- 'laws.FnExactMayAmend', WHERE WHAT IT READS IS OF BULK AT MOST 1048576: true; the input reads as it did. -/
def fnExactMayAmendUptoRow : OpenClaim := { program := "yteffhbboeacogaa", sum := "cc37b0824397fbaa4102834f28e5ca761f25cf0c25497efec94565f933b2dc0b", func := "loop.example/g03009/laws.FnExactMayAmend", spec := "fnExactMayAmend", apart := false, narrowed := true }
def FnExactMayAmendUptoSaid : Prop := fnExactMayAmendUptoRow.holds Try.pinned (OpenSpec.upto fnExactMayAmendSpec)

/-- 'laws.FnExactAmended', WHERE WHAT IT READS IS OF BULK AT MOST 1048576: true; the input reads as it did. -/
def fnExactAmendedUptoRow : OpenClaim := { program := "yteffhbboeacogaa", sum := "cc37b0824397fbaa4102834f28e5ca761f25cf0c25497efec94565f933b2dc0b", func := "loop.example/g03009/laws.FnExactAmended", spec := "fnExactAmended", apart := false, narrowed := true }
def FnExactAmendedUptoSaid : Prop := fnExactAmendedUptoRow.holds Try.pinned (OpenSpec.upto fnExactAmendedSpec)

/-- 'laws.FnExactUndo', WHERE WHAT IT READS IS OF BULK AT MOST 1048576: true; the input reads as it did. -/
def fnExactUndoUptoRow : OpenClaim := { program := "yteffhbboeacogaa", sum := "cc37b0824397fbaa4102834f28e5ca761f25cf0c25497efec94565f933b2dc0b", func := "loop.example/g03009/laws.FnExactUndo", spec := "fnExactUndo", apart := false, narrowed := true }
def FnExactUndoUptoSaid : Prop := fnExactUndoUptoRow.holds Try.pinned (OpenSpec.upto fnExactUndoSpec)

/-- 'laws.FnExactAmendAll', WHERE WHAT IT READS IS OF BULK AT MOST 1048576: true; the input reads as it did. -/
def fnExactAmendAllUptoRow : OpenClaim := { program := "yteffhbboeacogaa", sum := "cc37b0824397fbaa4102834f28e5ca761f25cf0c25497efec94565f933b2dc0b", func := "loop.example/g03009/laws.FnExactAmendAll", spec := "fnExactAmendAll", apart := false, narrowed := true }
def FnExactAmendAllUptoSaid : Prop := fnExactAmendAllUptoRow.holds Try.pinned (OpenSpec.upto fnExactAmendAllSpec)

/-- 'laws.FnExactDifference', WHERE WHAT IT READS IS OF BULK AT MOST 1048576: true; the input reads as it did. -/
def fnExactDifferenceUptoRow : OpenClaim := { program := "yteffhbboeacogaa", sum := "cc37b0824397fbaa4102834f28e5ca761f25cf0c25497efec94565f933b2dc0b", func := "loop.example/g03009/laws.FnExactDifference", spec := "fnExactDifference", apart := false, narrowed := true }
def FnExactDifferenceUptoSaid : Prop := fnExactDifferenceUptoRow.holds Try.pinned (OpenSpec.upto fnExactDifferenceSpec)

/-- 'laws.FnExactClash', WHERE WHAT IT READS IS OF BULK AT MOST 1048576: true; the input reads as it did. -/
def fnExactClashUptoRow : OpenClaim := { program := "yteffhbboeacogaa", sum := "cc37b0824397fbaa4102834f28e5ca761f25cf0c25497efec94565f933b2dc0b", func := "loop.example/g03009/laws.FnExactClash", spec := "fnExactClash", apart := false, narrowed := true }
def FnExactClashUptoSaid : Prop := fnExactClashUptoRow.holds Try.pinned (OpenSpec.upto fnExactClashSpec)

end Rows
end Go.Proofs.Yteffhbboeacogaa
