/-
  No cell of these rows narrows 'for every input' (looked for: loops, veiled, ifaces, maps, wideKeys, modest, calm, conditions, laid).
  DERIVED. THE GIVEN ROWS OF THIS SEAT. 12 by the template 'for every input the law returns true; each argument reads behind the call as it read before'; 0 by the template 'total and deterministic' (their statements: YtamocldcfbjfgaaTotals.lean).
  GIVEN WITH THE SEED: the statements are not yours to turn. If you find one false, say at which input.
  Laid BY PROGRAM, IN A SANDBOX (cutbox-rows.mjs): the forced cells as the released guide's own fill.sh prints them over the translation c23f10f0c2da816d… (all of the seat's roots in one cut). By AI agents, Wed Nov 11 2026. No macro, syntax, notation, axiom, sorry.
-/
import Derived.Test.YtamocldcfbjfgaaChecked
import GoSem.Claim
import GoSem.ClaimJoined
import GoSem.ClaimMapViews
import Derived.JoinedTies
import Derived.KernelRfl
namespace Go.Proofs.Ytamocldcfbjfgaa
/- THE CELL 'sum', in the pinned program and in every row, IS THE sha256 OF THE DUMP (.gsa) THAT YtamocldcfbjfgaaProg.lean LOADS. Nothing in Lean hashes anything: it is a label: what it is worth is what the hold of that sum in a sandbox is worth. -/
noncomputable def Try.pinned : Pinned := { name := "ytamocldcfbjfgaa", sum := "c23f10f0c2da816d5292d9aff24f36b1e82eb893a2bf8c63ce3ed1b80600e586", checked := Try.checked }
namespace Rows
def none {H : Type} : Left H := { results := [], args := [] }

/-- 'laws.FnExactIsSlot': WHATEVER THE INPUT: true; the input reads as it did. -/
def fnExactIsSlotSpec : ChangeSpec := { name := "fnExactIsSlot", fn := fun _ => fun
  | [d] => { results := [.lit (.bool true)], args := [d] }
  | _ => none }
def fnExactIsSlotRow : OpenClaim := { program := "ytamocldcfbjfgaa", sum := "c23f10f0c2da816d5292d9aff24f36b1e82eb893a2bf8c63ce3ed1b80600e586", func := "loop.example/g03009/laws.FnExactIsSlot", spec := "fnExactIsSlot", apart := false }
def FnExactIsSlotSaid : Prop := fnExactIsSlotRow.holds Try.pinned (OpenSpec.ofChange fnExactIsSlotSpec)

/-- ITS FALSE NEIGHBOUR: 'it returns false'. Refute it at one input. -/
def fnExactIsSlotWrong : ChangeSpec := { name := "fnExactIsSlot", fn := fun _ => fun
  | [d] => { results := [.lit (.bool false)], args := [d] }
  | _ => none }
def FnExactIsSlotWrongFalsely : Prop := fnExactIsSlotRow.holds Try.pinned (OpenSpec.ofChange fnExactIsSlotWrong)

/-- 'laws.FnExactSpeak': WHATEVER THE INPUT: true; the input reads as it did. -/
def fnExactSpeakSpec : ChangeSpec := { name := "fnExactSpeak", fn := fun _ => fun
  | [d1, d2] => { results := [.lit (.bool true)], args := [d1, d2] }
  | _ => none }
def fnExactSpeakRow : OpenClaim := { program := "ytamocldcfbjfgaa", sum := "c23f10f0c2da816d5292d9aff24f36b1e82eb893a2bf8c63ce3ed1b80600e586", func := "loop.example/g03009/laws.FnExactSpeak", spec := "fnExactSpeak", apart := false }
def FnExactSpeakSaid : Prop := fnExactSpeakRow.holds Try.pinned (OpenSpec.ofChange fnExactSpeakSpec)

/-- ITS FALSE NEIGHBOUR: 'it returns false'. Refute it at one input. -/
def fnExactSpeakWrong : ChangeSpec := { name := "fnExactSpeak", fn := fun _ => fun
  | [d1, d2] => { results := [.lit (.bool false)], args := [d1, d2] }
  | _ => none }
def FnExactSpeakWrongFalsely : Prop := fnExactSpeakRow.holds Try.pinned (OpenSpec.ofChange fnExactSpeakWrong)

/-- 'laws.FnExactLeftOf': WHATEVER THE INPUT: true; the input reads as it did. -/
def fnExactLeftOfSpec : ChangeSpec := { name := "fnExactLeftOf", fn := fun _ => fun
  | [d] => { results := [.lit (.bool true)], args := [d] }
  | _ => none }
def fnExactLeftOfRow : OpenClaim := { program := "ytamocldcfbjfgaa", sum := "c23f10f0c2da816d5292d9aff24f36b1e82eb893a2bf8c63ce3ed1b80600e586", func := "loop.example/g03009/laws.FnExactLeftOf", spec := "fnExactLeftOf", unfollowed := true, recurses := true, apart := false }
def FnExactLeftOfSaid : Prop := fnExactLeftOfRow.holds Try.pinned (OpenSpec.ofChange fnExactLeftOfSpec)

/-- ITS FALSE NEIGHBOUR: 'it returns false'. Refute it at one input. -/
def fnExactLeftOfWrong : ChangeSpec := { name := "fnExactLeftOf", fn := fun _ => fun
  | [d] => { results := [.lit (.bool false)], args := [d] }
  | _ => none }
def FnExactLeftOfWrongFalsely : Prop := fnExactLeftOfRow.holds Try.pinned (OpenSpec.ofChange fnExactLeftOfWrong)

/-- 'laws.FnExactOverBy': WHATEVER THE INPUT: true; the input reads as it did. -/
def fnExactOverBySpec : ChangeSpec := { name := "fnExactOverBy", fn := fun _ => fun
  | [d] => { results := [.lit (.bool true)], args := [d] }
  | _ => none }
def fnExactOverByRow : OpenClaim := { program := "ytamocldcfbjfgaa", sum := "c23f10f0c2da816d5292d9aff24f36b1e82eb893a2bf8c63ce3ed1b80600e586", func := "loop.example/g03009/laws.FnExactOverBy", spec := "fnExactOverBy", unfollowed := true, recurses := true, apart := false }
def FnExactOverBySaid : Prop := fnExactOverByRow.holds Try.pinned (OpenSpec.ofChange fnExactOverBySpec)

/-- ITS FALSE NEIGHBOUR: 'it returns false'. Refute it at one input. -/
def fnExactOverByWrong : ChangeSpec := { name := "fnExactOverBy", fn := fun _ => fun
  | [d] => { results := [.lit (.bool false)], args := [d] }
  | _ => none }
def FnExactOverByWrongFalsely : Prop := fnExactOverByRow.holds Try.pinned (OpenSpec.ofChange fnExactOverByWrong)

/-- 'laws.FnExactBellsAt': WHATEVER THE INPUT: true; the input reads as it did. -/
def fnExactBellsAtSpec : ChangeSpec := { name := "fnExactBellsAt", fn := fun _ => fun
  | [d] => { results := [.lit (.bool true)], args := [d] }
  | _ => none }
def fnExactBellsAtRow : OpenClaim := { program := "ytamocldcfbjfgaa", sum := "c23f10f0c2da816d5292d9aff24f36b1e82eb893a2bf8c63ce3ed1b80600e586", func := "loop.example/g03009/laws.FnExactBellsAt", spec := "fnExactBellsAt", apart := false }
def FnExactBellsAtSaid : Prop := fnExactBellsAtRow.holds Try.pinned (OpenSpec.ofChange fnExactBellsAtSpec)

/-- ITS FALSE NEIGHBOUR: 'it returns false'. Refute it at one input. -/
def fnExactBellsAtWrong : ChangeSpec := { name := "fnExactBellsAt", fn := fun _ => fun
  | [d] => { results := [.lit (.bool false)], args := [d] }
  | _ => none }
def FnExactBellsAtWrongFalsely : Prop := fnExactBellsAtRow.holds Try.pinned (OpenSpec.ofChange fnExactBellsAtWrong)

/-- 'laws.FnExactTotalUsed': WHATEVER THE INPUT: true; the input reads as it did. -/
def fnExactTotalUsedSpec : ChangeSpec := { name := "fnExactTotalUsed", fn := fun _ => fun
  | [d1, d2] => { results := [.lit (.bool true)], args := [d1, d2] }
  | _ => none }
def fnExactTotalUsedRow : OpenClaim := { program := "ytamocldcfbjfgaa", sum := "c23f10f0c2da816d5292d9aff24f36b1e82eb893a2bf8c63ce3ed1b80600e586", func := "loop.example/g03009/laws.FnExactTotalUsed", spec := "fnExactTotalUsed", unfollowed := true, recurses := true, apart := false }
def FnExactTotalUsedSaid : Prop := fnExactTotalUsedRow.holds Try.pinned (OpenSpec.ofChange fnExactTotalUsedSpec)

/-- ITS FALSE NEIGHBOUR: 'it returns false'. Refute it at one input. -/
def fnExactTotalUsedWrong : ChangeSpec := { name := "fnExactTotalUsed", fn := fun _ => fun
  | [d1, d2] => { results := [.lit (.bool false)], args := [d1, d2] }
  | _ => none }
def FnExactTotalUsedWrongFalsely : Prop := fnExactTotalUsedRow.holds Try.pinned (OpenSpec.ofChange fnExactTotalUsedWrong)

/-- 'laws.FnExactIsBallot': WHATEVER THE INPUT: true; the input reads as it did. -/
def fnExactIsBallotSpec : ChangeSpec := { name := "fnExactIsBallot", fn := fun _ => fun
  | [d] => { results := [.lit (.bool true)], args := [d] }
  | _ => none }
def fnExactIsBallotRow : OpenClaim := { program := "ytamocldcfbjfgaa", sum := "c23f10f0c2da816d5292d9aff24f36b1e82eb893a2bf8c63ce3ed1b80600e586", func := "loop.example/g03009/laws.FnExactIsBallot", spec := "fnExactIsBallot", apart := false }
def FnExactIsBallotSaid : Prop := fnExactIsBallotRow.holds Try.pinned (OpenSpec.ofChange fnExactIsBallotSpec)

/-- ITS FALSE NEIGHBOUR: 'it returns false'. Refute it at one input. -/
def fnExactIsBallotWrong : ChangeSpec := { name := "fnExactIsBallot", fn := fun _ => fun
  | [d] => { results := [.lit (.bool false)], args := [d] }
  | _ => none }
def FnExactIsBallotWrongFalsely : Prop := fnExactIsBallotRow.holds Try.pinned (OpenSpec.ofChange fnExactIsBallotWrong)

/-- 'laws.FnExactAreBallots': WHATEVER THE INPUT: true; the input reads as it did. -/
def fnExactAreBallotsSpec : ChangeSpec := { name := "fnExactAreBallots", fn := fun _ => fun
  | [d] => { results := [.lit (.bool true)], args := [d] }
  | _ => none }
def fnExactAreBallotsRow : OpenClaim := { program := "ytamocldcfbjfgaa", sum := "c23f10f0c2da816d5292d9aff24f36b1e82eb893a2bf8c63ce3ed1b80600e586", func := "loop.example/g03009/laws.FnExactAreBallots", spec := "fnExactAreBallots", apart := false }
def FnExactAreBallotsSaid : Prop := fnExactAreBallotsRow.holds Try.pinned (OpenSpec.ofChange fnExactAreBallotsSpec)

/-- ITS FALSE NEIGHBOUR: 'it returns false'. Refute it at one input. -/
def fnExactAreBallotsWrong : ChangeSpec := { name := "fnExactAreBallots", fn := fun _ => fun
  | [d] => { results := [.lit (.bool false)], args := [d] }
  | _ => none }
def FnExactAreBallotsWrongFalsely : Prop := fnExactAreBallotsRow.holds Try.pinned (OpenSpec.ofChange fnExactAreBallotsWrong)

/-- 'laws.FnExactVotesFor': WHATEVER THE INPUT: true; the input reads as it did. -/
def fnExactVotesForSpec : ChangeSpec := { name := "fnExactVotesFor", fn := fun _ => fun
  | [d1, d2] => { results := [.lit (.bool true)], args := [d1, d2] }
  | _ => none }
def fnExactVotesForRow : OpenClaim := { program := "ytamocldcfbjfgaa", sum := "c23f10f0c2da816d5292d9aff24f36b1e82eb893a2bf8c63ce3ed1b80600e586", func := "loop.example/g03009/laws.FnExactVotesFor", spec := "fnExactVotesFor", apart := false }
def FnExactVotesForSaid : Prop := fnExactVotesForRow.holds Try.pinned (OpenSpec.ofChange fnExactVotesForSpec)

/-- ITS FALSE NEIGHBOUR: 'it returns false'. Refute it at one input. -/
def fnExactVotesForWrong : ChangeSpec := { name := "fnExactVotesFor", fn := fun _ => fun
  | [d1, d2] => { results := [.lit (.bool false)], args := [d1, d2] }
  | _ => none }
def FnExactVotesForWrongFalsely : Prop := fnExactVotesForRow.holds Try.pinned (OpenSpec.ofChange fnExactVotesForWrong)

/-- 'laws.FnExactDecision': WHATEVER THE INPUT: true; the input reads as it did. -/
def fnExactDecisionSpec : ChangeSpec := { name := "fnExactDecision", fn := fun _ => fun
  | [d] => { results := [.lit (.bool true)], args := [d] }
  | _ => none }
def fnExactDecisionRow : OpenClaim := { program := "ytamocldcfbjfgaa", sum := "c23f10f0c2da816d5292d9aff24f36b1e82eb893a2bf8c63ce3ed1b80600e586", func := "loop.example/g03009/laws.FnExactDecision", spec := "fnExactDecision", apart := false }
def FnExactDecisionSaid : Prop := fnExactDecisionRow.holds Try.pinned (OpenSpec.ofChange fnExactDecisionSpec)

/-- ITS FALSE NEIGHBOUR: 'it returns false'. Refute it at one input. -/
def fnExactDecisionWrong : ChangeSpec := { name := "fnExactDecision", fn := fun _ => fun
  | [d] => { results := [.lit (.bool false)], args := [d] }
  | _ => none }
def FnExactDecisionWrongFalsely : Prop := fnExactDecisionRow.holds Try.pinned (OpenSpec.ofChange fnExactDecisionWrong)

/-- 'laws.FnExactSumFor': WHATEVER THE INPUT: true; the input reads as it did. -/
def fnExactSumForSpec : ChangeSpec := { name := "fnExactSumFor", fn := fun _ => fun
  | [d1, d2] => { results := [.lit (.bool true)], args := [d1, d2] }
  | _ => none }
def fnExactSumForRow : OpenClaim := { program := "ytamocldcfbjfgaa", sum := "c23f10f0c2da816d5292d9aff24f36b1e82eb893a2bf8c63ce3ed1b80600e586", func := "loop.example/g03009/laws.FnExactSumFor", spec := "fnExactSumFor", apart := false }
def FnExactSumForSaid : Prop := fnExactSumForRow.holds Try.pinned (OpenSpec.ofChange fnExactSumForSpec)

/-- ITS FALSE NEIGHBOUR: 'it returns false'. Refute it at one input. -/
def fnExactSumForWrong : ChangeSpec := { name := "fnExactSumFor", fn := fun _ => fun
  | [d1, d2] => { results := [.lit (.bool false)], args := [d1, d2] }
  | _ => none }
def FnExactSumForWrongFalsely : Prop := fnExactSumForRow.holds Try.pinned (OpenSpec.ofChange fnExactSumForWrong)

/-- 'laws.FnExactIsSplit': WHATEVER THE INPUT: true; the input reads as it did. -/
def fnExactIsSplitSpec : ChangeSpec := { name := "fnExactIsSplit", fn := fun _ => fun
  | [d] => { results := [.lit (.bool true)], args := [d] }
  | _ => none }
def fnExactIsSplitRow : OpenClaim := { program := "ytamocldcfbjfgaa", sum := "c23f10f0c2da816d5292d9aff24f36b1e82eb893a2bf8c63ce3ed1b80600e586", func := "loop.example/g03009/laws.FnExactIsSplit", spec := "fnExactIsSplit", apart := false }
def FnExactIsSplitSaid : Prop := fnExactIsSplitRow.holds Try.pinned (OpenSpec.ofChange fnExactIsSplitSpec)

/-- ITS FALSE NEIGHBOUR: 'it returns false'. Refute it at one input. -/
def fnExactIsSplitWrong : ChangeSpec := { name := "fnExactIsSplit", fn := fun _ => fun
  | [d] => { results := [.lit (.bool false)], args := [d] }
  | _ => none }
def FnExactIsSplitWrongFalsely : Prop := fnExactIsSplitRow.holds Try.pinned (OpenSpec.ofChange fnExactIsSplitWrong)

/- THE SECOND FORM. 'bulk': how many values and letters a reading holds, each counted each time it is reached (what is shared counts as often as it is met; a slice's spare places count too). A statement '..UptoSaid' is the law's where the arguments, and the package variables that the reading takes, are together of bulk at most 1048576: NARROWER than '..Said'. Prove '..Said' where nothing that the law and all that it calls make is longer than what came in: it says more and counts as full. Else prove '..UptoSaid'. A law counts once. -/
mutual
def uptoBulk {H : Type} : DataW H → Nat
  | .lit (.string bytes) => bytes.length + 1
  | .lit _ => 1
  | .nil => 1
  | .ptr d => uptoBulk d + 1
  | .slice elems spare => uptoBulkAll elems + uptoBulkAll spare + 1
  | .agg parts => uptoBulkAll parts + 1
  | .iface _ d => uptoBulk d + 1
  | .map entries => uptoBulkEntries entries + 1
  | .held _ => 1
def uptoBulkAll {H : Type} : List (DataW H) → Nat
  | [] => 0
  | d :: r => uptoBulk d + uptoBulkAll r
def uptoBulkEntries {H : Type} : List (Lit × DataW H) → Nat
  | [] => 0
  | x :: r => uptoBulkEntry x + uptoBulkEntries r
def uptoBulkEntry {H : Type} : Lit × DataW H → Nat
  | (.string bytes, d) => bytes.length + uptoBulk d + 1
  | (_, d) => uptoBulk d + 1
 end
def uptoSmall : (H : Type) → List (DataW H) → Bool := fun _ ds => decide (uptoBulkAll ds ≤ 1048576)
def OpenSpec.upto (s : _root_.Go.ChangeSpec) : _root_.Go.OpenSpec := { _root_.Go.OpenSpec.ofChange s with cond := some uptoSmall }

/-- 'laws.FnExactIsSlot', WHERE WHAT IT READS IS OF BULK AT MOST 1048576: true; the input reads as it did. -/
def fnExactIsSlotUptoRow : OpenClaim := { program := "ytamocldcfbjfgaa", sum := "c23f10f0c2da816d5292d9aff24f36b1e82eb893a2bf8c63ce3ed1b80600e586", func := "loop.example/g03009/laws.FnExactIsSlot", spec := "fnExactIsSlot", apart := false, narrowed := true }
def FnExactIsSlotUptoSaid : Prop := fnExactIsSlotUptoRow.holds Try.pinned (OpenSpec.upto fnExactIsSlotSpec)

/-- 'laws.FnExactSpeak', WHERE WHAT IT READS IS OF BULK AT MOST 1048576: true; the input reads as it did. -/
def fnExactSpeakUptoRow : OpenClaim := { program := "ytamocldcfbjfgaa", sum := "c23f10f0c2da816d5292d9aff24f36b1e82eb893a2bf8c63ce3ed1b80600e586", func := "loop.example/g03009/laws.FnExactSpeak", spec := "fnExactSpeak", apart := false, narrowed := true }
def FnExactSpeakUptoSaid : Prop := fnExactSpeakUptoRow.holds Try.pinned (OpenSpec.upto fnExactSpeakSpec)

/-- 'laws.FnExactLeftOf', WHERE WHAT IT READS IS OF BULK AT MOST 1048576: true; the input reads as it did. -/
def fnExactLeftOfUptoRow : OpenClaim := { program := "ytamocldcfbjfgaa", sum := "c23f10f0c2da816d5292d9aff24f36b1e82eb893a2bf8c63ce3ed1b80600e586", func := "loop.example/g03009/laws.FnExactLeftOf", spec := "fnExactLeftOf", unfollowed := true, recurses := true, apart := false, narrowed := true }
def FnExactLeftOfUptoSaid : Prop := fnExactLeftOfUptoRow.holds Try.pinned (OpenSpec.upto fnExactLeftOfSpec)

/-- 'laws.FnExactOverBy', WHERE WHAT IT READS IS OF BULK AT MOST 1048576: true; the input reads as it did. -/
def fnExactOverByUptoRow : OpenClaim := { program := "ytamocldcfbjfgaa", sum := "c23f10f0c2da816d5292d9aff24f36b1e82eb893a2bf8c63ce3ed1b80600e586", func := "loop.example/g03009/laws.FnExactOverBy", spec := "fnExactOverBy", unfollowed := true, recurses := true, apart := false, narrowed := true }
def FnExactOverByUptoSaid : Prop := fnExactOverByUptoRow.holds Try.pinned (OpenSpec.upto fnExactOverBySpec)

/-- 'laws.FnExactBellsAt', WHERE WHAT IT READS IS OF BULK AT MOST 1048576: true; the input reads as it did. -/
def fnExactBellsAtUptoRow : OpenClaim := { program := "ytamocldcfbjfgaa", sum := "c23f10f0c2da816d5292d9aff24f36b1e82eb893a2bf8c63ce3ed1b80600e586", func := "loop.example/g03009/laws.FnExactBellsAt", spec := "fnExactBellsAt", apart := false, narrowed := true }
def FnExactBellsAtUptoSaid : Prop := fnExactBellsAtUptoRow.holds Try.pinned (OpenSpec.upto fnExactBellsAtSpec)

/-- 'laws.FnExactTotalUsed', WHERE WHAT IT READS IS OF BULK AT MOST 1048576: true; the input reads as it did. -/
def fnExactTotalUsedUptoRow : OpenClaim := { program := "ytamocldcfbjfgaa", sum := "c23f10f0c2da816d5292d9aff24f36b1e82eb893a2bf8c63ce3ed1b80600e586", func := "loop.example/g03009/laws.FnExactTotalUsed", spec := "fnExactTotalUsed", unfollowed := true, recurses := true, apart := false, narrowed := true }
def FnExactTotalUsedUptoSaid : Prop := fnExactTotalUsedUptoRow.holds Try.pinned (OpenSpec.upto fnExactTotalUsedSpec)

/-- 'laws.FnExactIsBallot', WHERE WHAT IT READS IS OF BULK AT MOST 1048576: true; the input reads as it did. -/
def fnExactIsBallotUptoRow : OpenClaim := { program := "ytamocldcfbjfgaa", sum := "c23f10f0c2da816d5292d9aff24f36b1e82eb893a2bf8c63ce3ed1b80600e586", func := "loop.example/g03009/laws.FnExactIsBallot", spec := "fnExactIsBallot", apart := false, narrowed := true }
def FnExactIsBallotUptoSaid : Prop := fnExactIsBallotUptoRow.holds Try.pinned (OpenSpec.upto fnExactIsBallotSpec)

/-- 'laws.FnExactAreBallots', WHERE WHAT IT READS IS OF BULK AT MOST 1048576: true; the input reads as it did. -/
def fnExactAreBallotsUptoRow : OpenClaim := { program := "ytamocldcfbjfgaa", sum := "c23f10f0c2da816d5292d9aff24f36b1e82eb893a2bf8c63ce3ed1b80600e586", func := "loop.example/g03009/laws.FnExactAreBallots", spec := "fnExactAreBallots", apart := false, narrowed := true }
def FnExactAreBallotsUptoSaid : Prop := fnExactAreBallotsUptoRow.holds Try.pinned (OpenSpec.upto fnExactAreBallotsSpec)

/-- 'laws.FnExactVotesFor', WHERE WHAT IT READS IS OF BULK AT MOST 1048576: true; the input reads as it did. -/
def fnExactVotesForUptoRow : OpenClaim := { program := "ytamocldcfbjfgaa", sum := "c23f10f0c2da816d5292d9aff24f36b1e82eb893a2bf8c63ce3ed1b80600e586", func := "loop.example/g03009/laws.FnExactVotesFor", spec := "fnExactVotesFor", apart := false, narrowed := true }
def FnExactVotesForUptoSaid : Prop := fnExactVotesForUptoRow.holds Try.pinned (OpenSpec.upto fnExactVotesForSpec)

/-- 'laws.FnExactDecision', WHERE WHAT IT READS IS OF BULK AT MOST 1048576: true; the input reads as it did. -/
def fnExactDecisionUptoRow : OpenClaim := { program := "ytamocldcfbjfgaa", sum := "c23f10f0c2da816d5292d9aff24f36b1e82eb893a2bf8c63ce3ed1b80600e586", func := "loop.example/g03009/laws.FnExactDecision", spec := "fnExactDecision", apart := false, narrowed := true }
def FnExactDecisionUptoSaid : Prop := fnExactDecisionUptoRow.holds Try.pinned (OpenSpec.upto fnExactDecisionSpec)

/-- 'laws.FnExactSumFor', WHERE WHAT IT READS IS OF BULK AT MOST 1048576: true; the input reads as it did. -/
def fnExactSumForUptoRow : OpenClaim := { program := "ytamocldcfbjfgaa", sum := "c23f10f0c2da816d5292d9aff24f36b1e82eb893a2bf8c63ce3ed1b80600e586", func := "loop.example/g03009/laws.FnExactSumFor", spec := "fnExactSumFor", apart := false, narrowed := true }
def FnExactSumForUptoSaid : Prop := fnExactSumForUptoRow.holds Try.pinned (OpenSpec.upto fnExactSumForSpec)

/-- 'laws.FnExactIsSplit', WHERE WHAT IT READS IS OF BULK AT MOST 1048576: true; the input reads as it did. -/
def fnExactIsSplitUptoRow : OpenClaim := { program := "ytamocldcfbjfgaa", sum := "c23f10f0c2da816d5292d9aff24f36b1e82eb893a2bf8c63ce3ed1b80600e586", func := "loop.example/g03009/laws.FnExactIsSplit", spec := "fnExactIsSplit", apart := false, narrowed := true }
def FnExactIsSplitUptoSaid : Prop := fnExactIsSplitUptoRow.holds Try.pinned (OpenSpec.upto fnExactIsSplitSpec)

end Rows
end Go.Proofs.Ytamocldcfbjfgaa
