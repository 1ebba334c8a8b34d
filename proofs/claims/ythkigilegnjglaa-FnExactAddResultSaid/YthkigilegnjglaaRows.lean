/-
  No cell of these rows narrows 'for every input' (looked for: loops, veiled, ifaces, maps, wideKeys, modest, calm, conditions, laid).
  DERIVED. THE GIVEN ROWS OF THIS SEAT. 12 by the template 'for every input the law returns true; each argument reads behind the call as it read before'; 0 by the template 'total and deterministic' (their statements: YthkigilegnjglaaTotals.lean).
  GIVEN WITH THE SEED: the statements are not yours to turn. If you find one false, say at which input.
  Laid BY PROGRAM, IN A SANDBOX (cutbox-rows.mjs): the forced cells as the released guide's own fill.sh prints them over the translation 830fed778214b350… (all of the seat's roots in one cut). By AI agents, Wed Nov 11 2026. No macro, syntax, notation, axiom, sorry.
-/
import Derived.Test.YthkigilegnjglaaChecked
import GoSem.Claim
import GoSem.ClaimJoined
import GoSem.ClaimMapViews
import Derived.JoinedTies
import Derived.KernelRfl
namespace Go.Proofs.Ythkigilegnjglaa
/- THE CELL 'sum', in the pinned program and in every row, IS THE sha256 OF THE DUMP (.gsa) THAT YthkigilegnjglaaProg.lean LOADS. Nothing in Lean hashes anything: it is a label: what it is worth is what the hold of that sum in a sandbox is worth. -/
noncomputable def Try.pinned : Pinned := { name := "ythkigilegnjglaa", sum := "830fed778214b350779a4702744ff89bbb673202bf1e38e23bd96791f737f9dd", checked := Try.checked }
namespace Rows
def none {H : Type} : Left H := { results := [], args := [] }

/-- 'laws.FnExactRunOff': WHATEVER THE INPUT: true; the input reads as it did. -/
def fnExactRunOffSpec : ChangeSpec := { name := "fnExactRunOff", fn := fun _ => fun
  | [d1, d2] => { results := [.lit (.bool true)], args := [d1, d2] }
  | _ => none }
def fnExactRunOffRow : OpenClaim := { program := "ythkigilegnjglaa", sum := "830fed778214b350779a4702744ff89bbb673202bf1e38e23bd96791f737f9dd", func := "loop.example/g03009/laws.FnExactRunOff", spec := "fnExactRunOff", unfollowed := true, recurses := true, plainKeys := false, apart := false }
def FnExactRunOffSaid : Prop := fnExactRunOffRow.holds Try.pinned (OpenSpec.ofChange fnExactRunOffSpec)

/-- ITS FALSE NEIGHBOUR: 'it returns false'. Refute it at one input. -/
def fnExactRunOffWrong : ChangeSpec := { name := "fnExactRunOff", fn := fun _ => fun
  | [d1, d2] => { results := [.lit (.bool false)], args := [d1, d2] }
  | _ => none }
def FnExactRunOffWrongFalsely : Prop := fnExactRunOffRow.holds Try.pinned (OpenSpec.ofChange fnExactRunOffWrong)

/-- 'laws.FnExactAreTeams': WHATEVER THE INPUT: true; the input reads as it did. -/
def fnExactAreTeamsSpec : ChangeSpec := { name := "fnExactAreTeams", fn := fun _ => fun
  | [d] => { results := [.lit (.bool true)], args := [d] }
  | _ => none }
def fnExactAreTeamsRow : OpenClaim := { program := "ythkigilegnjglaa", sum := "830fed778214b350779a4702744ff89bbb673202bf1e38e23bd96791f737f9dd", func := "loop.example/g03009/laws.FnExactAreTeams", spec := "fnExactAreTeams", unfollowed := true, recurses := true, plainKeys := false, apart := false }
def FnExactAreTeamsSaid : Prop := fnExactAreTeamsRow.holds Try.pinned (OpenSpec.ofChange fnExactAreTeamsSpec)

/-- ITS FALSE NEIGHBOUR: 'it returns false'. Refute it at one input. -/
def fnExactAreTeamsWrong : ChangeSpec := { name := "fnExactAreTeams", fn := fun _ => fun
  | [d] => { results := [.lit (.bool false)], args := [d] }
  | _ => none }
def FnExactAreTeamsWrongFalsely : Prop := fnExactAreTeamsRow.holds Try.pinned (OpenSpec.ofChange fnExactAreTeamsWrong)

/-- 'laws.FnExactTotalWins': WHATEVER THE INPUT: true; the input reads as it did. -/
def fnExactTotalWinsSpec : ChangeSpec := { name := "fnExactTotalWins", fn := fun _ => fun
  | [d] => { results := [.lit (.bool true)], args := [d] }
  | _ => none }
def fnExactTotalWinsRow : OpenClaim := { program := "ythkigilegnjglaa", sum := "830fed778214b350779a4702744ff89bbb673202bf1e38e23bd96791f737f9dd", func := "loop.example/g03009/laws.FnExactTotalWins", spec := "fnExactTotalWins", unfollowed := true, recurses := true, plainKeys := false, apart := false }
def FnExactTotalWinsSaid : Prop := fnExactTotalWinsRow.holds Try.pinned (OpenSpec.ofChange fnExactTotalWinsSpec)

/-- ITS FALSE NEIGHBOUR: 'it returns false'. Refute it at one input. -/
def fnExactTotalWinsWrong : ChangeSpec := { name := "fnExactTotalWins", fn := fun _ => fun
  | [d] => { results := [.lit (.bool false)], args := [d] }
  | _ => none }
def FnExactTotalWinsWrongFalsely : Prop := fnExactTotalWinsRow.holds Try.pinned (OpenSpec.ofChange fnExactTotalWinsWrong)

/-- 'laws.FnExactMayMeet': WHATEVER THE INPUT: true; the input reads as it did. -/
def fnExactMayMeetSpec : ChangeSpec := { name := "fnExactMayMeet", fn := fun _ => fun
  | [d1, d2, d3] => { results := [.lit (.bool true)], args := [d1, d2, d3] }
  | _ => none }
def fnExactMayMeetRow : OpenClaim := { program := "ythkigilegnjglaa", sum := "830fed778214b350779a4702744ff89bbb673202bf1e38e23bd96791f737f9dd", func := "loop.example/g03009/laws.FnExactMayMeet", spec := "fnExactMayMeet", unfollowed := true, recurses := true, plainKeys := false, apart := false }
def FnExactMayMeetSaid : Prop := fnExactMayMeetRow.holds Try.pinned (OpenSpec.ofChange fnExactMayMeetSpec)

/-- ITS FALSE NEIGHBOUR: 'it returns false'. Refute it at one input. -/
def fnExactMayMeetWrong : ChangeSpec := { name := "fnExactMayMeet", fn := fun _ => fun
  | [d1, d2, d3] => { results := [.lit (.bool false)], args := [d1, d2, d3] }
  | _ => none }
def FnExactMayMeetWrongFalsely : Prop := fnExactMayMeetRow.holds Try.pinned (OpenSpec.ofChange fnExactMayMeetWrong)

/-- 'laws.FnExactSideFor': WHATEVER THE INPUT: true; the input reads as it did. -/
def fnExactSideForSpec : ChangeSpec := { name := "fnExactSideFor", fn := fun _ => fun
  | [d1, d2, d3] => { results := [.lit (.bool true)], args := [d1, d2, d3] }
  | _ => none }
def fnExactSideForRow : OpenClaim := { program := "ythkigilegnjglaa", sum := "830fed778214b350779a4702744ff89bbb673202bf1e38e23bd96791f737f9dd", func := "loop.example/g03009/laws.FnExactSideFor", spec := "fnExactSideFor", unfollowed := true, recurses := true, plainKeys := false, apart := false }
def FnExactSideForSaid : Prop := fnExactSideForRow.holds Try.pinned (OpenSpec.ofChange fnExactSideForSpec)

/-- ITS FALSE NEIGHBOUR: 'it returns false'. Refute it at one input. -/
def fnExactSideForWrong : ChangeSpec := { name := "fnExactSideFor", fn := fun _ => fun
  | [d1, d2, d3] => { results := [.lit (.bool false)], args := [d1, d2, d3] }
  | _ => none }
def FnExactSideForWrongFalsely : Prop := fnExactSideForRow.holds Try.pinned (OpenSpec.ofChange fnExactSideForWrong)

/-- 'laws.FnExactAddResult': WHATEVER THE INPUT: true; the input reads as it did. -/
def fnExactAddResultSpec : ChangeSpec := { name := "fnExactAddResult", fn := fun _ => fun
  | [d1, d2, d3, d4, d5, d6] => { results := [.lit (.bool true)], args := [d1, d2, d3, d4, d5, d6] }
  | _ => none }
def fnExactAddResultRow : OpenClaim := { program := "ythkigilegnjglaa", sum := "830fed778214b350779a4702744ff89bbb673202bf1e38e23bd96791f737f9dd", func := "loop.example/g03009/laws.FnExactAddResult", spec := "fnExactAddResult", unfollowed := true, recurses := true, plainKeys := false, apart := false }
def FnExactAddResultSaid : Prop := fnExactAddResultRow.holds Try.pinned (OpenSpec.ofChange fnExactAddResultSpec)

/-- ITS FALSE NEIGHBOUR: 'it returns false'. Refute it at one input. -/
def fnExactAddResultWrong : ChangeSpec := { name := "fnExactAddResult", fn := fun _ => fun
  | [d1, d2, d3, d4, d5, d6] => { results := [.lit (.bool false)], args := [d1, d2, d3, d4, d5, d6] }
  | _ => none }
def FnExactAddResultWrongFalsely : Prop := fnExactAddResultRow.holds Try.pinned (OpenSpec.ofChange fnExactAddResultWrong)

/-- 'laws.FnExactStanding': WHATEVER THE INPUT: true; the input reads as it did. -/
def fnExactStandingSpec : ChangeSpec := { name := "fnExactStanding", fn := fun _ => fun
  | [d] => { results := [.lit (.bool true)], args := [d] }
  | _ => none }
def fnExactStandingRow : OpenClaim := { program := "ythkigilegnjglaa", sum := "830fed778214b350779a4702744ff89bbb673202bf1e38e23bd96791f737f9dd", func := "loop.example/g03009/laws.FnExactStanding", spec := "fnExactStanding", unfollowed := true, recurses := true, plainKeys := false, apart := false }
def FnExactStandingSaid : Prop := fnExactStandingRow.holds Try.pinned (OpenSpec.ofChange fnExactStandingSpec)

/-- ITS FALSE NEIGHBOUR: 'it returns false'. Refute it at one input. -/
def fnExactStandingWrong : ChangeSpec := { name := "fnExactStanding", fn := fun _ => fun
  | [d] => { results := [.lit (.bool false)], args := [d] }
  | _ => none }
def FnExactStandingWrongFalsely : Prop := fnExactStandingRow.holds Try.pinned (OpenSpec.ofChange fnExactStandingWrong)

/-- 'laws.FnExactPairRound': WHATEVER THE INPUT: true; the input reads as it did. -/
def fnExactPairRoundSpec : ChangeSpec := { name := "fnExactPairRound", fn := fun _ => fun
  | [d] => { results := [.lit (.bool true)], args := [d] }
  | _ => none }
def fnExactPairRoundRow : OpenClaim := { program := "ythkigilegnjglaa", sum := "830fed778214b350779a4702744ff89bbb673202bf1e38e23bd96791f737f9dd", func := "loop.example/g03009/laws.FnExactPairRound", spec := "fnExactPairRound", unfollowed := true, recurses := true, plainKeys := false, apart := false }
def FnExactPairRoundSaid : Prop := fnExactPairRoundRow.holds Try.pinned (OpenSpec.ofChange fnExactPairRoundSpec)

/-- ITS FALSE NEIGHBOUR: 'it returns false'. Refute it at one input. -/
def fnExactPairRoundWrong : ChangeSpec := { name := "fnExactPairRound", fn := fun _ => fun
  | [d] => { results := [.lit (.bool false)], args := [d] }
  | _ => none }
def FnExactPairRoundWrongFalsely : Prop := fnExactPairRoundRow.holds Try.pinned (OpenSpec.ofChange fnExactPairRoundWrong)

/-- 'laws.FnExactIsRound': WHATEVER THE INPUT: true; the input reads as it did. -/
def fnExactIsRoundSpec : ChangeSpec := { name := "fnExactIsRound", fn := fun _ => fun
  | [d1, d2] => { results := [.lit (.bool true)], args := [d1, d2] }
  | _ => none }
def fnExactIsRoundRow : OpenClaim := { program := "ythkigilegnjglaa", sum := "830fed778214b350779a4702744ff89bbb673202bf1e38e23bd96791f737f9dd", func := "loop.example/g03009/laws.FnExactIsRound", spec := "fnExactIsRound", unfollowed := true, recurses := true, plainKeys := false, apart := false }
def FnExactIsRoundSaid : Prop := fnExactIsRoundRow.holds Try.pinned (OpenSpec.ofChange fnExactIsRoundSpec)

/-- ITS FALSE NEIGHBOUR: 'it returns false'. Refute it at one input. -/
def fnExactIsRoundWrong : ChangeSpec := { name := "fnExactIsRound", fn := fun _ => fun
  | [d1, d2] => { results := [.lit (.bool false)], args := [d1, d2] }
  | _ => none }
def FnExactIsRoundWrongFalsely : Prop := fnExactIsRoundRow.holds Try.pinned (OpenSpec.ofChange fnExactIsRoundWrong)

/-- 'laws.FnExactSideGap': WHATEVER THE INPUT: true; the input reads as it did. -/
def fnExactSideGapSpec : ChangeSpec := { name := "fnExactSideGap", fn := fun _ => fun
  | [d1, d2] => { results := [.lit (.bool true)], args := [d1, d2] }
  | _ => none }
def fnExactSideGapRow : OpenClaim := { program := "ythkigilegnjglaa", sum := "830fed778214b350779a4702744ff89bbb673202bf1e38e23bd96791f737f9dd", func := "loop.example/g03009/laws.FnExactSideGap", spec := "fnExactSideGap", unfollowed := true, recurses := true, plainKeys := false, apart := false }
def FnExactSideGapSaid : Prop := fnExactSideGapRow.holds Try.pinned (OpenSpec.ofChange fnExactSideGapSpec)

/-- ITS FALSE NEIGHBOUR: 'it returns false'. Refute it at one input. -/
def fnExactSideGapWrong : ChangeSpec := { name := "fnExactSideGap", fn := fun _ => fun
  | [d1, d2] => { results := [.lit (.bool false)], args := [d1, d2] }
  | _ => none }
def FnExactSideGapWrongFalsely : Prop := fnExactSideGapRow.holds Try.pinned (OpenSpec.ofChange fnExactSideGapWrong)

/-- 'laws.FnExactSeatJudges': WHATEVER THE INPUT: true; the input reads as it did. -/
def fnExactSeatJudgesSpec : ChangeSpec := { name := "fnExactSeatJudges", fn := fun _ => fun
  | [d1, d2, d3] => { results := [.lit (.bool true)], args := [d1, d2, d3] }
  | _ => none }
def fnExactSeatJudgesRow : OpenClaim := { program := "ythkigilegnjglaa", sum := "830fed778214b350779a4702744ff89bbb673202bf1e38e23bd96791f737f9dd", func := "loop.example/g03009/laws.FnExactSeatJudges", spec := "fnExactSeatJudges", unfollowed := true, recurses := true, plainKeys := false, apart := false }
def FnExactSeatJudgesSaid : Prop := fnExactSeatJudgesRow.holds Try.pinned (OpenSpec.ofChange fnExactSeatJudgesSpec)

/-- ITS FALSE NEIGHBOUR: 'it returns false'. Refute it at one input. -/
def fnExactSeatJudgesWrong : ChangeSpec := { name := "fnExactSeatJudges", fn := fun _ => fun
  | [d1, d2, d3] => { results := [.lit (.bool false)], args := [d1, d2, d3] }
  | _ => none }
def FnExactSeatJudgesWrongFalsely : Prop := fnExactSeatJudgesRow.holds Try.pinned (OpenSpec.ofChange fnExactSeatJudgesWrong)

/-- 'laws.FnExactAreSeated': WHATEVER THE INPUT: true; the input reads as it did. -/
def fnExactAreSeatedSpec : ChangeSpec := { name := "fnExactAreSeated", fn := fun _ => fun
  | [d1, d2, d3, d4] => { results := [.lit (.bool true)], args := [d1, d2, d3, d4] }
  | _ => none }
def fnExactAreSeatedRow : OpenClaim := { program := "ythkigilegnjglaa", sum := "830fed778214b350779a4702744ff89bbb673202bf1e38e23bd96791f737f9dd", func := "loop.example/g03009/laws.FnExactAreSeated", spec := "fnExactAreSeated", unfollowed := true, recurses := true, plainKeys := false, apart := false }
def FnExactAreSeatedSaid : Prop := fnExactAreSeatedRow.holds Try.pinned (OpenSpec.ofChange fnExactAreSeatedSpec)

/-- ITS FALSE NEIGHBOUR: 'it returns false'. Refute it at one input. -/
def fnExactAreSeatedWrong : ChangeSpec := { name := "fnExactAreSeated", fn := fun _ => fun
  | [d1, d2, d3, d4] => { results := [.lit (.bool false)], args := [d1, d2, d3, d4] }
  | _ => none }
def FnExactAreSeatedWrongFalsely : Prop := fnExactAreSeatedRow.holds Try.pinned (OpenSpec.ofChange fnExactAreSeatedWrong)

/- THE SECOND FORM. 'bulk': how many values and letters a reading holds, each counted each time it is reached (what is shared counts as often as it is met; a slice's spare places count too). A statement '..UptoSaid' is the law's where the arguments, and the package variables that the reading takes, are together of bulk at most 1048576: NARROWER than '..Said'. Prove '..Said' where nothing that the law and all that it calls make is longer than what came in: it says more and counts as full. Else prove '..UptoSaid'. A law counts once. -/
mutual
def uptoBulk {H : Type} : DataW H → Nat
  | .lit (.string bytes) => bytes.length + 1
  | .lit _ => 1
  | .nil => 1
  | .ptr d => uptoBulk d + 1
  | .slice elems spare => uptoBulkAll elems + uptoBulkAll spare + 1
  | .agg parts => uptoBulkAll parts + 1
  | .iface _ d => uptoBulk d + 1
  | .map entries => uptoBulkEntries entries + 1
  | .held _ => 1
def uptoBulkAll {H : Type} : List (DataW H) → Nat
  | [] => 0
  | d :: r => uptoBulk d + uptoBulkAll r
def uptoBulkEntries {H : Type} : List (Lit × DataW H) → Nat
  | [] => 0
  | x :: r => uptoBulkEntry x + uptoBulkEntries r
def uptoBulkEntry {H : Type} : Lit × DataW H → Nat
  | (.string bytes, d) => bytes.length + uptoBulk d + 1
  | (_, d) => uptoBulk d + 1
 end
def uptoSmall : (H : Type) → List (DataW H) → Bool := fun _ ds => decide (uptoBulkAll ds ≤ 1048576)
def OpenSpec.upto (s : _root_.Go.ChangeSpec) : _root_.Go.OpenSpec := { _root_.Go.OpenSpec.ofChange s with cond := some uptoSmall }

/-- 'laws.FnExactRunOff', WHERE WHAT IT READS IS OF BULK AT MOST 1048576: true; the input reads as it did. -/
def fnExactRunOffUptoRow : OpenClaim := { program := "ythkigilegnjglaa", sum := "830fed778214b350779a4702744ff89bbb673202bf1e38e23bd96791f737f9dd", func := "loop.example/g03009/laws.FnExactRunOff", spec := "fnExactRunOff", unfollowed := true, recurses := true, plainKeys := false, apart := false, narrowed := true }
def FnExactRunOffUptoSaid : Prop := fnExactRunOffUptoRow.holds Try.pinned (OpenSpec.upto fnExactRunOffSpec)

/-- 'laws.FnExactAreTeams', WHERE WHAT IT READS IS OF BULK AT MOST 1048576: true; the input reads as it did. -/
def fnExactAreTeamsUptoRow : OpenClaim := { program := "ythkigilegnjglaa", sum := "830fed778214b350779a4702744ff89bbb673202bf1e38e23bd96791f737f9dd", func := "loop.example/g03009/laws.FnExactAreTeams", spec := "fnExactAreTeams", unfollowed := true, recurses := true, plainKeys := false, apart := false, narrowed := true }
def FnExactAreTeamsUptoSaid : Prop := fnExactAreTeamsUptoRow.holds Try.pinned (OpenSpec.upto fnExactAreTeamsSpec)

/-- 'laws.FnExactTotalWins', WHERE WHAT IT READS IS OF BULK AT MOST 1048576: true; the input reads as it did. -/
def fnExactTotalWinsUptoRow : OpenClaim := { program := "ythkigilegnjglaa", sum := "830fed778214b350779a4702744ff89bbb673202bf1e38e23bd96791f737f9dd", func := "loop.example/g03009/laws.FnExactTotalWins", spec := "fnExactTotalWins", unfollowed := true, recurses := true, plainKeys := false, apart := false, narrowed := true }
def FnExactTotalWinsUptoSaid : Prop := fnExactTotalWinsUptoRow.holds Try.pinned (OpenSpec.upto fnExactTotalWinsSpec)

/-- 'laws.FnExactMayMeet', WHERE WHAT IT READS IS OF BULK AT MOST 1048576: true; the input reads as it did. -/
def fnExactMayMeetUptoRow : OpenClaim := { program := "ythkigilegnjglaa", sum := "830fed778214b350779a4702744ff89bbb673202bf1e38e23bd96791f737f9dd", func := "loop.example/g03009/laws.FnExactMayMeet", spec := "fnExactMayMeet", unfollowed := true, recurses := true, plainKeys := false, apart := false, narrowed := true }
def FnExactMayMeetUptoSaid : Prop := fnExactMayMeetUptoRow.holds Try.pinned (OpenSpec.upto fnExactMayMeetSpec)

/-- 'laws.FnExactSideFor', WHERE WHAT IT READS IS OF BULK AT MOST 1048576: true; the input reads as it did. -/
def fnExactSideForUptoRow : OpenClaim := { program := "ythkigilegnjglaa", sum := "830fed778214b350779a4702744ff89bbb673202bf1e38e23bd96791f737f9dd", func := "loop.example/g03009/laws.FnExactSideFor", spec := "fnExactSideFor", unfollowed := true, recurses := true, plainKeys := false, apart := false, narrowed := true }
def FnExactSideForUptoSaid : Prop := fnExactSideForUptoRow.holds Try.pinned (OpenSpec.upto fnExactSideForSpec)

/-- 'laws.FnExactAddResult', WHERE WHAT IT READS IS OF BULK AT MOST 1048576: true; the input reads as it did. -/
def fnExactAddResultUptoRow : OpenClaim := { program := "ythkigilegnjglaa", sum := "830fed778214b350779a4702744ff89bbb673202bf1e38e23bd96791f737f9dd", func := "loop.example/g03009/laws.FnExactAddResult", spec := "fnExactAddResult", unfollowed := true, recurses := true, plainKeys := false, apart := false, narrowed := true }
def FnExactAddResultUptoSaid : Prop := fnExactAddResultUptoRow.holds Try.pinned (OpenSpec.upto fnExactAddResultSpec)

/-- 'laws.FnExactStanding', WHERE WHAT IT READS IS OF BULK AT MOST 1048576: true; the input reads as it did. -/
def fnExactStandingUptoRow : OpenClaim := { program := "ythkigilegnjglaa", sum := "830fed778214b350779a4702744ff89bbb673202bf1e38e23bd96791f737f9dd", func := "loop.example/g03009/laws.FnExactStanding", spec := "fnExactStanding", unfollowed := true, recurses := true, plainKeys := false, apart := false, narrowed := true }
def FnExactStandingUptoSaid : Prop := fnExactStandingUptoRow.holds Try.pinned (OpenSpec.upto fnExactStandingSpec)

/-- 'laws.FnExactPairRound', WHERE WHAT IT READS IS OF BULK AT MOST 1048576: true; the input reads as it did. -/
def fnExactPairRoundUptoRow : OpenClaim := { program := "ythkigilegnjglaa", sum := "830fed778214b350779a4702744ff89bbb673202bf1e38e23bd96791f737f9dd", func := "loop.example/g03009/laws.FnExactPairRound", spec := "fnExactPairRound", unfollowed := true, recurses := true, plainKeys := false, apart := false, narrowed := true }
def FnExactPairRoundUptoSaid : Prop := fnExactPairRoundUptoRow.holds Try.pinned (OpenSpec.upto fnExactPairRoundSpec)

/-- 'laws.FnExactIsRound', WHERE WHAT IT READS IS OF BULK AT MOST 1048576: true; the input reads as it did. -/
def fnExactIsRoundUptoRow : OpenClaim := { program := "ythkigilegnjglaa", sum := "830fed778214b350779a4702744ff89bbb673202bf1e38e23bd96791f737f9dd", func := "loop.example/g03009/laws.FnExactIsRound", spec := "fnExactIsRound", unfollowed := true, recurses := true, plainKeys := false, apart := false, narrowed := true }
def FnExactIsRoundUptoSaid : Prop := fnExactIsRoundUptoRow.holds Try.pinned (OpenSpec.upto fnExactIsRoundSpec)

/-- 'laws.FnExactSideGap', WHERE WHAT IT READS IS OF BULK AT MOST 1048576: true; the input reads as it did. -/
def fnExactSideGapUptoRow : OpenClaim := { program := "ythkigilegnjglaa", sum := "830fed778214b350779a4702744ff89bbb673202bf1e38e23bd96791f737f9dd", func := "loop.example/g03009/laws.FnExactSideGap", spec := "fnExactSideGap", unfollowed := true, recurses := true, plainKeys := false, apart := false, narrowed := true }
def FnExactSideGapUptoSaid : Prop := fnExactSideGapUptoRow.holds Try.pinned (OpenSpec.upto fnExactSideGapSpec)

/-- 'laws.FnExactSeatJudges', WHERE WHAT IT READS IS OF BULK AT MOST 1048576: true; the input reads as it did. -/
def fnExactSeatJudgesUptoRow : OpenClaim := { program := "ythkigilegnjglaa", sum := "830fed778214b350779a4702744ff89bbb673202bf1e38e23bd96791f737f9dd", func := "loop.example/g03009/laws.FnExactSeatJudges", spec := "fnExactSeatJudges", unfollowed := true, recurses := true, plainKeys := false, apart := false, narrowed := true }
def FnExactSeatJudgesUptoSaid : Prop := fnExactSeatJudgesUptoRow.holds Try.pinned (OpenSpec.upto fnExactSeatJudgesSpec)

/-- 'laws.FnExactAreSeated', WHERE WHAT IT READS IS OF BULK AT MOST 1048576: true; the input reads as it did. -/
def fnExactAreSeatedUptoRow : OpenClaim := { program := "ythkigilegnjglaa", sum := "830fed778214b350779a4702744ff89bbb673202bf1e38e23bd96791f737f9dd", func := "loop.example/g03009/laws.FnExactAreSeated", spec := "fnExactAreSeated", unfollowed := true, recurses := true, plainKeys := false, apart := false, narrowed := true }
def FnExactAreSeatedUptoSaid : Prop := fnExactAreSeatedUptoRow.holds Try.pinned (OpenSpec.upto fnExactAreSeatedSpec)

end Rows
end Go.Proofs.Ythkigilegnjglaa
