/-
  No cell of these rows narrows 'for every input' (looked for: loops, veiled, ifaces, maps, wideKeys, modest, calm, conditions, laid).
  DERIVED. THE GIVEN ROWS OF THIS SEAT. 12 by the template 'for every input the law returns true; each argument reads behind the call as it read before'; 0 by the template 'total and deterministic' (their statements: YtjjgdeojbpcjjaaTotals.lean).
  GIVEN WITH THE SEED: the statements are not yours to turn. If you find one false, say at which input.
  Laid BY PROGRAM, IN A SANDBOX (cutbox-rows.mjs): the forced cells as the released guide's own fill.sh prints them over the translation bf86e5f0e2b62d66… (all of the seat's roots in one cut). By AI agents, Wed Nov 11 2026. No macro, syntax, notation, axiom, sorry.
-/
import Derived.Test.YtjjgdeojbpcjjaaChecked
import GoSem.Claim
import GoSem.ClaimJoined
import GoSem.ClaimMapViews
import Derived.JoinedTies
import Derived.KernelRfl
namespace Go.Proofs.Ytjjgdeojbpcjjaa
/- THE CELL 'sum', in the pinned program and in every row, IS THE sha256 OF THE DUMP (.gsa) THAT YtjjgdeojbpcjjaaProg.lean LOADS. Nothing in Lean hashes anything: it is a label: what it is worth is what the hold of that sum in a sandbox is worth. -/
noncomputable def Try.pinned : Pinned := { name := "ytjjgdeojbpcjjaa", sum := "bf86e5f0e2b62d669c2a5c42b0e40c9d9d8111f5d0e9764a842737208bc47530", checked := Try.checked }
namespace Rows
def none {H : Type} : Left H := { results := [], args := [] }

/-- 'laws.FnExactPairWinner': WHATEVER THE INPUT: true; the input reads as it did. -/
def fnExactPairWinnerSpec : ChangeSpec := { name := "fnExactPairWinner", fn := fun _ => fun
  | [d1, d2] => { results := [.lit (.bool true)], args := [d1, d2] }
  | _ => none }
def fnExactPairWinnerRow : OpenClaim := { program := "ytjjgdeojbpcjjaa", sum := "bf86e5f0e2b62d669c2a5c42b0e40c9d9d8111f5d0e9764a842737208bc47530", func := "loop.example/g03009/laws.FnExactPairWinner", spec := "fnExactPairWinner", plainKeys := false, apart := false }
def FnExactPairWinnerSaid : Prop := fnExactPairWinnerRow.holds Try.pinned (OpenSpec.ofChange fnExactPairWinnerSpec)

/-- ITS FALSE NEIGHBOUR: 'it returns false'. Refute it at one input. -/
def fnExactPairWinnerWrong : ChangeSpec := { name := "fnExactPairWinner", fn := fun _ => fun
  | [d1, d2] => { results := [.lit (.bool false)], args := [d1, d2] }
  | _ => none }
def FnExactPairWinnerWrongFalsely : Prop := fnExactPairWinnerRow.holds Try.pinned (OpenSpec.ofChange fnExactPairWinnerWrong)

/-- 'laws.FnExactPlacePoints': WHATEVER THE INPUT: true; the input reads as it did. -/
def fnExactPlacePointsSpec : ChangeSpec := { name := "fnExactPlacePoints", fn := fun _ => fun
  | [d1, d2] => { results := [.lit (.bool true)], args := [d1, d2] }
  | _ => none }
def fnExactPlacePointsRow : OpenClaim := { program := "ytjjgdeojbpcjjaa", sum := "bf86e5f0e2b62d669c2a5c42b0e40c9d9d8111f5d0e9764a842737208bc47530", func := "loop.example/g03009/laws.FnExactPlacePoints", spec := "fnExactPlacePoints", plainKeys := false, apart := false }
def FnExactPlacePointsSaid : Prop := fnExactPlacePointsRow.holds Try.pinned (OpenSpec.ofChange fnExactPlacePointsSpec)

/-- ITS FALSE NEIGHBOUR: 'it returns false'. Refute it at one input. -/
def fnExactPlacePointsWrong : ChangeSpec := { name := "fnExactPlacePoints", fn := fun _ => fun
  | [d1, d2] => { results := [.lit (.bool false)], args := [d1, d2] }
  | _ => none }
def FnExactPlacePointsWrongFalsely : Prop := fnExactPlacePointsRow.holds Try.pinned (OpenSpec.ofChange fnExactPlacePointsWrong)

/-- 'laws.FnExactRunOff': WHATEVER THE INPUT: true; the input reads as it did. -/
def fnExactRunOffSpec : ChangeSpec := { name := "fnExactRunOff", fn := fun _ => fun
  | [d1, d2] => { results := [.lit (.bool true)], args := [d1, d2] }
  | _ => none }
def fnExactRunOffRow : OpenClaim := { program := "ytjjgdeojbpcjjaa", sum := "bf86e5f0e2b62d669c2a5c42b0e40c9d9d8111f5d0e9764a842737208bc47530", func := "loop.example/g03009/laws.FnExactRunOff", spec := "fnExactRunOff", unfollowed := true, recurses := true, plainKeys := false, apart := false }
def FnExactRunOffSaid : Prop := fnExactRunOffRow.holds Try.pinned (OpenSpec.ofChange fnExactRunOffSpec)

/-- ITS FALSE NEIGHBOUR: 'it returns false'. Refute it at one input. -/
def fnExactRunOffWrong : ChangeSpec := { name := "fnExactRunOff", fn := fun _ => fun
  | [d1, d2] => { results := [.lit (.bool false)], args := [d1, d2] }
  | _ => none }
def FnExactRunOffWrongFalsely : Prop := fnExactRunOffRow.holds Try.pinned (OpenSpec.ofChange fnExactRunOffWrong)

/-- 'laws.FnExactHallWinner': WHATEVER THE INPUT: true; the input reads as it did. -/
def fnExactHallWinnerSpec : ChangeSpec := { name := "fnExactHallWinner", fn := fun _ => fun
  | [d] => { results := [.lit (.bool true)], args := [d] }
  | _ => none }
def fnExactHallWinnerRow : OpenClaim := { program := "ytjjgdeojbpcjjaa", sum := "bf86e5f0e2b62d669c2a5c42b0e40c9d9d8111f5d0e9764a842737208bc47530", func := "loop.example/g03009/laws.FnExactHallWinner", spec := "fnExactHallWinner", unfollowed := true, recurses := true, plainKeys := false, apart := false }
def FnExactHallWinnerSaid : Prop := fnExactHallWinnerRow.holds Try.pinned (OpenSpec.ofChange fnExactHallWinnerSpec)

/-- ITS FALSE NEIGHBOUR: 'it returns false'. Refute it at one input. -/
def fnExactHallWinnerWrong : ChangeSpec := { name := "fnExactHallWinner", fn := fun _ => fun
  | [d] => { results := [.lit (.bool false)], args := [d] }
  | _ => none }
def FnExactHallWinnerWrongFalsely : Prop := fnExactHallWinnerRow.holds Try.pinned (OpenSpec.ofChange fnExactHallWinnerWrong)

/-- 'laws.FnExactAreTeams': WHATEVER THE INPUT: true; the input reads as it did. -/
def fnExactAreTeamsSpec : ChangeSpec := { name := "fnExactAreTeams", fn := fun _ => fun
  | [d] => { results := [.lit (.bool true)], args := [d] }
  | _ => none }
def fnExactAreTeamsRow : OpenClaim := { program := "ytjjgdeojbpcjjaa", sum := "bf86e5f0e2b62d669c2a5c42b0e40c9d9d8111f5d0e9764a842737208bc47530", func := "loop.example/g03009/laws.FnExactAreTeams", spec := "fnExactAreTeams", unfollowed := true, recurses := true, plainKeys := false, apart := false }
def FnExactAreTeamsSaid : Prop := fnExactAreTeamsRow.holds Try.pinned (OpenSpec.ofChange fnExactAreTeamsSpec)

/-- ITS FALSE NEIGHBOUR: 'it returns false'. Refute it at one input. -/
def fnExactAreTeamsWrong : ChangeSpec := { name := "fnExactAreTeams", fn := fun _ => fun
  | [d] => { results := [.lit (.bool false)], args := [d] }
  | _ => none }
def FnExactAreTeamsWrongFalsely : Prop := fnExactAreTeamsRow.holds Try.pinned (OpenSpec.ofChange fnExactAreTeamsWrong)

/-- 'laws.FnExactTotalWins': WHATEVER THE INPUT: true; the input reads as it did. -/
def fnExactTotalWinsSpec : ChangeSpec := { name := "fnExactTotalWins", fn := fun _ => fun
  | [d] => { results := [.lit (.bool true)], args := [d] }
  | _ => none }
def fnExactTotalWinsRow : OpenClaim := { program := "ytjjgdeojbpcjjaa", sum := "bf86e5f0e2b62d669c2a5c42b0e40c9d9d8111f5d0e9764a842737208bc47530", func := "loop.example/g03009/laws.FnExactTotalWins", spec := "fnExactTotalWins", unfollowed := true, recurses := true, plainKeys := false, apart := false }
def FnExactTotalWinsSaid : Prop := fnExactTotalWinsRow.holds Try.pinned (OpenSpec.ofChange fnExactTotalWinsSpec)

/-- ITS FALSE NEIGHBOUR: 'it returns false'. Refute it at one input. -/
def fnExactTotalWinsWrong : ChangeSpec := { name := "fnExactTotalWins", fn := fun _ => fun
  | [d] => { results := [.lit (.bool false)], args := [d] }
  | _ => none }
def FnExactTotalWinsWrongFalsely : Prop := fnExactTotalWinsRow.holds Try.pinned (OpenSpec.ofChange fnExactTotalWinsWrong)

/-- 'laws.FnExactMayMeet': WHATEVER THE INPUT: true; the input reads as it did. -/
def fnExactMayMeetSpec : ChangeSpec := { name := "fnExactMayMeet", fn := fun _ => fun
  | [d1, d2, d3] => { results := [.lit (.bool true)], args := [d1, d2, d3] }
  | _ => none }
def fnExactMayMeetRow : OpenClaim := { program := "ytjjgdeojbpcjjaa", sum := "bf86e5f0e2b62d669c2a5c42b0e40c9d9d8111f5d0e9764a842737208bc47530", func := "loop.example/g03009/laws.FnExactMayMeet", spec := "fnExactMayMeet", unfollowed := true, recurses := true, plainKeys := false, apart := false }
def FnExactMayMeetSaid : Prop := fnExactMayMeetRow.holds Try.pinned (OpenSpec.ofChange fnExactMayMeetSpec)

/-- ITS FALSE NEIGHBOUR: 'it returns false'. Refute it at one input. -/
def fnExactMayMeetWrong : ChangeSpec := { name := "fnExactMayMeet", fn := fun _ => fun
  | [d1, d2, d3] => { results := [.lit (.bool false)], args := [d1, d2, d3] }
  | _ => none }
def FnExactMayMeetWrongFalsely : Prop := fnExactMayMeetRow.holds Try.pinned (OpenSpec.ofChange fnExactMayMeetWrong)

/-- 'laws.FnExactSideFor': WHATEVER THE INPUT: true; the input reads as it did. -/
def fnExactSideForSpec : ChangeSpec := { name := "fnExactSideFor", fn := fun _ => fun
  | [d1, d2, d3] => { results := [.lit (.bool true)], args := [d1, d2, d3] }
  | _ => none }
def fnExactSideForRow : OpenClaim := { program := "ytjjgdeojbpcjjaa", sum := "bf86e5f0e2b62d669c2a5c42b0e40c9d9d8111f5d0e9764a842737208bc47530", func := "loop.example/g03009/laws.FnExactSideFor", spec := "fnExactSideFor", unfollowed := true, recurses := true, plainKeys := false, apart := false }
def FnExactSideForSaid : Prop := fnExactSideForRow.holds Try.pinned (OpenSpec.ofChange fnExactSideForSpec)

/-- ITS FALSE NEIGHBOUR: 'it returns false'. Refute it at one input. -/
def fnExactSideForWrong : ChangeSpec := { name := "fnExactSideFor", fn := fun _ => fun
  | [d1, d2, d3] => { results := [.lit (.bool false)], args := [d1, d2, d3] }
  | _ => none }
def FnExactSideForWrongFalsely : Prop := fnExactSideForRow.holds Try.pinned (OpenSpec.ofChange fnExactSideForWrong)

/-- 'laws.FnExactAreJudges': WHATEVER THE INPUT: true; the input reads as it did. -/
def fnExactAreJudgesSpec : ChangeSpec := { name := "fnExactAreJudges", fn := fun _ => fun
  | [d] => { results := [.lit (.bool true)], args := [d] }
  | _ => none }
def fnExactAreJudgesRow : OpenClaim := { program := "ytjjgdeojbpcjjaa", sum := "bf86e5f0e2b62d669c2a5c42b0e40c9d9d8111f5d0e9764a842737208bc47530", func := "loop.example/g03009/laws.FnExactAreJudges", spec := "fnExactAreJudges", unfollowed := true, recurses := true, plainKeys := false, apart := false }
def FnExactAreJudgesSaid : Prop := fnExactAreJudgesRow.holds Try.pinned (OpenSpec.ofChange fnExactAreJudgesSpec)

/-- ITS FALSE NEIGHBOUR: 'it returns false'. Refute it at one input. -/
def fnExactAreJudgesWrong : ChangeSpec := { name := "fnExactAreJudges", fn := fun _ => fun
  | [d] => { results := [.lit (.bool false)], args := [d] }
  | _ => none }
def FnExactAreJudgesWrongFalsely : Prop := fnExactAreJudgesRow.holds Try.pinned (OpenSpec.ofChange fnExactAreJudgesWrong)

/-- 'laws.FnExactMayJudge': WHATEVER THE INPUT: true; the input reads as it did. -/
def fnExactMayJudgeSpec : ChangeSpec := { name := "fnExactMayJudge", fn := fun _ => fun
  | [d1, d2, d3] => { results := [.lit (.bool true)], args := [d1, d2, d3] }
  | _ => none }
def fnExactMayJudgeRow : OpenClaim := { program := "ytjjgdeojbpcjjaa", sum := "bf86e5f0e2b62d669c2a5c42b0e40c9d9d8111f5d0e9764a842737208bc47530", func := "loop.example/g03009/laws.FnExactMayJudge", spec := "fnExactMayJudge", unfollowed := true, recurses := true, plainKeys := false, apart := false }
def FnExactMayJudgeSaid : Prop := fnExactMayJudgeRow.holds Try.pinned (OpenSpec.ofChange fnExactMayJudgeSpec)

/-- ITS FALSE NEIGHBOUR: 'it returns false'. Refute it at one input. -/
def fnExactMayJudgeWrong : ChangeSpec := { name := "fnExactMayJudge", fn := fun _ => fun
  | [d1, d2, d3] => { results := [.lit (.bool false)], args := [d1, d2, d3] }
  | _ => none }
def FnExactMayJudgeWrongFalsely : Prop := fnExactMayJudgeRow.holds Try.pinned (OpenSpec.ofChange fnExactMayJudgeWrong)

/-- 'laws.FnExactLargestRoom': WHATEVER THE INPUT: true; the input reads as it did. -/
def fnExactLargestRoomSpec : ChangeSpec := { name := "fnExactLargestRoom", fn := fun _ => fun
  | [d] => { results := [.lit (.bool true)], args := [d] }
  | _ => none }
def fnExactLargestRoomRow : OpenClaim := { program := "ytjjgdeojbpcjjaa", sum := "bf86e5f0e2b62d669c2a5c42b0e40c9d9d8111f5d0e9764a842737208bc47530", func := "loop.example/g03009/laws.FnExactLargestRoom", spec := "fnExactLargestRoom", unfollowed := true, recurses := true, plainKeys := false, apart := false }
def FnExactLargestRoomSaid : Prop := fnExactLargestRoomRow.holds Try.pinned (OpenSpec.ofChange fnExactLargestRoomSpec)

/-- ITS FALSE NEIGHBOUR: 'it returns false'. Refute it at one input. -/
def fnExactLargestRoomWrong : ChangeSpec := { name := "fnExactLargestRoom", fn := fun _ => fun
  | [d] => { results := [.lit (.bool false)], args := [d] }
  | _ => none }
def FnExactLargestRoomWrongFalsely : Prop := fnExactLargestRoomRow.holds Try.pinned (OpenSpec.ofChange fnExactLargestRoomWrong)

/-- 'laws.FnExactTurnedAway': WHATEVER THE INPUT: true; the input reads as it did. -/
def fnExactTurnedAwaySpec : ChangeSpec := { name := "fnExactTurnedAway", fn := fun _ => fun
  | [d1, d2, d3] => { results := [.lit (.bool true)], args := [d1, d2, d3] }
  | _ => none }
def fnExactTurnedAwayRow : OpenClaim := { program := "ytjjgdeojbpcjjaa", sum := "bf86e5f0e2b62d669c2a5c42b0e40c9d9d8111f5d0e9764a842737208bc47530", func := "loop.example/g03009/laws.FnExactTurnedAway", spec := "fnExactTurnedAway", unfollowed := true, recurses := true, plainKeys := false, apart := false }
def FnExactTurnedAwaySaid : Prop := fnExactTurnedAwayRow.holds Try.pinned (OpenSpec.ofChange fnExactTurnedAwaySpec)

/-- ITS FALSE NEIGHBOUR: 'it returns false'. Refute it at one input. -/
def fnExactTurnedAwayWrong : ChangeSpec := { name := "fnExactTurnedAway", fn := fun _ => fun
  | [d1, d2, d3] => { results := [.lit (.bool false)], args := [d1, d2, d3] }
  | _ => none }
def FnExactTurnedAwayWrongFalsely : Prop := fnExactTurnedAwayRow.holds Try.pinned (OpenSpec.ofChange fnExactTurnedAwayWrong)

/- THE SECOND FORM. 'bulk': how many values and letters a reading holds, each counted each time it is reached (what is shared counts as often as it is met; a slice's spare places count too). A statement '..UptoSaid' is the law's where the arguments, and the package variables that the reading takes, are together of bulk at most 1048576: NARROWER than '..Said'. Prove '..Said' where nothing that the law and all that it calls make is longer than what came in: it says more and counts as full. Else prove '..UptoSaid'. A law counts once. -/
mutual
def uptoBulk {H : Type} : DataW H → Nat
  | .lit (.string bytes) => bytes.length + 1
  | .lit _ => 1
  | .nil => 1
  | .ptr d => uptoBulk d + 1
  | .slice elems spare => uptoBulkAll elems + uptoBulkAll spare + 1
  | .agg parts => uptoBulkAll parts + 1
  | .iface _ d => uptoBulk d + 1
  | .map entries => uptoBulkEntries entries + 1
  | .held _ => 1
def uptoBulkAll {H : Type} : List (DataW H) → Nat
  | [] => 0
  | d :: r => uptoBulk d + uptoBulkAll r
def uptoBulkEntries {H : Type} : List (Lit × DataW H) → Nat
  | [] => 0
  | x :: r => uptoBulkEntry x + uptoBulkEntries r
def uptoBulkEntry {H : Type} : Lit × DataW H → Nat
  | (.string bytes, d) => bytes.length + uptoBulk d + 1
  | (_, d) => uptoBulk d + 1
 end
def uptoSmall : (H : Type) → List (DataW H) → Bool := fun _ ds => decide (uptoBulkAll ds ≤ 1048576)
def OpenSpec.upto (s : _root_.Go.ChangeSpec) : _root_.Go.OpenSpec := { _root_.Go.OpenSpec.ofChange s with cond := some uptoSmall }

/-- 'laws.FnExactPairWinner', WHERE WHAT IT READS IS OF BULK AT MOST 1048576: true; the input reads as it did. -/
def fnExactPairWinnerUptoRow : OpenClaim := { program := "ytjjgdeojbpcjjaa", sum := "bf86e5f0e2b62d669c2a5c42b0e40c9d9d8111f5d0e9764a842737208bc47530", func := "loop.example/g03009/laws.FnExactPairWinner", spec := "fnExactPairWinner", plainKeys := false, apart := false, narrowed := true }
def FnExactPairWinnerUptoSaid : Prop := fnExactPairWinnerUptoRow.holds Try.pinned (OpenSpec.upto fnExactPairWinnerSpec)

/-- 'laws.FnExactPlacePoints', WHERE WHAT IT READS IS OF BULK AT MOST 1048576: true; the input reads as it did. -/
def fnExactPlacePointsUptoRow : OpenClaim := { program := "ytjjgdeojbpcjjaa", sum := "bf86e5f0e2b62d669c2a5c42b0e40c9d9d8111f5d0e9764a842737208bc47530", func := "loop.example/g03009/laws.FnExactPlacePoints", spec := "fnExactPlacePoints", plainKeys := false, apart := false, narrowed := true }
def FnExactPlacePointsUptoSaid : Prop := fnExactPlacePointsUptoRow.holds Try.pinned (OpenSpec.upto fnExactPlacePointsSpec)

/-- 'laws.FnExactRunOff', WHERE WHAT IT READS IS OF BULK AT MOST 1048576: true; the input reads as it did. -/
def fnExactRunOffUptoRow : OpenClaim := { program := "ytjjgdeojbpcjjaa", sum := "bf86e5f0e2b62d669c2a5c42b0e40c9d9d8111f5d0e9764a842737208bc47530", func := "loop.example/g03009/laws.FnExactRunOff", spec := "fnExactRunOff", unfollowed := true, recurses := true, plainKeys := false, apart := false, narrowed := true }
def FnExactRunOffUptoSaid : Prop := fnExactRunOffUptoRow.holds Try.pinned (OpenSpec.upto fnExactRunOffSpec)

/-- 'laws.FnExactHallWinner', WHERE WHAT IT READS IS OF BULK AT MOST 1048576: true; the input reads as it did. -/
def fnExactHallWinnerUptoRow : OpenClaim := { program := "ytjjgdeojbpcjjaa", sum := "bf86e5f0e2b62d669c2a5c42b0e40c9d9d8111f5d0e9764a842737208bc47530", func := "loop.example/g03009/laws.FnExactHallWinner", spec := "fnExactHallWinner", unfollowed := true, recurses := true, plainKeys := false, apart := false, narrowed := true }
def FnExactHallWinnerUptoSaid : Prop := fnExactHallWinnerUptoRow.holds Try.pinned (OpenSpec.upto fnExactHallWinnerSpec)

/-- 'laws.FnExactAreTeams', WHERE WHAT IT READS IS OF BULK AT MOST 1048576: true; the input reads as it did. -/
def fnExactAreTeamsUptoRow : OpenClaim := { program := "ytjjgdeojbpcjjaa", sum := "bf86e5f0e2b62d669c2a5c42b0e40c9d9d8111f5d0e9764a842737208bc47530", func := "loop.example/g03009/laws.FnExactAreTeams", spec := "fnExactAreTeams", unfollowed := true, recurses := true, plainKeys := false, apart := false, narrowed := true }
def FnExactAreTeamsUptoSaid : Prop := fnExactAreTeamsUptoRow.holds Try.pinned (OpenSpec.upto fnExactAreTeamsSpec)

/-- 'laws.FnExactTotalWins', WHERE WHAT IT READS IS OF BULK AT MOST 1048576: true; the input reads as it did. -/
def fnExactTotalWinsUptoRow : OpenClaim := { program := "ytjjgdeojbpcjjaa", sum := "bf86e5f0e2b62d669c2a5c42b0e40c9d9d8111f5d0e9764a842737208bc47530", func := "loop.example/g03009/laws.FnExactTotalWins", spec := "fnExactTotalWins", unfollowed := true, recurses := true, plainKeys := false, apart := false, narrowed := true }
def FnExactTotalWinsUptoSaid : Prop := fnExactTotalWinsUptoRow.holds Try.pinned (OpenSpec.upto fnExactTotalWinsSpec)

/-- 'laws.FnExactMayMeet', WHERE WHAT IT READS IS OF BULK AT MOST 1048576: true; the input reads as it did. -/
def fnExactMayMeetUptoRow : OpenClaim := { program := "ytjjgdeojbpcjjaa", sum := "bf86e5f0e2b62d669c2a5c42b0e40c9d9d8111f5d0e9764a842737208bc47530", func := "loop.example/g03009/laws.FnExactMayMeet", spec := "fnExactMayMeet", unfollowed := true, recurses := true, plainKeys := false, apart := false, narrowed := true }
def FnExactMayMeetUptoSaid : Prop := fnExactMayMeetUptoRow.holds Try.pinned (OpenSpec.upto fnExactMayMeetSpec)

/-- 'laws.FnExactSideFor', WHERE WHAT IT READS IS OF BULK AT MOST 1048576: true; the input reads as it did. -/
def fnExactSideForUptoRow : OpenClaim := { program := "ytjjgdeojbpcjjaa", sum := "bf86e5f0e2b62d669c2a5c42b0e40c9d9d8111f5d0e9764a842737208bc47530", func := "loop.example/g03009/laws.FnExactSideFor", spec := "fnExactSideFor", unfollowed := true, recurses := true, plainKeys := false, apart := false, narrowed := true }
def FnExactSideForUptoSaid : Prop := fnExactSideForUptoRow.holds Try.pinned (OpenSpec.upto fnExactSideForSpec)

/-- 'laws.FnExactAreJudges', WHERE WHAT IT READS IS OF BULK AT MOST 1048576: true; the input reads as it did. -/
def fnExactAreJudgesUptoRow : OpenClaim := { program := "ytjjgdeojbpcjjaa", sum := "bf86e5f0e2b62d669c2a5c42b0e40c9d9d8111f5d0e9764a842737208bc47530", func := "loop.example/g03009/laws.FnExactAreJudges", spec := "fnExactAreJudges", unfollowed := true, recurses := true, plainKeys := false, apart := false, narrowed := true }
def FnExactAreJudgesUptoSaid : Prop := fnExactAreJudgesUptoRow.holds Try.pinned (OpenSpec.upto fnExactAreJudgesSpec)

/-- 'laws.FnExactMayJudge', WHERE WHAT IT READS IS OF BULK AT MOST 1048576: true; the input reads as it did. -/
def fnExactMayJudgeUptoRow : OpenClaim := { program := "ytjjgdeojbpcjjaa", sum := "bf86e5f0e2b62d669c2a5c42b0e40c9d9d8111f5d0e9764a842737208bc47530", func := "loop.example/g03009/laws.FnExactMayJudge", spec := "fnExactMayJudge", unfollowed := true, recurses := true, plainKeys := false, apart := false, narrowed := true }
def FnExactMayJudgeUptoSaid : Prop := fnExactMayJudgeUptoRow.holds Try.pinned (OpenSpec.upto fnExactMayJudgeSpec)

/-- 'laws.FnExactLargestRoom', WHERE WHAT IT READS IS OF BULK AT MOST 1048576: true; the input reads as it did. -/
def fnExactLargestRoomUptoRow : OpenClaim := { program := "ytjjgdeojbpcjjaa", sum := "bf86e5f0e2b62d669c2a5c42b0e40c9d9d8111f5d0e9764a842737208bc47530", func := "loop.example/g03009/laws.FnExactLargestRoom", spec := "fnExactLargestRoom", unfollowed := true, recurses := true, plainKeys := false, apart := false, narrowed := true }
def FnExactLargestRoomUptoSaid : Prop := fnExactLargestRoomUptoRow.holds Try.pinned (OpenSpec.upto fnExactLargestRoomSpec)

/-- 'laws.FnExactTurnedAway', WHERE WHAT IT READS IS OF BULK AT MOST 1048576: true; the input reads as it did. -/
def fnExactTurnedAwayUptoRow : OpenClaim := { program := "ytjjgdeojbpcjjaa", sum := "bf86e5f0e2b62d669c2a5c42b0e40c9d9d8111f5d0e9764a842737208bc47530", func := "loop.example/g03009/laws.FnExactTurnedAway", spec := "fnExactTurnedAway", unfollowed := true, recurses := true, plainKeys := false, apart := false, narrowed := true }
def FnExactTurnedAwayUptoSaid : Prop := fnExactTurnedAwayUptoRow.holds Try.pinned (OpenSpec.upto fnExactTurnedAwaySpec)

end Rows
end Go.Proofs.Ytjjgdeojbpcjjaa
