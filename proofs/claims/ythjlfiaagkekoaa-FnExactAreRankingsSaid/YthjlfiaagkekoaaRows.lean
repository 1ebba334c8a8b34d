/-
  No cell of these rows narrows 'for every input' (looked for: loops, veiled, ifaces, maps, wideKeys, modest, calm, conditions, laid).
  DERIVED. THE GIVEN ROWS OF THIS SEAT. 12 by the template 'for every input the law returns true; each argument reads behind the call as it read before'; 0 by the template 'total and deterministic' (their statements: YthjlfiaagkekoaaTotals.lean).
  GIVEN WITH THE SEED: the statements are not yours to turn. If you find one false, say at which input.
  Laid BY PROGRAM, IN A SANDBOX (cutbox-rows.mjs): the forced cells as the released guide's own fill.sh prints them over the translation ea751617a271b39a… (all of the seat's roots in one cut). By AI agents, Wed Nov 11 2026. No macro, syntax, notation, axiom, sorry.
-/
import Derived.Test.YthjlfiaagkekoaaChecked
import GoSem.Claim
import GoSem.ClaimJoined
import GoSem.ClaimMapViews
import Derived.JoinedTies
import Derived.KernelRfl
namespace Go.Proofs.Ythjlfiaagkekoaa
/- THE CELL 'sum', in the pinned program and in every row, IS THE sha256 OF THE DUMP (.gsa) THAT YthjlfiaagkekoaaProg.lean LOADS. Nothing in Lean hashes anything: it is a label: what it is worth is what the hold of that sum in a sandbox is worth. -/
noncomputable def Try.pinned : Pinned := { name := "ythjlfiaagkekoaa", sum := "ea751617a271b39af086c15cbd7859762a1efc70c3531baf93f66fdfe9f67226", checked := Try.checked }
namespace Rows
def none {H : Type} : Left H := { results := [], args := [] }

/-- 'laws.FnExactIsRanking': WHATEVER THE INPUT: true; the input reads as it did. -/
def fnExactIsRankingSpec : ChangeSpec := { name := "fnExactIsRanking", fn := fun _ => fun
  | [d1, d2] => { results := [.lit (.bool true)], args := [d1, d2] }
  | _ => none }
def fnExactIsRankingRow : OpenClaim := { program := "ythjlfiaagkekoaa", sum := "ea751617a271b39af086c15cbd7859762a1efc70c3531baf93f66fdfe9f67226", func := "loop.example/g03009/laws.FnExactIsRanking", spec := "fnExactIsRanking", apart := false }
def FnExactIsRankingSaid : Prop := fnExactIsRankingRow.holds Try.pinned (OpenSpec.ofChange fnExactIsRankingSpec)

/-- ITS FALSE NEIGHBOUR: 'it returns false'. Refute it at one input. -/
def fnExactIsRankingWrong : ChangeSpec := { name := "fnExactIsRanking", fn := fun _ => fun
  | [d1, d2] => { results := [.lit (.bool false)], args := [d1, d2] }
  | _ => none }
def FnExactIsRankingWrongFalsely : Prop := fnExactIsRankingRow.holds Try.pinned (OpenSpec.ofChange fnExactIsRankingWrong)

/-- 'laws.FnExactAreRankings': WHATEVER THE INPUT: true; the input reads as it did. -/
def fnExactAreRankingsSpec : ChangeSpec := { name := "fnExactAreRankings", fn := fun _ => fun
  | [d1, d2] => { results := [.lit (.bool true)], args := [d1, d2] }
  | _ => none }
def fnExactAreRankingsRow : OpenClaim := { program := "ythjlfiaagkekoaa", sum := "ea751617a271b39af086c15cbd7859762a1efc70c3531baf93f66fdfe9f67226", func := "loop.example/g03009/laws.FnExactAreRankings", spec := "fnExactAreRankings", apart := false }
def FnExactAreRankingsSaid : Prop := fnExactAreRankingsRow.holds Try.pinned (OpenSpec.ofChange fnExactAreRankingsSpec)

/-- ITS FALSE NEIGHBOUR: 'it returns false'. Refute it at one input. -/
def fnExactAreRankingsWrong : ChangeSpec := { name := "fnExactAreRankings", fn := fun _ => fun
  | [d1, d2] => { results := [.lit (.bool false)], args := [d1, d2] }
  | _ => none }
def FnExactAreRankingsWrongFalsely : Prop := fnExactAreRankingsRow.holds Try.pinned (OpenSpec.ofChange fnExactAreRankingsWrong)

/-- 'laws.FnExactPrefer': WHATEVER THE INPUT: true; the input reads as it did. -/
def fnExactPreferSpec : ChangeSpec := { name := "fnExactPrefer", fn := fun _ => fun
  | [d1, d2, d3] => { results := [.lit (.bool true)], args := [d1, d2, d3] }
  | _ => none }
def fnExactPreferRow : OpenClaim := { program := "ythjlfiaagkekoaa", sum := "ea751617a271b39af086c15cbd7859762a1efc70c3531baf93f66fdfe9f67226", func := "loop.example/g03009/laws.FnExactPrefer", spec := "fnExactPrefer", apart := false }
def FnExactPreferSaid : Prop := fnExactPreferRow.holds Try.pinned (OpenSpec.ofChange fnExactPreferSpec)

/-- ITS FALSE NEIGHBOUR: 'it returns false'. Refute it at one input. -/
def fnExactPreferWrong : ChangeSpec := { name := "fnExactPrefer", fn := fun _ => fun
  | [d1, d2, d3] => { results := [.lit (.bool false)], args := [d1, d2, d3] }
  | _ => none }
def FnExactPreferWrongFalsely : Prop := fnExactPreferRow.holds Try.pinned (OpenSpec.ofChange fnExactPreferWrong)

/-- 'laws.FnExactAreHearers': WHATEVER THE INPUT: true; the input reads as it did. -/
def fnExactAreHearersSpec : ChangeSpec := { name := "fnExactAreHearers", fn := fun _ => fun
  | [d] => { results := [.lit (.bool true)], args := [d] }
  | _ => none }
def fnExactAreHearersRow : OpenClaim := { program := "ythjlfiaagkekoaa", sum := "ea751617a271b39af086c15cbd7859762a1efc70c3531baf93f66fdfe9f67226", func := "loop.example/g03009/laws.FnExactAreHearers", spec := "fnExactAreHearers", apart := false }
def FnExactAreHearersSaid : Prop := fnExactAreHearersRow.holds Try.pinned (OpenSpec.ofChange fnExactAreHearersSpec)

/-- ITS FALSE NEIGHBOUR: 'it returns false'. Refute it at one input. -/
def fnExactAreHearersWrong : ChangeSpec := { name := "fnExactAreHearers", fn := fun _ => fun
  | [d] => { results := [.lit (.bool false)], args := [d] }
  | _ => none }
def FnExactAreHearersWrongFalsely : Prop := fnExactAreHearersRow.holds Try.pinned (OpenSpec.ofChange fnExactAreHearersWrong)

/-- 'laws.FnExactMoved': WHATEVER THE INPUT: true; the input reads as it did. -/
def fnExactMovedSpec : ChangeSpec := { name := "fnExactMoved", fn := fun _ => fun
  | [d1, d2, d3] => { results := [.lit (.bool true)], args := [d1, d2, d3] }
  | _ => none }
def fnExactMovedRow : OpenClaim := { program := "ythjlfiaagkekoaa", sum := "ea751617a271b39af086c15cbd7859762a1efc70c3531baf93f66fdfe9f67226", func := "loop.example/g03009/laws.FnExactMoved", spec := "fnExactMoved", unfollowed := true, recurses := true, apart := false }
def FnExactMovedSaid : Prop := fnExactMovedRow.holds Try.pinned (OpenSpec.ofChange fnExactMovedSpec)

/-- ITS FALSE NEIGHBOUR: 'it returns false'. Refute it at one input. -/
def fnExactMovedWrong : ChangeSpec := { name := "fnExactMoved", fn := fun _ => fun
  | [d1, d2, d3] => { results := [.lit (.bool false)], args := [d1, d2, d3] }
  | _ => none }
def FnExactMovedWrongFalsely : Prop := fnExactMovedRow.holds Try.pinned (OpenSpec.ofChange fnExactMovedWrong)

/-- 'laws.FnExactGain': WHATEVER THE INPUT: true; the input reads as it did. -/
def fnExactGainSpec : ChangeSpec := { name := "fnExactGain", fn := fun _ => fun
  | [d1, d2] => { results := [.lit (.bool true)], args := [d1, d2] }
  | _ => none }
def fnExactGainRow : OpenClaim := { program := "ythjlfiaagkekoaa", sum := "ea751617a271b39af086c15cbd7859762a1efc70c3531baf93f66fdfe9f67226", func := "loop.example/g03009/laws.FnExactGain", spec := "fnExactGain", unfollowed := true, recurses := true, apart := false }
def FnExactGainSaid : Prop := fnExactGainRow.holds Try.pinned (OpenSpec.ofChange fnExactGainSpec)

/-- ITS FALSE NEIGHBOUR: 'it returns false'. Refute it at one input. -/
def fnExactGainWrong : ChangeSpec := { name := "fnExactGain", fn := fun _ => fun
  | [d1, d2] => { results := [.lit (.bool false)], args := [d1, d2] }
  | _ => none }
def FnExactGainWrongFalsely : Prop := fnExactGainRow.holds Try.pinned (OpenSpec.ofChange fnExactGainWrong)

/-- 'laws.FnExactUnmoved': WHATEVER THE INPUT: true; the input reads as it did. -/
def fnExactUnmovedSpec : ChangeSpec := { name := "fnExactUnmoved", fn := fun _ => fun
  | [d] => { results := [.lit (.bool true)], args := [d] }
  | _ => none }
def fnExactUnmovedRow : OpenClaim := { program := "ythjlfiaagkekoaa", sum := "ea751617a271b39af086c15cbd7859762a1efc70c3531baf93f66fdfe9f67226", func := "loop.example/g03009/laws.FnExactUnmoved", spec := "fnExactUnmoved", unfollowed := true, recurses := true, apart := false }
def FnExactUnmovedSaid : Prop := fnExactUnmovedRow.holds Try.pinned (OpenSpec.ofChange fnExactUnmovedSpec)

/-- ITS FALSE NEIGHBOUR: 'it returns false'. Refute it at one input. -/
def fnExactUnmovedWrong : ChangeSpec := { name := "fnExactUnmoved", fn := fun _ => fun
  | [d] => { results := [.lit (.bool false)], args := [d] }
  | _ => none }
def FnExactUnmovedWrongFalsely : Prop := fnExactUnmovedRow.holds Try.pinned (OpenSpec.ofChange fnExactUnmovedWrong)

/-- 'laws.FnExactFindTeam': WHATEVER THE INPUT: true; the input reads as it did. -/
def fnExactFindTeamSpec : ChangeSpec := { name := "fnExactFindTeam", fn := fun _ => fun
  | [d1, d2] => { results := [.lit (.bool true)], args := [d1, d2] }
  | _ => none }
def fnExactFindTeamRow : OpenClaim := { program := "ythjlfiaagkekoaa", sum := "ea751617a271b39af086c15cbd7859762a1efc70c3531baf93f66fdfe9f67226", func := "loop.example/g03009/laws.FnExactFindTeam", spec := "fnExactFindTeam", unfollowed := true, recurses := true, apart := false }
def FnExactFindTeamSaid : Prop := fnExactFindTeamRow.holds Try.pinned (OpenSpec.ofChange fnExactFindTeamSpec)

/-- ITS FALSE NEIGHBOUR: 'it returns false'. Refute it at one input. -/
def fnExactFindTeamWrong : ChangeSpec := { name := "fnExactFindTeam", fn := fun _ => fun
  | [d1, d2] => { results := [.lit (.bool false)], args := [d1, d2] }
  | _ => none }
def FnExactFindTeamWrongFalsely : Prop := fnExactFindTeamRow.holds Try.pinned (OpenSpec.ofChange fnExactFindTeamWrong)

/-- 'laws.FnExactHaveMet': WHATEVER THE INPUT: true; the input reads as it did. -/
def fnExactHaveMetSpec : ChangeSpec := { name := "fnExactHaveMet", fn := fun _ => fun
  | [d1, d2, d3] => { results := [.lit (.bool true)], args := [d1, d2, d3] }
  | _ => none }
def fnExactHaveMetRow : OpenClaim := { program := "ythjlfiaagkekoaa", sum := "ea751617a271b39af086c15cbd7859762a1efc70c3531baf93f66fdfe9f67226", func := "loop.example/g03009/laws.FnExactHaveMet", spec := "fnExactHaveMet", unfollowed := true, recurses := true, apart := false }
def FnExactHaveMetSaid : Prop := fnExactHaveMetRow.holds Try.pinned (OpenSpec.ofChange fnExactHaveMetSpec)

/-- ITS FALSE NEIGHBOUR: 'it returns false'. Refute it at one input. -/
def fnExactHaveMetWrong : ChangeSpec := { name := "fnExactHaveMet", fn := fun _ => fun
  | [d1, d2, d3] => { results := [.lit (.bool false)], args := [d1, d2, d3] }
  | _ => none }
def FnExactHaveMetWrongFalsely : Prop := fnExactHaveMetRow.holds Try.pinned (OpenSpec.ofChange fnExactHaveMetWrong)

/-- 'laws.FnExactFreeJudges': WHATEVER THE INPUT: true; the input reads as it did. -/
def fnExactFreeJudgesSpec : ChangeSpec := { name := "fnExactFreeJudges", fn := fun _ => fun
  | [d1, d2] => { results := [.lit (.bool true)], args := [d1, d2] }
  | _ => none }
def fnExactFreeJudgesRow : OpenClaim := { program := "ythjlfiaagkekoaa", sum := "ea751617a271b39af086c15cbd7859762a1efc70c3531baf93f66fdfe9f67226", func := "loop.example/g03009/laws.FnExactFreeJudges", spec := "fnExactFreeJudges", apart := false }
def FnExactFreeJudgesSaid : Prop := fnExactFreeJudgesRow.holds Try.pinned (OpenSpec.ofChange fnExactFreeJudgesSpec)

/-- ITS FALSE NEIGHBOUR: 'it returns false'. Refute it at one input. -/
def fnExactFreeJudgesWrong : ChangeSpec := { name := "fnExactFreeJudges", fn := fun _ => fun
  | [d1, d2] => { results := [.lit (.bool false)], args := [d1, d2] }
  | _ => none }
def FnExactFreeJudgesWrongFalsely : Prop := fnExactFreeJudgesRow.holds Try.pinned (OpenSpec.ofChange fnExactFreeJudgesWrong)

/-- 'laws.FnExactSeatsIn': WHATEVER THE INPUT: true; the input reads as it did. -/
def fnExactSeatsInSpec : ChangeSpec := { name := "fnExactSeatsIn", fn := fun _ => fun
  | [d] => { results := [.lit (.bool true)], args := [d] }
  | _ => none }
def fnExactSeatsInRow : OpenClaim := { program := "ythjlfiaagkekoaa", sum := "ea751617a271b39af086c15cbd7859762a1efc70c3531baf93f66fdfe9f67226", func := "loop.example/g03009/laws.FnExactSeatsIn", spec := "fnExactSeatsIn", unfollowed := true, recurses := true, apart := false }
def FnExactSeatsInSaid : Prop := fnExactSeatsInRow.holds Try.pinned (OpenSpec.ofChange fnExactSeatsInSpec)

/-- ITS FALSE NEIGHBOUR: 'it returns false'. Refute it at one input. -/
def fnExactSeatsInWrong : ChangeSpec := { name := "fnExactSeatsIn", fn := fun _ => fun
  | [d] => { results := [.lit (.bool false)], args := [d] }
  | _ => none }
def FnExactSeatsInWrongFalsely : Prop := fnExactSeatsInRow.holds Try.pinned (OpenSpec.ofChange fnExactSeatsInWrong)

/-- 'laws.FnExactAreRooms': WHATEVER THE INPUT: true; the input reads as it did. -/
def fnExactAreRoomsSpec : ChangeSpec := { name := "fnExactAreRooms", fn := fun _ => fun
  | [d] => { results := [.lit (.bool true)], args := [d] }
  | _ => none }
def fnExactAreRoomsRow : OpenClaim := { program := "ythjlfiaagkekoaa", sum := "ea751617a271b39af086c15cbd7859762a1efc70c3531baf93f66fdfe9f67226", func := "loop.example/g03009/laws.FnExactAreRooms", spec := "fnExactAreRooms", unfollowed := true, recurses := true, apart := false }
def FnExactAreRoomsSaid : Prop := fnExactAreRoomsRow.holds Try.pinned (OpenSpec.ofChange fnExactAreRoomsSpec)

/-- ITS FALSE NEIGHBOUR: 'it returns false'. Refute it at one input. -/
def fnExactAreRoomsWrong : ChangeSpec := { name := "fnExactAreRooms", fn := fun _ => fun
  | [d] => { results := [.lit (.bool false)], args := [d] }
  | _ => none }
def FnExactAreRoomsWrongFalsely : Prop := fnExactAreRoomsRow.holds Try.pinned (OpenSpec.ofChange fnExactAreRoomsWrong)

/- THE SECOND FORM. 'bulk': how many values and letters a reading holds, each counted each time it is reached (what is shared counts as often as it is met; a slice's spare places count too). A statement '..UptoSaid' is the law's where the arguments, and the package variables that the reading takes, are together of bulk at most 1048576: NARROWER than '..Said'. Prove '..Said' where nothing that the law and all that it calls make is longer than what came in: it says more and counts as full. Else prove '..UptoSaid'. A law counts once. -/
mutual
def uptoBulk {H : Type} : DataW H → Nat
  | .lit (.string bytes) => bytes.length + 1
  | .lit _ => 1
  | .nil => 1
  | .ptr d => uptoBulk d + 1
  | .slice elems spare => uptoBulkAll elems + uptoBulkAll spare + 1
  | .agg parts => uptoBulkAll parts + 1
  | .iface _ d => uptoBulk d + 1
  | .map entries => uptoBulkEntries entries + 1
  | .held _ => 1
def uptoBulkAll {H : Type} : List (DataW H) → Nat
  | [] => 0
  | d :: r => uptoBulk d + uptoBulkAll r
def uptoBulkEntries {H : Type} : List (Lit × DataW H) → Nat
  | [] => 0
  | x :: r => uptoBulkEntry x + uptoBulkEntries r
def uptoBulkEntry {H : Type} : Lit × DataW H → Nat
  | (.string bytes, d) => bytes.length + uptoBulk d + 1
  | (_, d) => uptoBulk d + 1
 end
def uptoSmall : (H : Type) → List (DataW H) → Bool := fun _ ds => decide (uptoBulkAll ds ≤ 1048576)
def OpenSpec.upto (s : _root_.Go.ChangeSpec) : _root_.Go.OpenSpec := { _root_.Go.OpenSpec.ofChange s with cond := some uptoSmall }

/-- 'laws.FnExactIsRanking', WHERE WHAT IT READS IS OF BULK AT MOST 1048576: true; the input reads as it did. -/
def fnExactIsRankingUptoRow : OpenClaim := { program := "ythjlfiaagkekoaa", sum := "ea751617a271b39af086c15cbd7859762a1efc70c3531baf93f66fdfe9f67226", func := "loop.example/g03009/laws.FnExactIsRanking", spec := "fnExactIsRanking", apart := false, narrowed := true }
def FnExactIsRankingUptoSaid : Prop := fnExactIsRankingUptoRow.holds Try.pinned (OpenSpec.upto fnExactIsRankingSpec)

/-- 'laws.FnExactAreRankings', WHERE WHAT IT READS IS OF BULK AT MOST 1048576: true; the input reads as it did. -/
def fnExactAreRankingsUptoRow : OpenClaim := { program := "ythjlfiaagkekoaa", sum := "ea751617a271b39af086c15cbd7859762a1efc70c3531baf93f66fdfe9f67226", func := "loop.example/g03009/laws.FnExactAreRankings", spec := "fnExactAreRankings", apart := false, narrowed := true }
def FnExactAreRankingsUptoSaid : Prop := fnExactAreRankingsUptoRow.holds Try.pinned (OpenSpec.upto fnExactAreRankingsSpec)

/-- 'laws.FnExactPrefer', WHERE WHAT IT READS IS OF BULK AT MOST 1048576: true; the input reads as it did. -/
def fnExactPreferUptoRow : OpenClaim := { program := "ythjlfiaagkekoaa", sum := "ea751617a271b39af086c15cbd7859762a1efc70c3531baf93f66fdfe9f67226", func := "loop.example/g03009/laws.FnExactPrefer", spec := "fnExactPrefer", apart := false, narrowed := true }
def FnExactPreferUptoSaid : Prop := fnExactPreferUptoRow.holds Try.pinned (OpenSpec.upto fnExactPreferSpec)

/-- 'laws.FnExactAreHearers', WHERE WHAT IT READS IS OF BULK AT MOST 1048576: true; the input reads as it did. -/
def fnExactAreHearersUptoRow : OpenClaim := { program := "ythjlfiaagkekoaa", sum := "ea751617a271b39af086c15cbd7859762a1efc70c3531baf93f66fdfe9f67226", func := "loop.example/g03009/laws.FnExactAreHearers", spec := "fnExactAreHearers", apart := false, narrowed := true }
def FnExactAreHearersUptoSaid : Prop := fnExactAreHearersUptoRow.holds Try.pinned (OpenSpec.upto fnExactAreHearersSpec)

/-- 'laws.FnExactMoved', WHERE WHAT IT READS IS OF BULK AT MOST 1048576: true; the input reads as it did. -/
def fnExactMovedUptoRow : OpenClaim := { program := "ythjlfiaagkekoaa", sum := "ea751617a271b39af086c15cbd7859762a1efc70c3531baf93f66fdfe9f67226", func := "loop.example/g03009/laws.FnExactMoved", spec := "fnExactMoved", unfollowed := true, recurses := true, apart := false, narrowed := true }
def FnExactMovedUptoSaid : Prop := fnExactMovedUptoRow.holds Try.pinned (OpenSpec.upto fnExactMovedSpec)

/-- 'laws.FnExactGain', WHERE WHAT IT READS IS OF BULK AT MOST 1048576: true; the input reads as it did. -/
def fnExactGainUptoRow : OpenClaim := { program := "ythjlfiaagkekoaa", sum := "ea751617a271b39af086c15cbd7859762a1efc70c3531baf93f66fdfe9f67226", func := "loop.example/g03009/laws.FnExactGain", spec := "fnExactGain", unfollowed := true, recurses := true, apart := false, narrowed := true }
def FnExactGainUptoSaid : Prop := fnExactGainUptoRow.holds Try.pinned (OpenSpec.upto fnExactGainSpec)

/-- 'laws.FnExactUnmoved', WHERE WHAT IT READS IS OF BULK AT MOST 1048576: true; the input reads as it did. -/
def fnExactUnmovedUptoRow : OpenClaim := { program := "ythjlfiaagkekoaa", sum := "ea751617a271b39af086c15cbd7859762a1efc70c3531baf93f66fdfe9f67226", func := "loop.example/g03009/laws.FnExactUnmoved", spec := "fnExactUnmoved", unfollowed := true, recurses := true, apart := false, narrowed := true }
def FnExactUnmovedUptoSaid : Prop := fnExactUnmovedUptoRow.holds Try.pinned (OpenSpec.upto fnExactUnmovedSpec)

/-- 'laws.FnExactFindTeam', WHERE WHAT IT READS IS OF BULK AT MOST 1048576: true; the input reads as it did. -/
def fnExactFindTeamUptoRow : OpenClaim := { program := "ythjlfiaagkekoaa", sum := "ea751617a271b39af086c15cbd7859762a1efc70c3531baf93f66fdfe9f67226", func := "loop.example/g03009/laws.FnExactFindTeam", spec := "fnExactFindTeam", unfollowed := true, recurses := true, apart := false, narrowed := true }
def FnExactFindTeamUptoSaid : Prop := fnExactFindTeamUptoRow.holds Try.pinned (OpenSpec.upto fnExactFindTeamSpec)

/-- 'laws.FnExactHaveMet', WHERE WHAT IT READS IS OF BULK AT MOST 1048576: true; the input reads as it did. -/
def fnExactHaveMetUptoRow : OpenClaim := { program := "ythjlfiaagkekoaa", sum := "ea751617a271b39af086c15cbd7859762a1efc70c3531baf93f66fdfe9f67226", func := "loop.example/g03009/laws.FnExactHaveMet", spec := "fnExactHaveMet", unfollowed := true, recurses := true, apart := false, narrowed := true }
def FnExactHaveMetUptoSaid : Prop := fnExactHaveMetUptoRow.holds Try.pinned (OpenSpec.upto fnExactHaveMetSpec)

/-- 'laws.FnExactFreeJudges', WHERE WHAT IT READS IS OF BULK AT MOST 1048576: true; the input reads as it did. -/
def fnExactFreeJudgesUptoRow : OpenClaim := { program := "ythjlfiaagkekoaa", sum := "ea751617a271b39af086c15cbd7859762a1efc70c3531baf93f66fdfe9f67226", func := "loop.example/g03009/laws.FnExactFreeJudges", spec := "fnExactFreeJudges", apart := false, narrowed := true }
def FnExactFreeJudgesUptoSaid : Prop := fnExactFreeJudgesUptoRow.holds Try.pinned (OpenSpec.upto fnExactFreeJudgesSpec)

/-- 'laws.FnExactSeatsIn', WHERE WHAT IT READS IS OF BULK AT MOST 1048576: true; the input reads as it did. -/
def fnExactSeatsInUptoRow : OpenClaim := { program := "ythjlfiaagkekoaa", sum := "ea751617a271b39af086c15cbd7859762a1efc70c3531baf93f66fdfe9f67226", func := "loop.example/g03009/laws.FnExactSeatsIn", spec := "fnExactSeatsIn", unfollowed := true, recurses := true, apart := false, narrowed := true }
def FnExactSeatsInUptoSaid : Prop := fnExactSeatsInUptoRow.holds Try.pinned (OpenSpec.upto fnExactSeatsInSpec)

/-- 'laws.FnExactAreRooms', WHERE WHAT IT READS IS OF BULK AT MOST 1048576: true; the input reads as it did. -/
def fnExactAreRoomsUptoRow : OpenClaim := { program := "ythjlfiaagkekoaa", sum := "ea751617a271b39af086c15cbd7859762a1efc70c3531baf93f66fdfe9f67226", func := "loop.example/g03009/laws.FnExactAreRooms", spec := "fnExactAreRooms", unfollowed := true, recurses := true, apart := false, narrowed := true }
def FnExactAreRoomsUptoSaid : Prop := fnExactAreRoomsUptoRow.holds Try.pinned (OpenSpec.upto fnExactAreRoomsSpec)

end Rows
end Go.Proofs.Ythjlfiaagkekoaa
