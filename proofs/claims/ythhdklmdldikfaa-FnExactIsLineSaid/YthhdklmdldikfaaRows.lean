/-
  No cell of these rows narrows 'for every input' (looked for: loops, veiled, ifaces, maps, wideKeys, modest, calm, conditions, laid).
  DERIVED. THE GIVEN ROWS OF THIS SEAT. 12 by the template 'for every input the law returns true; each argument reads behind the call as it read before'; 0 by the template 'total and deterministic' (their statements: YthhdklmdldikfaaTotals.lean).
  GIVEN WITH THE SEED: the statements are not yours to turn. If you find one false, say at which input.
  Laid BY PROGRAM, IN A SANDBOX (cutbox-rows.mjs): the forced cells as the released guide's own fill.sh prints them over the translation 35cbda048790154e… (all of the seat's roots in one cut). By AI agents, Wed Nov 11 2026. No macro, syntax, notation, axiom, sorry.
-/
import Derived.Test.YthhdklmdldikfaaChecked
import GoSem.Claim
import GoSem.ClaimJoined
import GoSem.ClaimMapViews
import Derived.JoinedTies
import Derived.KernelRfl
namespace Go.Proofs.Ythhdklmdldikfaa
/- THE CELL 'sum', in the pinned program and in every row, IS THE sha256 OF THE DUMP (.gsa) THAT YthhdklmdldikfaaProg.lean LOADS. Nothing in Lean hashes anything: it is a label: what it is worth is what the hold of that sum in a sandbox is worth. -/
noncomputable def Try.pinned : Pinned := { name := "ythhdklmdldikfaa", sum := "35cbda048790154e962a4c9be0d9d1e94f7333d44f37cf0b49fca35e42e6fbae", checked := Try.checked }
namespace Rows
def none {H : Type} : Left H := { results := [], args := [] }

/-- 'laws.FnPositions': WHATEVER THE INPUT: true; the input reads as it did. -/
def fnPositionsSpec : ChangeSpec := { name := "fnPositions", fn := fun _ => fun
  | [d] => { results := [.lit (.bool true)], args := [d] }
  | _ => none }
def fnPositionsRow : OpenClaim := { program := "ythhdklmdldikfaa", sum := "35cbda048790154e962a4c9be0d9d1e94f7333d44f37cf0b49fca35e42e6fbae", func := "loop.example/g03009/laws.FnPositions", spec := "fnPositions", unfollowed := true, recurses := true, plainKeys := false, apart := false }
def FnPositionsSaid : Prop := fnPositionsRow.holds Try.pinned (OpenSpec.ofChange fnPositionsSpec)

/-- ITS FALSE NEIGHBOUR: 'it returns false'. Refute it at one input. -/
def fnPositionsWrong : ChangeSpec := { name := "fnPositions", fn := fun _ => fun
  | [d] => { results := [.lit (.bool false)], args := [d] }
  | _ => none }
def FnPositionsWrongFalsely : Prop := fnPositionsRow.holds Try.pinned (OpenSpec.ofChange fnPositionsWrong)

/-- 'laws.FnGames': WHATEVER THE INPUT: true; the input reads as it did. -/
def fnGamesSpec : ChangeSpec := { name := "fnGames", fn := fun _ => fun
  | [d] => { results := [.lit (.bool true)], args := [d] }
  | _ => none }
def fnGamesRow : OpenClaim := { program := "ythhdklmdldikfaa", sum := "35cbda048790154e962a4c9be0d9d1e94f7333d44f37cf0b49fca35e42e6fbae", func := "loop.example/g03009/laws.FnGames", spec := "fnGames", unfollowed := true, recurses := true, plainKeys := false, apart := false }
def FnGamesSaid : Prop := fnGamesRow.holds Try.pinned (OpenSpec.ofChange fnGamesSpec)

/-- ITS FALSE NEIGHBOUR: 'it returns false'. Refute it at one input. -/
def fnGamesWrong : ChangeSpec := { name := "fnGames", fn := fun _ => fun
  | [d] => { results := [.lit (.bool false)], args := [d] }
  | _ => none }
def FnGamesWrongFalsely : Prop := fnGamesRow.holds Try.pinned (OpenSpec.ofChange fnGamesWrong)

/-- 'laws.FnExactAllComplete': WHATEVER THE INPUT: true; the input reads as it did. -/
def fnExactAllCompleteSpec : ChangeSpec := { name := "fnExactAllComplete", fn := fun _ => fun
  | [d] => { results := [.lit (.bool true)], args := [d] }
  | _ => none }
def fnExactAllCompleteRow : OpenClaim := { program := "ythhdklmdldikfaa", sum := "35cbda048790154e962a4c9be0d9d1e94f7333d44f37cf0b49fca35e42e6fbae", func := "loop.example/g03009/laws.FnExactAllComplete", spec := "fnExactAllComplete", unfollowed := true, recurses := true, plainKeys := false, apart := false }
def FnExactAllCompleteSaid : Prop := fnExactAllCompleteRow.holds Try.pinned (OpenSpec.ofChange fnExactAllCompleteSpec)

/-- ITS FALSE NEIGHBOUR: 'it returns false'. Refute it at one input. -/
def fnExactAllCompleteWrong : ChangeSpec := { name := "fnExactAllComplete", fn := fun _ => fun
  | [d] => { results := [.lit (.bool false)], args := [d] }
  | _ => none }
def FnExactAllCompleteWrongFalsely : Prop := fnExactAllCompleteRow.holds Try.pinned (OpenSpec.ofChange fnExactAllCompleteWrong)

/-- 'laws.FnExactPreferred': WHATEVER THE INPUT: true; the input reads as it did. -/
def fnExactPreferredSpec : ChangeSpec := { name := "fnExactPreferred", fn := fun _ => fun
  | [d] => { results := [.lit (.bool true)], args := [d] }
  | _ => none }
def fnExactPreferredRow : OpenClaim := { program := "ythhdklmdldikfaa", sum := "35cbda048790154e962a4c9be0d9d1e94f7333d44f37cf0b49fca35e42e6fbae", func := "loop.example/g03009/laws.FnExactPreferred", spec := "fnExactPreferred", unfollowed := true, recurses := true, plainKeys := false, apart := false }
def FnExactPreferredSaid : Prop := fnExactPreferredRow.holds Try.pinned (OpenSpec.ofChange fnExactPreferredSpec)

/-- ITS FALSE NEIGHBOUR: 'it returns false'. Refute it at one input. -/
def fnExactPreferredWrong : ChangeSpec := { name := "fnExactPreferred", fn := fun _ => fun
  | [d] => { results := [.lit (.bool false)], args := [d] }
  | _ => none }
def FnExactPreferredWrongFalsely : Prop := fnExactPreferredRow.holds Try.pinned (OpenSpec.ofChange fnExactPreferredWrong)

/-- 'laws.FnExactStableSets': WHATEVER THE INPUT: true; the input reads as it did. -/
def fnExactStableSetsSpec : ChangeSpec := { name := "fnExactStableSets", fn := fun _ => fun
  | [d] => { results := [.lit (.bool true)], args := [d] }
  | _ => none }
def fnExactStableSetsRow : OpenClaim := { program := "ythhdklmdldikfaa", sum := "35cbda048790154e962a4c9be0d9d1e94f7333d44f37cf0b49fca35e42e6fbae", func := "loop.example/g03009/laws.FnExactStableSets", spec := "fnExactStableSets", unfollowed := true, recurses := true, plainKeys := false, apart := false }
def FnExactStableSetsSaid : Prop := fnExactStableSetsRow.holds Try.pinned (OpenSpec.ofChange fnExactStableSetsSpec)

/-- ITS FALSE NEIGHBOUR: 'it returns false'. Refute it at one input. -/
def fnExactStableSetsWrong : ChangeSpec := { name := "fnExactStableSets", fn := fun _ => fun
  | [d] => { results := [.lit (.bool false)], args := [d] }
  | _ => none }
def FnExactStableSetsWrongFalsely : Prop := fnExactStableSetsRow.holds Try.pinned (OpenSpec.ofChange fnExactStableSetsWrong)

/-- 'laws.FnExactIsCredible': WHATEVER THE INPUT: true; the input reads as it did. -/
def fnExactIsCredibleSpec : ChangeSpec := { name := "fnExactIsCredible", fn := fun _ => fun
  | [d1, d2] => { results := [.lit (.bool true)], args := [d1, d2] }
  | _ => none }
def fnExactIsCredibleRow : OpenClaim := { program := "ythhdklmdldikfaa", sum := "35cbda048790154e962a4c9be0d9d1e94f7333d44f37cf0b49fca35e42e6fbae", func := "loop.example/g03009/laws.FnExactIsCredible", spec := "fnExactIsCredible", unfollowed := true, recurses := true, plainKeys := false, apart := false }
def FnExactIsCredibleSaid : Prop := fnExactIsCredibleRow.holds Try.pinned (OpenSpec.ofChange fnExactIsCredibleSpec)

/-- ITS FALSE NEIGHBOUR: 'it returns false'. Refute it at one input. -/
def fnExactIsCredibleWrong : ChangeSpec := { name := "fnExactIsCredible", fn := fun _ => fun
  | [d1, d2] => { results := [.lit (.bool false)], args := [d1, d2] }
  | _ => none }
def FnExactIsCredibleWrongFalsely : Prop := fnExactIsCredibleRow.holds Try.pinned (OpenSpec.ofChange fnExactIsCredibleWrong)

/-- 'laws.FnExactIsCertain': WHATEVER THE INPUT: true; the input reads as it did. -/
def fnExactIsCertainSpec : ChangeSpec := { name := "fnExactIsCertain", fn := fun _ => fun
  | [d1, d2] => { results := [.lit (.bool true)], args := [d1, d2] }
  | _ => none }
def fnExactIsCertainRow : OpenClaim := { program := "ythhdklmdldikfaa", sum := "35cbda048790154e962a4c9be0d9d1e94f7333d44f37cf0b49fca35e42e6fbae", func := "loop.example/g03009/laws.FnExactIsCertain", spec := "fnExactIsCertain", unfollowed := true, recurses := true, plainKeys := false, apart := false }
def FnExactIsCertainSaid : Prop := fnExactIsCertainRow.holds Try.pinned (OpenSpec.ofChange fnExactIsCertainSpec)

/-- ITS FALSE NEIGHBOUR: 'it returns false'. Refute it at one input. -/
def fnExactIsCertainWrong : ChangeSpec := { name := "fnExactIsCertain", fn := fun _ => fun
  | [d1, d2] => { results := [.lit (.bool false)], args := [d1, d2] }
  | _ => none }
def FnExactIsCertainWrongFalsely : Prop := fnExactIsCertainRow.holds Try.pinned (OpenSpec.ofChange fnExactIsCertainWrong)

/-- 'laws.FnExactInAll': WHATEVER THE INPUT: true; the input reads as it did. -/
def fnExactInAllSpec : ChangeSpec := { name := "fnExactInAll", fn := fun _ => fun
  | [d] => { results := [.lit (.bool true)], args := [d] }
  | _ => none }
def fnExactInAllRow : OpenClaim := { program := "ythhdklmdldikfaa", sum := "35cbda048790154e962a4c9be0d9d1e94f7333d44f37cf0b49fca35e42e6fbae", func := "loop.example/g03009/laws.FnExactInAll", spec := "fnExactInAll", unfollowed := true, recurses := true, plainKeys := false, apart := false }
def FnExactInAllSaid : Prop := fnExactInAllRow.holds Try.pinned (OpenSpec.ofChange fnExactInAllSpec)

/-- ITS FALSE NEIGHBOUR: 'it returns false'. Refute it at one input. -/
def fnExactInAllWrong : ChangeSpec := { name := "fnExactInAll", fn := fun _ => fun
  | [d] => { results := [.lit (.bool false)], args := [d] }
  | _ => none }
def FnExactInAllWrongFalsely : Prop := fnExactInAllRow.holds Try.pinned (OpenSpec.ofChange fnExactInAllWrong)

/-- 'laws.FnExactCanWin': WHATEVER THE INPUT: true; the input reads as it did. -/
def fnExactCanWinSpec : ChangeSpec := { name := "fnExactCanWin", fn := fun _ => fun
  | [d1, d2] => { results := [.lit (.bool true)], args := [d1, d2] }
  | _ => none }
def fnExactCanWinRow : OpenClaim := { program := "ythhdklmdldikfaa", sum := "35cbda048790154e962a4c9be0d9d1e94f7333d44f37cf0b49fca35e42e6fbae", func := "loop.example/g03009/laws.FnExactCanWin", spec := "fnExactCanWin", unfollowed := true, recurses := true, plainKeys := false, apart := false }
def FnExactCanWinSaid : Prop := fnExactCanWinRow.holds Try.pinned (OpenSpec.ofChange fnExactCanWinSpec)

/-- ITS FALSE NEIGHBOUR: 'it returns false'. Refute it at one input. -/
def fnExactCanWinWrong : ChangeSpec := { name := "fnExactCanWin", fn := fun _ => fun
  | [d1, d2] => { results := [.lit (.bool false)], args := [d1, d2] }
  | _ => none }
def FnExactCanWinWrongFalsely : Prop := fnExactCanWinRow.holds Try.pinned (OpenSpec.ofChange fnExactCanWinWrong)

/-- 'laws.FnExactBestAnswer': WHATEVER THE INPUT: true; the input reads as it did. -/
def fnExactBestAnswerSpec : ChangeSpec := { name := "fnExactBestAnswer", fn := fun _ => fun
  | [d1, d2, d3] => { results := [.lit (.bool true)], args := [d1, d2, d3] }
  | _ => none }
def fnExactBestAnswerRow : OpenClaim := { program := "ythhdklmdldikfaa", sum := "35cbda048790154e962a4c9be0d9d1e94f7333d44f37cf0b49fca35e42e6fbae", func := "loop.example/g03009/laws.FnExactBestAnswer", spec := "fnExactBestAnswer", unfollowed := true, recurses := true, plainKeys := false, apart := false }
def FnExactBestAnswerSaid : Prop := fnExactBestAnswerRow.holds Try.pinned (OpenSpec.ofChange fnExactBestAnswerSpec)

/-- ITS FALSE NEIGHBOUR: 'it returns false'. Refute it at one input. -/
def fnExactBestAnswerWrong : ChangeSpec := { name := "fnExactBestAnswer", fn := fun _ => fun
  | [d1, d2, d3] => { results := [.lit (.bool false)], args := [d1, d2, d3] }
  | _ => none }
def FnExactBestAnswerWrongFalsely : Prop := fnExactBestAnswerRow.holds Try.pinned (OpenSpec.ofChange fnExactBestAnswerWrong)

/-- 'laws.FnExactIsLine': WHATEVER THE INPUT: true; the input reads as it did. -/
def fnExactIsLineSpec : ChangeSpec := { name := "fnExactIsLine", fn := fun _ => fun
  | [d1, d2] => { results := [.lit (.bool true)], args := [d1, d2] }
  | _ => none }
def fnExactIsLineRow : OpenClaim := { program := "ythhdklmdldikfaa", sum := "35cbda048790154e962a4c9be0d9d1e94f7333d44f37cf0b49fca35e42e6fbae", func := "loop.example/g03009/laws.FnExactIsLine", spec := "fnExactIsLine", plainKeys := false, apart := false }
def FnExactIsLineSaid : Prop := fnExactIsLineRow.holds Try.pinned (OpenSpec.ofChange fnExactIsLineSpec)

/-- ITS FALSE NEIGHBOUR: 'it returns false'. Refute it at one input. -/
def fnExactIsLineWrong : ChangeSpec := { name := "fnExactIsLine", fn := fun _ => fun
  | [d1, d2] => { results := [.lit (.bool false)], args := [d1, d2] }
  | _ => none }
def FnExactIsLineWrongFalsely : Prop := fnExactIsLineRow.holds Try.pinned (OpenSpec.ofChange fnExactIsLineWrong)

/-- 'laws.FnExactWinnerOf': WHATEVER THE INPUT: true; the input reads as it did. -/
def fnExactWinnerOfSpec : ChangeSpec := { name := "fnExactWinnerOf", fn := fun _ => fun
  | [d1, d2] => { results := [.lit (.bool true)], args := [d1, d2] }
  | _ => none }
def fnExactWinnerOfRow : OpenClaim := { program := "ythhdklmdldikfaa", sum := "35cbda048790154e962a4c9be0d9d1e94f7333d44f37cf0b49fca35e42e6fbae", func := "loop.example/g03009/laws.FnExactWinnerOf", spec := "fnExactWinnerOf", plainKeys := false, apart := false }
def FnExactWinnerOfSaid : Prop := fnExactWinnerOfRow.holds Try.pinned (OpenSpec.ofChange fnExactWinnerOfSpec)

/-- ITS FALSE NEIGHBOUR: 'it returns false'. Refute it at one input. -/
def fnExactWinnerOfWrong : ChangeSpec := { name := "fnExactWinnerOf", fn := fun _ => fun
  | [d1, d2] => { results := [.lit (.bool false)], args := [d1, d2] }
  | _ => none }
def FnExactWinnerOfWrongFalsely : Prop := fnExactWinnerOfRow.holds Try.pinned (OpenSpec.ofChange fnExactWinnerOfWrong)

/- THE SECOND FORM. 'bulk': how many values and letters a reading holds, each counted each time it is reached (what is shared counts as often as it is met; a slice's spare places count too). A statement '..UptoSaid' is the law's where the arguments, and the package variables that the reading takes, are together of bulk at most 1048576: NARROWER than '..Said'. Prove '..Said' where nothing that the law and all that it calls make is longer than what came in: it says more and counts as full. Else prove '..UptoSaid'. A law counts once. -/
mutual
def uptoBulk {H : Type} : DataW H → Nat
  | .lit (.string bytes) => bytes.length + 1
  | .lit _ => 1
  | .nil => 1
  | .ptr d => uptoBulk d + 1
  | .slice elems spare => uptoBulkAll elems + uptoBulkAll spare + 1
  | .agg parts => uptoBulkAll parts + 1
  | .iface _ d => uptoBulk d + 1
  | .map entries => uptoBulkEntries entries + 1
  | .held _ => 1
def uptoBulkAll {H : Type} : List (DataW H) → Nat
  | [] => 0
  | d :: r => uptoBulk d + uptoBulkAll r
def uptoBulkEntries {H : Type} : List (Lit × DataW H) → Nat
  | [] => 0
  | x :: r => uptoBulkEntry x + uptoBulkEntries r
def uptoBulkEntry {H : Type} : Lit × DataW H → Nat
  | (.string bytes, d) => bytes.length + uptoBulk d + 1
  | (_, d) => uptoBulk d + 1
 end
def uptoSmall : (H : Type) → List (DataW H) → Bool := fun _ ds => decide (uptoBulkAll ds ≤ 1048576)
def OpenSpec.upto (s : _root_.Go.ChangeSpec) : _root_.Go.OpenSpec := { _root_.Go.OpenSpec.ofChange s with cond := some uptoSmall }

/-- 'laws.FnPositions', WHERE WHAT IT READS IS OF BULK AT MOST 1048576: true; the input reads as it did. -/
def fnPositionsUptoRow : OpenClaim := { program := "ythhdklmdldikfaa", sum := "35cbda048790154e962a4c9be0d9d1e94f7333d44f37cf0b49fca35e42e6fbae", func := "loop.example/g03009/laws.FnPositions", spec := "fnPositions", unfollowed := true, recurses := true, plainKeys := false, apart := false, narrowed := true }
def FnPositionsUptoSaid : Prop := fnPositionsUptoRow.holds Try.pinned (OpenSpec.upto fnPositionsSpec)

/-- 'laws.FnGames', WHERE WHAT IT READS IS OF BULK AT MOST 1048576: true; the input reads as it did. -/
def fnGamesUptoRow : OpenClaim := { program := "ythhdklmdldikfaa", sum := "35cbda048790154e962a4c9be0d9d1e94f7333d44f37cf0b49fca35e42e6fbae", func := "loop.example/g03009/laws.FnGames", spec := "fnGames", unfollowed := true, recurses := true, plainKeys := false, apart := false, narrowed := true }
def FnGamesUptoSaid : Prop := fnGamesUptoRow.holds Try.pinned (OpenSpec.upto fnGamesSpec)

/-- 'laws.FnExactAllComplete', WHERE WHAT IT READS IS OF BULK AT MOST 1048576: true; the input reads as it did. -/
def fnExactAllCompleteUptoRow : OpenClaim := { program := "ythhdklmdldikfaa", sum := "35cbda048790154e962a4c9be0d9d1e94f7333d44f37cf0b49fca35e42e6fbae", func := "loop.example/g03009/laws.FnExactAllComplete", spec := "fnExactAllComplete", unfollowed := true, recurses := true, plainKeys := false, apart := false, narrowed := true }
def FnExactAllCompleteUptoSaid : Prop := fnExactAllCompleteUptoRow.holds Try.pinned (OpenSpec.upto fnExactAllCompleteSpec)

/-- 'laws.FnExactPreferred', WHERE WHAT IT READS IS OF BULK AT MOST 1048576: true; the input reads as it did. -/
def fnExactPreferredUptoRow : OpenClaim := { program := "ythhdklmdldikfaa", sum := "35cbda048790154e962a4c9be0d9d1e94f7333d44f37cf0b49fca35e42e6fbae", func := "loop.example/g03009/laws.FnExactPreferred", spec := "fnExactPreferred", unfollowed := true, recurses := true, plainKeys := false, apart := false, narrowed := true }
def FnExactPreferredUptoSaid : Prop := fnExactPreferredUptoRow.holds Try.pinned (OpenSpec.upto fnExactPreferredSpec)

/-- 'laws.FnExactStableSets', WHERE WHAT IT READS IS OF BULK AT MOST 1048576: true; the input reads as it did. -/
def fnExactStableSetsUptoRow : OpenClaim := { program := "ythhdklmdldikfaa", sum := "35cbda048790154e962a4c9be0d9d1e94f7333d44f37cf0b49fca35e42e6fbae", func := "loop.example/g03009/laws.FnExactStableSets", spec := "fnExactStableSets", unfollowed := true, recurses := true, plainKeys := false, apart := false, narrowed := true }
def FnExactStableSetsUptoSaid : Prop := fnExactStableSetsUptoRow.holds Try.pinned (OpenSpec.upto fnExactStableSetsSpec)

/-- 'laws.FnExactIsCredible', WHERE WHAT IT READS IS OF BULK AT MOST 1048576: true; the input reads as it did. -/
def fnExactIsCredibleUptoRow : OpenClaim := { program := "ythhdklmdldikfaa", sum := "35cbda048790154e962a4c9be0d9d1e94f7333d44f37cf0b49fca35e42e6fbae", func := "loop.example/g03009/laws.FnExactIsCredible", spec := "fnExactIsCredible", unfollowed := true, recurses := true, plainKeys := false, apart := false, narrowed := true }
def FnExactIsCredibleUptoSaid : Prop := fnExactIsCredibleUptoRow.holds Try.pinned (OpenSpec.upto fnExactIsCredibleSpec)

/-- 'laws.FnExactIsCertain', WHERE WHAT IT READS IS OF BULK AT MOST 1048576: true; the input reads as it did. -/
def fnExactIsCertainUptoRow : OpenClaim := { program := "ythhdklmdldikfaa", sum := "35cbda048790154e962a4c9be0d9d1e94f7333d44f37cf0b49fca35e42e6fbae", func := "loop.example/g03009/laws.FnExactIsCertain", spec := "fnExactIsCertain", unfollowed := true, recurses := true, plainKeys := false, apart := false, narrowed := true }
def FnExactIsCertainUptoSaid : Prop := fnExactIsCertainUptoRow.holds Try.pinned (OpenSpec.upto fnExactIsCertainSpec)

/-- 'laws.FnExactInAll', WHERE WHAT IT READS IS OF BULK AT MOST 1048576: true; the input reads as it did. -/
def fnExactInAllUptoRow : OpenClaim := { program := "ythhdklmdldikfaa", sum := "35cbda048790154e962a4c9be0d9d1e94f7333d44f37cf0b49fca35e42e6fbae", func := "loop.example/g03009/laws.FnExactInAll", spec := "fnExactInAll", unfollowed := true, recurses := true, plainKeys := false, apart := false, narrowed := true }
def FnExactInAllUptoSaid : Prop := fnExactInAllUptoRow.holds Try.pinned (OpenSpec.upto fnExactInAllSpec)

/-- 'laws.FnExactCanWin', WHERE WHAT IT READS IS OF BULK AT MOST 1048576: true; the input reads as it did. -/
def fnExactCanWinUptoRow : OpenClaim := { program := "ythhdklmdldikfaa", sum := "35cbda048790154e962a4c9be0d9d1e94f7333d44f37cf0b49fca35e42e6fbae", func := "loop.example/g03009/laws.FnExactCanWin", spec := "fnExactCanWin", unfollowed := true, recurses := true, plainKeys := false, apart := false, narrowed := true }
def FnExactCanWinUptoSaid : Prop := fnExactCanWinUptoRow.holds Try.pinned (OpenSpec.upto fnExactCanWinSpec)

/-- 'laws.FnExactBestAnswer', WHERE WHAT IT READS IS OF BULK AT MOST 1048576: true; the input reads as it did. -/
def fnExactBestAnswerUptoRow : OpenClaim := { program := "ythhdklmdldikfaa", sum := "35cbda048790154e962a4c9be0d9d1e94f7333d44f37cf0b49fca35e42e6fbae", func := "loop.example/g03009/laws.FnExactBestAnswer", spec := "fnExactBestAnswer", unfollowed := true, recurses := true, plainKeys := false, apart := false, narrowed := true }
def FnExactBestAnswerUptoSaid : Prop := fnExactBestAnswerUptoRow.holds Try.pinned (OpenSpec.upto fnExactBestAnswerSpec)

/-- 'laws.FnExactIsLine', WHERE WHAT IT READS IS OF BULK AT MOST 1048576: true; the input reads as it did. -/
def fnExactIsLineUptoRow : OpenClaim := { program := "ythhdklmdldikfaa", sum := "35cbda048790154e962a4c9be0d9d1e94f7333d44f37cf0b49fca35e42e6fbae", func := "loop.example/g03009/laws.FnExactIsLine", spec := "fnExactIsLine", plainKeys := false, apart := false, narrowed := true }
def FnExactIsLineUptoSaid : Prop := fnExactIsLineUptoRow.holds Try.pinned (OpenSpec.upto fnExactIsLineSpec)

/-- 'laws.FnExactWinnerOf', WHERE WHAT IT READS IS OF BULK AT MOST 1048576: true; the input reads as it did. -/
def fnExactWinnerOfUptoRow : OpenClaim := { program := "ythhdklmdldikfaa", sum := "35cbda048790154e962a4c9be0d9d1e94f7333d44f37cf0b49fca35e42e6fbae", func := "loop.example/g03009/laws.FnExactWinnerOf", spec := "fnExactWinnerOf", plainKeys := false, apart := false, narrowed := true }
def FnExactWinnerOfUptoSaid : Prop := fnExactWinnerOfUptoRow.holds Try.pinned (OpenSpec.upto fnExactWinnerOfSpec)

end Rows
end Go.Proofs.Ythhdklmdldikfaa
