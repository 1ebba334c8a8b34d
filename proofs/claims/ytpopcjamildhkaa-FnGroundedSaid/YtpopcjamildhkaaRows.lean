/-
  No cell of these rows narrows 'for every input' (looked for: loops, veiled, ifaces, maps, wideKeys, modest, calm, conditions, laid).
  DERIVED. THE GIVEN ROWS OF THIS SEAT. 11 by the template 'for every input the law returns true; each argument reads behind the call as it read before'; 0 by the template 'total and deterministic' (their statements: YtpopcjamildhkaaTotals.lean).
  GIVEN WITH THE SEED: the statements are not yours to turn. If you find one false, say at which input.
  Laid BY PROGRAM, IN A SANDBOX (cutbox-rows.mjs): the forced cells as the released guide's own fill.sh prints them over the translation 1d1131c7ec3d25c8… (all of the seat's roots in one cut). By AI agents, Wed Nov 11 2026. No macro, syntax, notation, axiom, sorry.
-/
import Derived.Test.YtpopcjamildhkaaChecked
import GoSem.Claim
import GoSem.ClaimJoined
import GoSem.ClaimMapViews
import Derived.JoinedTies
import Derived.KernelRfl
namespace Go.Proofs.Ytpopcjamildhkaa
/- THE CELL 'sum', in the pinned program and in every row, IS THE sha256 OF THE DUMP (.gsa) THAT YtpopcjamildhkaaProg.lean LOADS. Nothing in Lean hashes anything: it is a label: what it is worth is what the hold of that sum in a sandbox is worth. -/
noncomputable def Try.pinned : Pinned := { name := "ytpopcjamildhkaa", sum := "1d1131c7ec3d25c8bc3ca97a3a563c0ed9c47c6c7eddeed48434f70749d073af", checked := Try.checked }
namespace Rows
def none {H : Type} : Left H := { results := [], args := [] }

/-- 'laws.FnGraphs': WHATEVER THE INPUT: true; the input reads as it did. -/
def fnGraphsSpec : ChangeSpec := { name := "fnGraphs", fn := fun _ => fun
  | [d] => { results := [.lit (.bool true)], args := [d] }
  | _ => none }
def fnGraphsRow : OpenClaim := { program := "ytpopcjamildhkaa", sum := "1d1131c7ec3d25c8bc3ca97a3a563c0ed9c47c6c7eddeed48434f70749d073af", func := "loop.example/g03009/laws.FnGraphs", spec := "fnGraphs", plainKeys := false, apart := false }
def FnGraphsSaid : Prop := fnGraphsRow.holds Try.pinned (OpenSpec.ofChange fnGraphsSpec)

/-- ITS FALSE NEIGHBOUR: 'it returns false'. Refute it at one input. -/
def fnGraphsWrong : ChangeSpec := { name := "fnGraphs", fn := fun _ => fun
  | [d] => { results := [.lit (.bool false)], args := [d] }
  | _ => none }
def FnGraphsWrongFalsely : Prop := fnGraphsRow.holds Try.pinned (OpenSpec.ofChange fnGraphsWrong)

/-- 'laws.FnGrounded': WHATEVER THE INPUT: true; the input reads as it did. -/
def fnGroundedSpec : ChangeSpec := { name := "fnGrounded", fn := fun _ => fun
  | [d] => { results := [.lit (.bool true)], args := [d] }
  | _ => none }
def fnGroundedRow : OpenClaim := { program := "ytpopcjamildhkaa", sum := "1d1131c7ec3d25c8bc3ca97a3a563c0ed9c47c6c7eddeed48434f70749d073af", func := "loop.example/g03009/laws.FnGrounded", spec := "fnGrounded", inPlace := ["internal/abi.NoEscape"], unfollowed := true, recurses := true, plainKeys := false, apart := false }
def FnGroundedSaid : Prop := fnGroundedRow.holds Try.pinned (OpenSpec.ofChange fnGroundedSpec)

/-- ITS FALSE NEIGHBOUR: 'it returns false'. Refute it at one input. -/
def fnGroundedWrong : ChangeSpec := { name := "fnGrounded", fn := fun _ => fun
  | [d] => { results := [.lit (.bool false)], args := [d] }
  | _ => none }
def FnGroundedWrongFalsely : Prop := fnGroundedRow.holds Try.pinned (OpenSpec.ofChange fnGroundedWrong)

/-- 'laws.FnPositions': WHATEVER THE INPUT: true; the input reads as it did. -/
def fnPositionsSpec : ChangeSpec := { name := "fnPositions", fn := fun _ => fun
  | [d] => { results := [.lit (.bool true)], args := [d] }
  | _ => none }
def fnPositionsRow : OpenClaim := { program := "ytpopcjamildhkaa", sum := "1d1131c7ec3d25c8bc3ca97a3a563c0ed9c47c6c7eddeed48434f70749d073af", func := "loop.example/g03009/laws.FnPositions", spec := "fnPositions", unfollowed := true, recurses := true, plainKeys := false, apart := false }
def FnPositionsSaid : Prop := fnPositionsRow.holds Try.pinned (OpenSpec.ofChange fnPositionsSpec)

/-- ITS FALSE NEIGHBOUR: 'it returns false'. Refute it at one input. -/
def fnPositionsWrong : ChangeSpec := { name := "fnPositions", fn := fun _ => fun
  | [d] => { results := [.lit (.bool false)], args := [d] }
  | _ => none }
def FnPositionsWrongFalsely : Prop := fnPositionsRow.holds Try.pinned (OpenSpec.ofChange fnPositionsWrong)

/-- 'laws.FnGames': WHATEVER THE INPUT: true; the input reads as it did. -/
def fnGamesSpec : ChangeSpec := { name := "fnGames", fn := fun _ => fun
  | [d] => { results := [.lit (.bool true)], args := [d] }
  | _ => none }
def fnGamesRow : OpenClaim := { program := "ytpopcjamildhkaa", sum := "1d1131c7ec3d25c8bc3ca97a3a563c0ed9c47c6c7eddeed48434f70749d073af", func := "loop.example/g03009/laws.FnGames", spec := "fnGames", unfollowed := true, recurses := true, plainKeys := false, apart := false }
def FnGamesSaid : Prop := fnGamesRow.holds Try.pinned (OpenSpec.ofChange fnGamesSpec)

/-- ITS FALSE NEIGHBOUR: 'it returns false'. Refute it at one input. -/
def fnGamesWrong : ChangeSpec := { name := "fnGames", fn := fun _ => fun
  | [d] => { results := [.lit (.bool false)], args := [d] }
  | _ => none }
def FnGamesWrongFalsely : Prop := fnGamesRow.holds Try.pinned (OpenSpec.ofChange fnGamesWrong)

/-- 'laws.FnFormulas': WHATEVER THE INPUT: true; the input reads as it did. -/
def fnFormulasSpec : ChangeSpec := { name := "fnFormulas", fn := fun _ => fun
  | [d] => { results := [.lit (.bool true)], args := [d] }
  | _ => none }
def fnFormulasRow : OpenClaim := { program := "ytpopcjamildhkaa", sum := "1d1131c7ec3d25c8bc3ca97a3a563c0ed9c47c6c7eddeed48434f70749d073af", func := "loop.example/g03009/laws.FnFormulas", spec := "fnFormulas", unfollowed := true, recurses := true, plainKeys := false, apart := false }
def FnFormulasSaid : Prop := fnFormulasRow.holds Try.pinned (OpenSpec.ofChange fnFormulasSpec)

/-- ITS FALSE NEIGHBOUR: 'it returns false'. Refute it at one input. -/
def fnFormulasWrong : ChangeSpec := { name := "fnFormulas", fn := fun _ => fun
  | [d] => { results := [.lit (.bool false)], args := [d] }
  | _ => none }
def FnFormulasWrongFalsely : Prop := fnFormulasRow.holds Try.pinned (OpenSpec.ofChange fnFormulasWrong)

/-- 'laws.FnExactAttackersOf': WHATEVER THE INPUT: true; the input reads as it did. -/
def fnExactAttackersOfSpec : ChangeSpec := { name := "fnExactAttackersOf", fn := fun _ => fun
  | [d1, d2] => { results := [.lit (.bool true)], args := [d1, d2] }
  | _ => none }
def fnExactAttackersOfRow : OpenClaim := { program := "ytpopcjamildhkaa", sum := "1d1131c7ec3d25c8bc3ca97a3a563c0ed9c47c6c7eddeed48434f70749d073af", func := "loop.example/g03009/laws.FnExactAttackersOf", spec := "fnExactAttackersOf", plainKeys := false, apart := false }
def FnExactAttackersOfSaid : Prop := fnExactAttackersOfRow.holds Try.pinned (OpenSpec.ofChange fnExactAttackersOfSpec)

/-- ITS FALSE NEIGHBOUR: 'it returns false'. Refute it at one input. -/
def fnExactAttackersOfWrong : ChangeSpec := { name := "fnExactAttackersOf", fn := fun _ => fun
  | [d1, d2] => { results := [.lit (.bool false)], args := [d1, d2] }
  | _ => none }
def FnExactAttackersOfWrongFalsely : Prop := fnExactAttackersOfRow.holds Try.pinned (OpenSpec.ofChange fnExactAttackersOfWrong)

/-- 'laws.FnExactAllComplete': WHATEVER THE INPUT: true; the input reads as it did. -/
def fnExactAllCompleteSpec : ChangeSpec := { name := "fnExactAllComplete", fn := fun _ => fun
  | [d] => { results := [.lit (.bool true)], args := [d] }
  | _ => none }
def fnExactAllCompleteRow : OpenClaim := { program := "ytpopcjamildhkaa", sum := "1d1131c7ec3d25c8bc3ca97a3a563c0ed9c47c6c7eddeed48434f70749d073af", func := "loop.example/g03009/laws.FnExactAllComplete", spec := "fnExactAllComplete", unfollowed := true, recurses := true, plainKeys := false, apart := false }
def FnExactAllCompleteSaid : Prop := fnExactAllCompleteRow.holds Try.pinned (OpenSpec.ofChange fnExactAllCompleteSpec)

/-- ITS FALSE NEIGHBOUR: 'it returns false'. Refute it at one input. -/
def fnExactAllCompleteWrong : ChangeSpec := { name := "fnExactAllComplete", fn := fun _ => fun
  | [d] => { results := [.lit (.bool false)], args := [d] }
  | _ => none }
def FnExactAllCompleteWrongFalsely : Prop := fnExactAllCompleteRow.holds Try.pinned (OpenSpec.ofChange fnExactAllCompleteWrong)

/-- 'laws.FnExactPreferred': WHATEVER THE INPUT: true; the input reads as it did. -/
def fnExactPreferredSpec : ChangeSpec := { name := "fnExactPreferred", fn := fun _ => fun
  | [d] => { results := [.lit (.bool true)], args := [d] }
  | _ => none }
def fnExactPreferredRow : OpenClaim := { program := "ytpopcjamildhkaa", sum := "1d1131c7ec3d25c8bc3ca97a3a563c0ed9c47c6c7eddeed48434f70749d073af", func := "loop.example/g03009/laws.FnExactPreferred", spec := "fnExactPreferred", unfollowed := true, recurses := true, plainKeys := false, apart := false }
def FnExactPreferredSaid : Prop := fnExactPreferredRow.holds Try.pinned (OpenSpec.ofChange fnExactPreferredSpec)

/-- ITS FALSE NEIGHBOUR: 'it returns false'. Refute it at one input. -/
def fnExactPreferredWrong : ChangeSpec := { name := "fnExactPreferred", fn := fun _ => fun
  | [d] => { results := [.lit (.bool false)], args := [d] }
  | _ => none }
def FnExactPreferredWrongFalsely : Prop := fnExactPreferredRow.holds Try.pinned (OpenSpec.ofChange fnExactPreferredWrong)

/-- 'laws.FnExactStableSets': WHATEVER THE INPUT: true; the input reads as it did. -/
def fnExactStableSetsSpec : ChangeSpec := { name := "fnExactStableSets", fn := fun _ => fun
  | [d] => { results := [.lit (.bool true)], args := [d] }
  | _ => none }
def fnExactStableSetsRow : OpenClaim := { program := "ytpopcjamildhkaa", sum := "1d1131c7ec3d25c8bc3ca97a3a563c0ed9c47c6c7eddeed48434f70749d073af", func := "loop.example/g03009/laws.FnExactStableSets", spec := "fnExactStableSets", unfollowed := true, recurses := true, plainKeys := false, apart := false }
def FnExactStableSetsSaid : Prop := fnExactStableSetsRow.holds Try.pinned (OpenSpec.ofChange fnExactStableSetsSpec)

/-- ITS FALSE NEIGHBOUR: 'it returns false'. Refute it at one input. -/
def fnExactStableSetsWrong : ChangeSpec := { name := "fnExactStableSets", fn := fun _ => fun
  | [d] => { results := [.lit (.bool false)], args := [d] }
  | _ => none }
def FnExactStableSetsWrongFalsely : Prop := fnExactStableSetsRow.holds Try.pinned (OpenSpec.ofChange fnExactStableSetsWrong)

/-- 'laws.FnExactIsCredible': WHATEVER THE INPUT: true; the input reads as it did. -/
def fnExactIsCredibleSpec : ChangeSpec := { name := "fnExactIsCredible", fn := fun _ => fun
  | [d1, d2] => { results := [.lit (.bool true)], args := [d1, d2] }
  | _ => none }
def fnExactIsCredibleRow : OpenClaim := { program := "ytpopcjamildhkaa", sum := "1d1131c7ec3d25c8bc3ca97a3a563c0ed9c47c6c7eddeed48434f70749d073af", func := "loop.example/g03009/laws.FnExactIsCredible", spec := "fnExactIsCredible", unfollowed := true, recurses := true, plainKeys := false, apart := false }
def FnExactIsCredibleSaid : Prop := fnExactIsCredibleRow.holds Try.pinned (OpenSpec.ofChange fnExactIsCredibleSpec)

/-- ITS FALSE NEIGHBOUR: 'it returns false'. Refute it at one input. -/
def fnExactIsCredibleWrong : ChangeSpec := { name := "fnExactIsCredible", fn := fun _ => fun
  | [d1, d2] => { results := [.lit (.bool false)], args := [d1, d2] }
  | _ => none }
def FnExactIsCredibleWrongFalsely : Prop := fnExactIsCredibleRow.holds Try.pinned (OpenSpec.ofChange fnExactIsCredibleWrong)

/-- 'laws.FnExactIsCertain': WHATEVER THE INPUT: true; the input reads as it did. -/
def fnExactIsCertainSpec : ChangeSpec := { name := "fnExactIsCertain", fn := fun _ => fun
  | [d1, d2] => { results := [.lit (.bool true)], args := [d1, d2] }
  | _ => none }
def fnExactIsCertainRow : OpenClaim := { program := "ytpopcjamildhkaa", sum := "1d1131c7ec3d25c8bc3ca97a3a563c0ed9c47c6c7eddeed48434f70749d073af", func := "loop.example/g03009/laws.FnExactIsCertain", spec := "fnExactIsCertain", unfollowed := true, recurses := true, plainKeys := false, apart := false }
def FnExactIsCertainSaid : Prop := fnExactIsCertainRow.holds Try.pinned (OpenSpec.ofChange fnExactIsCertainSpec)

/-- ITS FALSE NEIGHBOUR: 'it returns false'. Refute it at one input. -/
def fnExactIsCertainWrong : ChangeSpec := { name := "fnExactIsCertain", fn := fun _ => fun
  | [d1, d2] => { results := [.lit (.bool false)], args := [d1, d2] }
  | _ => none }
def FnExactIsCertainWrongFalsely : Prop := fnExactIsCertainRow.holds Try.pinned (OpenSpec.ofChange fnExactIsCertainWrong)

/- THE SECOND FORM. 'bulk': how many values and letters a reading holds, each counted each time it is reached (what is shared counts as often as it is met; a slice's spare places count too). A statement '..UptoSaid' is the law's where the arguments, and the package variables that the reading takes, are together of bulk at most 1048576: NARROWER than '..Said'. Prove '..Said' where nothing that the law and all that it calls make is longer than what came in: it says more and counts as full. Else prove '..UptoSaid'. A law counts once. -/
mutual
def uptoBulk {H : Type} : DataW H → Nat
  | .lit (.string bytes) => bytes.length + 1
  | .lit _ => 1
  | .nil => 1
  | .ptr d => uptoBulk d + 1
  | .slice elems spare => uptoBulkAll elems + uptoBulkAll spare + 1
  | .agg parts => uptoBulkAll parts + 1
  | .iface _ d => uptoBulk d + 1
  | .map entries => uptoBulkEntries entries + 1
  | .held _ => 1
def uptoBulkAll {H : Type} : List (DataW H) → Nat
  | [] => 0
  | d :: r => uptoBulk d + uptoBulkAll r
def uptoBulkEntries {H : Type} : List (Lit × DataW H) → Nat
  | [] => 0
  | x :: r => uptoBulkEntry x + uptoBulkEntries r
def uptoBulkEntry {H : Type} : Lit × DataW H → Nat
  | (.string bytes, d) => bytes.length + uptoBulk d + 1
  | (_, d) => uptoBulk d + 1
 end
def uptoSmall : (H : Type) → List (DataW H) → Bool := fun _ ds => decide (uptoBulkAll ds ≤ 1048576)
def OpenSpec.upto (s : _root_.Go.ChangeSpec) : _root_.Go.OpenSpec := { _root_.Go.OpenSpec.ofChange s with cond := some uptoSmall }

/-- 'laws.FnGraphs', WHERE WHAT IT READS IS OF BULK AT MOST 1048576: true; the input reads as it did. -/
def fnGraphsUptoRow : OpenClaim := { program := "ytpopcjamildhkaa", sum := "1d1131c7ec3d25c8bc3ca97a3a563c0ed9c47c6c7eddeed48434f70749d073af", func := "loop.example/g03009/laws.FnGraphs", spec := "fnGraphs", plainKeys := false, apart := false, narrowed := true }
def FnGraphsUptoSaid : Prop := fnGraphsUptoRow.holds Try.pinned (OpenSpec.upto fnGraphsSpec)

/-- 'laws.FnGrounded', WHERE WHAT IT READS IS OF BULK AT MOST 1048576: true; the input reads as it did. -/
def fnGroundedUptoRow : OpenClaim := { program := "ytpopcjamildhkaa", sum := "1d1131c7ec3d25c8bc3ca97a3a563c0ed9c47c6c7eddeed48434f70749d073af", func := "loop.example/g03009/laws.FnGrounded", spec := "fnGrounded", inPlace := ["internal/abi.NoEscape"], unfollowed := true, recurses := true, plainKeys := false, apart := false, narrowed := true }
def FnGroundedUptoSaid : Prop := fnGroundedUptoRow.holds Try.pinned (OpenSpec.upto fnGroundedSpec)

/-- 'laws.FnPositions', WHERE WHAT IT READS IS OF BULK AT MOST 1048576: true; the input reads as it did. -/
def fnPositionsUptoRow : OpenClaim := { program := "ytpopcjamildhkaa", sum := "1d1131c7ec3d25c8bc3ca97a3a563c0ed9c47c6c7eddeed48434f70749d073af", func := "loop.example/g03009/laws.FnPositions", spec := "fnPositions", unfollowed := true, recurses := true, plainKeys := false, apart := false, narrowed := true }
def FnPositionsUptoSaid : Prop := fnPositionsUptoRow.holds Try.pinned (OpenSpec.upto fnPositionsSpec)

/-- 'laws.FnGames', WHERE WHAT IT READS IS OF BULK AT MOST 1048576: true; the input reads as it did. -/
def fnGamesUptoRow : OpenClaim := { program := "ytpopcjamildhkaa", sum := "1d1131c7ec3d25c8bc3ca97a3a563c0ed9c47c6c7eddeed48434f70749d073af", func := "loop.example/g03009/laws.FnGames", spec := "fnGames", unfollowed := true, recurses := true, plainKeys := false, apart := false, narrowed := true }
def FnGamesUptoSaid : Prop := fnGamesUptoRow.holds Try.pinned (OpenSpec.upto fnGamesSpec)

/-- 'laws.FnFormulas', WHERE WHAT IT READS IS OF BULK AT MOST 1048576: true; the input reads as it did. -/
def fnFormulasUptoRow : OpenClaim := { program := "ytpopcjamildhkaa", sum := "1d1131c7ec3d25c8bc3ca97a3a563c0ed9c47c6c7eddeed48434f70749d073af", func := "loop.example/g03009/laws.FnFormulas", spec := "fnFormulas", unfollowed := true, recurses := true, plainKeys := false, apart := false, narrowed := true }
def FnFormulasUptoSaid : Prop := fnFormulasUptoRow.holds Try.pinned (OpenSpec.upto fnFormulasSpec)

/-- 'laws.FnExactAttackersOf', WHERE WHAT IT READS IS OF BULK AT MOST 1048576: true; the input reads as it did. -/
def fnExactAttackersOfUptoRow : OpenClaim := { program := "ytpopcjamildhkaa", sum := "1d1131c7ec3d25c8bc3ca97a3a563c0ed9c47c6c7eddeed48434f70749d073af", func := "loop.example/g03009/laws.FnExactAttackersOf", spec := "fnExactAttackersOf", plainKeys := false, apart := false, narrowed := true }
def FnExactAttackersOfUptoSaid : Prop := fnExactAttackersOfUptoRow.holds Try.pinned (OpenSpec.upto fnExactAttackersOfSpec)

/-- 'laws.FnExactAllComplete', WHERE WHAT IT READS IS OF BULK AT MOST 1048576: true; the input reads as it did. -/
def fnExactAllCompleteUptoRow : OpenClaim := { program := "ytpopcjamildhkaa", sum := "1d1131c7ec3d25c8bc3ca97a3a563c0ed9c47c6c7eddeed48434f70749d073af", func := "loop.example/g03009/laws.FnExactAllComplete", spec := "fnExactAllComplete", unfollowed := true, recurses := true, plainKeys := false, apart := false, narrowed := true }
def FnExactAllCompleteUptoSaid : Prop := fnExactAllCompleteUptoRow.holds Try.pinned (OpenSpec.upto fnExactAllCompleteSpec)

/-- 'laws.FnExactPreferred', WHERE WHAT IT READS IS OF BULK AT MOST 1048576: true; the input reads as it did. -/
def fnExactPreferredUptoRow : OpenClaim := { program := "ytpopcjamildhkaa", sum := "1d1131c7ec3d25c8bc3ca97a3a563c0ed9c47c6c7eddeed48434f70749d073af", func := "loop.example/g03009/laws.FnExactPreferred", spec := "fnExactPreferred", unfollowed := true, recurses := true, plainKeys := false, apart := false, narrowed := true }
def FnExactPreferredUptoSaid : Prop := fnExactPreferredUptoRow.holds Try.pinned (OpenSpec.upto fnExactPreferredSpec)

/-- 'laws.FnExactStableSets', WHERE WHAT IT READS IS OF BULK AT MOST 1048576: true; the input reads as it did. -/
def fnExactStableSetsUptoRow : OpenClaim := { program := "ytpopcjamildhkaa", sum := "1d1131c7ec3d25c8bc3ca97a3a563c0ed9c47c6c7eddeed48434f70749d073af", func := "loop.example/g03009/laws.FnExactStableSets", spec := "fnExactStableSets", unfollowed := true, recurses := true, plainKeys := false, apart := false, narrowed := true }
def FnExactStableSetsUptoSaid : Prop := fnExactStableSetsUptoRow.holds Try.pinned (OpenSpec.upto fnExactStableSetsSpec)

/-- 'laws.FnExactIsCredible', WHERE WHAT IT READS IS OF BULK AT MOST 1048576: true; the input reads as it did. -/
def fnExactIsCredibleUptoRow : OpenClaim := { program := "ytpopcjamildhkaa", sum := "1d1131c7ec3d25c8bc3ca97a3a563c0ed9c47c6c7eddeed48434f70749d073af", func := "loop.example/g03009/laws.FnExactIsCredible", spec := "fnExactIsCredible", unfollowed := true, recurses := true, plainKeys := false, apart := false, narrowed := true }
def FnExactIsCredibleUptoSaid : Prop := fnExactIsCredibleUptoRow.holds Try.pinned (OpenSpec.upto fnExactIsCredibleSpec)

/-- 'laws.FnExactIsCertain', WHERE WHAT IT READS IS OF BULK AT MOST 1048576: true; the input reads as it did. -/
def fnExactIsCertainUptoRow : OpenClaim := { program := "ytpopcjamildhkaa", sum := "1d1131c7ec3d25c8bc3ca97a3a563c0ed9c47c6c7eddeed48434f70749d073af", func := "loop.example/g03009/laws.FnExactIsCertain", spec := "fnExactIsCertain", unfollowed := true, recurses := true, plainKeys := false, apart := false, narrowed := true }
def FnExactIsCertainUptoSaid : Prop := fnExactIsCertainUptoRow.holds Try.pinned (OpenSpec.upto fnExactIsCertainSpec)

end Rows
end Go.Proofs.Ytpopcjamildhkaa
