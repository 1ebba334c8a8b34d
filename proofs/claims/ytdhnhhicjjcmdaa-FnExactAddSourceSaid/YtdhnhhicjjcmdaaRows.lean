/-
  No cell of these rows narrows 'for every input' (looked for: loops, veiled, ifaces, maps, wideKeys, modest, calm, conditions, laid).
  DERIVED. THE GIVEN ROWS OF THIS SEAT. 8 by the template 'for every input the law returns true; each argument reads behind the call as it read before'; 0 by the template 'total and deterministic' (their statements: YtdhnhhicjjcmdaaTotals.lean).
  GIVEN WITH THE SEED: the statements are not yours to turn. If you find one false, say at which input.
  Laid BY PROGRAM, IN A SANDBOX (cutbox-rows.mjs): the forced cells as the released guide's own fill.sh prints them over the translation caa55bd02c713faf… (all of the seat's roots in one cut). By AI agents, Wed Nov 11 2026. No macro, syntax, notation, axiom, sorry.
-/
import Derived.Test.YtdhnhhicjjcmdaaChecked
import GoSem.Claim
import GoSem.ClaimJoined
import GoSem.ClaimMapViews
import Derived.JoinedTies
import Derived.KernelRfl
namespace Go.Proofs.Ytdhnhhicjjcmdaa
/- THE CELL 'sum', in the pinned program and in every row, IS THE sha256 OF THE DUMP (.gsa) THAT YtdhnhhicjjcmdaaProg.lean LOADS. Nothing in Lean hashes anything: it is a label: what it is worth is what the hold of that sum in a sandbox is worth. -/
noncomputable def Try.pinned : Pinned := { name := "ytdhnhhicjjcmdaa", sum := "caa55bd02c713faf81b9177b1278df04b54f515ebfe0874445f22778057cb6a9", checked := Try.checked }
namespace Rows
def none {H : Type} : Left H := { results := [], args := [] }

/-- 'laws.FnExactAreSources': WHATEVER THE INPUT: true; the input reads as it did. -/
def fnExactAreSourcesSpec : ChangeSpec := { name := "fnExactAreSources", fn := fun _ => fun
  | [d] => { results := [.lit (.bool true)], args := [d] }
  | _ => none }
def fnExactAreSourcesRow : OpenClaim := { program := "ytdhnhhicjjcmdaa", sum := "caa55bd02c713faf81b9177b1278df04b54f515ebfe0874445f22778057cb6a9", func := "loop.example/g03009/laws.FnExactAreSources", spec := "fnExactAreSources", unfollowed := true, recurses := true, apart := false }
def FnExactAreSourcesSaid : Prop := fnExactAreSourcesRow.holds Try.pinned (OpenSpec.ofChange fnExactAreSourcesSpec)

/-- ITS FALSE NEIGHBOUR: 'it returns false'. Refute it at one input. -/
def fnExactAreSourcesWrong : ChangeSpec := { name := "fnExactAreSources", fn := fun _ => fun
  | [d] => { results := [.lit (.bool false)], args := [d] }
  | _ => none }
def FnExactAreSourcesWrongFalsely : Prop := fnExactAreSourcesRow.holds Try.pinned (OpenSpec.ofChange fnExactAreSourcesWrong)

/-- 'laws.FnExactRootOf': WHATEVER THE INPUT: true; the input reads as it did. -/
def fnExactRootOfSpec : ChangeSpec := { name := "fnExactRootOf", fn := fun _ => fun
  | [d1, d2] => { results := [.lit (.bool true)], args := [d1, d2] }
  | _ => none }
def fnExactRootOfRow : OpenClaim := { program := "ytdhnhhicjjcmdaa", sum := "caa55bd02c713faf81b9177b1278df04b54f515ebfe0874445f22778057cb6a9", func := "loop.example/g03009/laws.FnExactRootOf", spec := "fnExactRootOf", unfollowed := true, recurses := true, apart := false }
def FnExactRootOfSaid : Prop := fnExactRootOfRow.holds Try.pinned (OpenSpec.ofChange fnExactRootOfSpec)

/-- ITS FALSE NEIGHBOUR: 'it returns false'. Refute it at one input. -/
def fnExactRootOfWrong : ChangeSpec := { name := "fnExactRootOf", fn := fun _ => fun
  | [d1, d2] => { results := [.lit (.bool false)], args := [d1, d2] }
  | _ => none }
def FnExactRootOfWrongFalsely : Prop := fnExactRootOfRow.holds Try.pinned (OpenSpec.ofChange fnExactRootOfWrong)

/-- 'laws.FnExactBalanceOf': WHATEVER THE INPUT: true; the input reads as it did. -/
def fnExactBalanceOfSpec : ChangeSpec := { name := "fnExactBalanceOf", fn := fun _ => fun
  | [d] => { results := [.lit (.bool true)], args := [d] }
  | _ => none }
def fnExactBalanceOfRow : OpenClaim := { program := "ytdhnhhicjjcmdaa", sum := "caa55bd02c713faf81b9177b1278df04b54f515ebfe0874445f22778057cb6a9", func := "loop.example/g03009/laws.FnExactBalanceOf", spec := "fnExactBalanceOf", unfollowed := true, recurses := true, apart := false }
def FnExactBalanceOfSaid : Prop := fnExactBalanceOfRow.holds Try.pinned (OpenSpec.ofChange fnExactBalanceOfSpec)

/-- ITS FALSE NEIGHBOUR: 'it returns false'. Refute it at one input. -/
def fnExactBalanceOfWrong : ChangeSpec := { name := "fnExactBalanceOf", fn := fun _ => fun
  | [d] => { results := [.lit (.bool false)], args := [d] }
  | _ => none }
def FnExactBalanceOfWrongFalsely : Prop := fnExactBalanceOfRow.holds Try.pinned (OpenSpec.ofChange fnExactBalanceOfWrong)

/-- 'laws.FnExactRepeatsOf': WHATEVER THE INPUT: true; the input reads as it did. -/
def fnExactRepeatsOfSpec : ChangeSpec := { name := "fnExactRepeatsOf", fn := fun _ => fun
  | [d1, d2] => { results := [.lit (.bool true)], args := [d1, d2] }
  | _ => none }
def fnExactRepeatsOfRow : OpenClaim := { program := "ytdhnhhicjjcmdaa", sum := "caa55bd02c713faf81b9177b1278df04b54f515ebfe0874445f22778057cb6a9", func := "loop.example/g03009/laws.FnExactRepeatsOf", spec := "fnExactRepeatsOf", unfollowed := true, recurses := true, apart := false }
def FnExactRepeatsOfSaid : Prop := fnExactRepeatsOfRow.holds Try.pinned (OpenSpec.ofChange fnExactRepeatsOfSpec)

/-- ITS FALSE NEIGHBOUR: 'it returns false'. Refute it at one input. -/
def fnExactRepeatsOfWrong : ChangeSpec := { name := "fnExactRepeatsOf", fn := fun _ => fun
  | [d1, d2] => { results := [.lit (.bool false)], args := [d1, d2] }
  | _ => none }
def FnExactRepeatsOfWrongFalsely : Prop := fnExactRepeatsOfRow.holds Try.pinned (OpenSpec.ofChange fnExactRepeatsOfWrong)

/-- 'laws.FnExactAddSource': WHATEVER THE INPUT: true; the input reads as it did. -/
def fnExactAddSourceSpec : ChangeSpec := { name := "fnExactAddSource", fn := fun _ => fun
  | [d1, d2] => { results := [.lit (.bool true)], args := [d1, d2] }
  | _ => none }
def fnExactAddSourceRow : OpenClaim := { program := "ytdhnhhicjjcmdaa", sum := "caa55bd02c713faf81b9177b1278df04b54f515ebfe0874445f22778057cb6a9", func := "loop.example/g03009/laws.FnExactAddSource", spec := "fnExactAddSource", unfollowed := true, recurses := true, apart := false }
def FnExactAddSourceSaid : Prop := fnExactAddSourceRow.holds Try.pinned (OpenSpec.ofChange fnExactAddSourceSpec)

/-- ITS FALSE NEIGHBOUR: 'it returns false'. Refute it at one input. -/
def fnExactAddSourceWrong : ChangeSpec := { name := "fnExactAddSource", fn := fun _ => fun
  | [d1, d2] => { results := [.lit (.bool false)], args := [d1, d2] }
  | _ => none }
def FnExactAddSourceWrongFalsely : Prop := fnExactAddSourceRow.holds Try.pinned (OpenSpec.ofChange fnExactAddSourceWrong)

/-- 'laws.FnExactIsTwisted': WHATEVER THE INPUT: true; the input reads as it did. -/
def fnExactIsTwistedSpec : ChangeSpec := { name := "fnExactIsTwisted", fn := fun _ => fun
  | [d1, d2] => { results := [.lit (.bool true)], args := [d1, d2] }
  | _ => none }
def fnExactIsTwistedRow : OpenClaim := { program := "ytdhnhhicjjcmdaa", sum := "caa55bd02c713faf81b9177b1278df04b54f515ebfe0874445f22778057cb6a9", func := "loop.example/g03009/laws.FnExactIsTwisted", spec := "fnExactIsTwisted", unfollowed := true, recurses := true, apart := false }
def FnExactIsTwistedSaid : Prop := fnExactIsTwistedRow.holds Try.pinned (OpenSpec.ofChange fnExactIsTwistedSpec)

/-- ITS FALSE NEIGHBOUR: 'it returns false'. Refute it at one input. -/
def fnExactIsTwistedWrong : ChangeSpec := { name := "fnExactIsTwisted", fn := fun _ => fun
  | [d1, d2] => { results := [.lit (.bool false)], args := [d1, d2] }
  | _ => none }
def FnExactIsTwistedWrongFalsely : Prop := fnExactIsTwistedRow.holds Try.pinned (OpenSpec.ofChange fnExactIsTwistedWrong)

/-- 'laws.FnExactLastSeal': WHATEVER THE INPUT: true; the input reads as it did. -/
def fnExactLastSealSpec : ChangeSpec := { name := "fnExactLastSeal", fn := fun _ => fun
  | [d] => { results := [.lit (.bool true)], args := [d] }
  | _ => none }
def fnExactLastSealRow : OpenClaim := { program := "ytdhnhhicjjcmdaa", sum := "caa55bd02c713faf81b9177b1278df04b54f515ebfe0874445f22778057cb6a9", func := "loop.example/g03009/laws.FnExactLastSeal", spec := "fnExactLastSeal", apart := false }
def FnExactLastSealSaid : Prop := fnExactLastSealRow.holds Try.pinned (OpenSpec.ofChange fnExactLastSealSpec)

/-- ITS FALSE NEIGHBOUR: 'it returns false'. Refute it at one input. -/
def fnExactLastSealWrong : ChangeSpec := { name := "fnExactLastSeal", fn := fun _ => fun
  | [d] => { results := [.lit (.bool false)], args := [d] }
  | _ => none }
def FnExactLastSealWrongFalsely : Prop := fnExactLastSealRow.holds Try.pinned (OpenSpec.ofChange fnExactLastSealWrong)

/-- 'laws.FnExactLinesOf': WHATEVER THE INPUT: true; the input reads as it did. -/
def fnExactLinesOfSpec : ChangeSpec := { name := "fnExactLinesOf", fn := fun _ => fun
  | [d1, d2] => { results := [.lit (.bool true)], args := [d1, d2] }
  | _ => none }
def fnExactLinesOfRow : OpenClaim := { program := "ytdhnhhicjjcmdaa", sum := "caa55bd02c713faf81b9177b1278df04b54f515ebfe0874445f22778057cb6a9", func := "loop.example/g03009/laws.FnExactLinesOf", spec := "fnExactLinesOf", apart := false }
def FnExactLinesOfSaid : Prop := fnExactLinesOfRow.holds Try.pinned (OpenSpec.ofChange fnExactLinesOfSpec)

/-- ITS FALSE NEIGHBOUR: 'it returns false'. Refute it at one input. -/
def fnExactLinesOfWrong : ChangeSpec := { name := "fnExactLinesOf", fn := fun _ => fun
  | [d1, d2] => { results := [.lit (.bool false)], args := [d1, d2] }
  | _ => none }
def FnExactLinesOfWrongFalsely : Prop := fnExactLinesOfRow.holds Try.pinned (OpenSpec.ofChange fnExactLinesOfWrong)

/- THE SECOND FORM. 'bulk': how many values and letters a reading holds, each counted each time it is reached (what is shared counts as often as it is met; a slice's spare places count too). A statement '..UptoSaid' is the law's where the arguments, and the package variables that the reading takes, are together of bulk at most 1048576: NARROWER than '..Said'. Prove '..Said' where nothing that the law and all that it calls make is longer than what came in: it says more and counts as full. Else prove '..UptoSaid'. A law counts once. -/
mutual
def uptoBulk {H : Type} : DataW H → Nat
  | .lit (.string bytes) => bytes.length + 1
  | .lit _ => 1
  | .nil => 1
  | .ptr d => uptoBulk d + 1
  | .slice elems spare => uptoBulkAll elems + uptoBulkAll spare + 1
  | .agg parts => uptoBulkAll parts + 1
  | .iface _ d => uptoBulk d + 1
  | .map entries => uptoBulkEntries entries + 1
  | .held _ => 1
def uptoBulkAll {H : Type} : List (DataW H) → Nat
  | [] => 0
  | d :: r => uptoBulk d + uptoBulkAll r
def uptoBulkEntries {H : Type} : List (Lit × DataW H) → Nat
  | [] => 0
  | x :: r => uptoBulkEntry x + uptoBulkEntries r
def uptoBulkEntry {H : Type} : Lit × DataW H → Nat
  | (.string bytes, d) => bytes.length + uptoBulk d + 1
  | (_, d) => uptoBulk d + 1
 end
def uptoSmall : (H : Type) → List (DataW H) → Bool := fun _ ds => decide (uptoBulkAll ds ≤ 1048576)
def OpenSpec.upto (s : _root_.Go.ChangeSpec) : _root_.Go.OpenSpec := { _root_.Go.OpenSpec.ofChange s with cond := some uptoSmall }

/-- 'laws.FnExactAreSources', WHERE WHAT IT READS IS OF BULK AT MOST 1048576: true; the input reads as it did. -/
def fnExactAreSourcesUptoRow : OpenClaim := { program := "ytdhnhhicjjcmdaa", sum := "caa55bd02c713faf81b9177b1278df04b54f515ebfe0874445f22778057cb6a9", func := "loop.example/g03009/laws.FnExactAreSources", spec := "fnExactAreSources", unfollowed := true, recurses := true, apart := false, narrowed := true }
def FnExactAreSourcesUptoSaid : Prop := fnExactAreSourcesUptoRow.holds Try.pinned (OpenSpec.upto fnExactAreSourcesSpec)

/-- 'laws.FnExactRootOf', WHERE WHAT IT READS IS OF BULK AT MOST 1048576: true; the input reads as it did. -/
def fnExactRootOfUptoRow : OpenClaim := { program := "ytdhnhhicjjcmdaa", sum := "caa55bd02c713faf81b9177b1278df04b54f515ebfe0874445f22778057cb6a9", func := "loop.example/g03009/laws.FnExactRootOf", spec := "fnExactRootOf", unfollowed := true, recurses := true, apart := false, narrowed := true }
def FnExactRootOfUptoSaid : Prop := fnExactRootOfUptoRow.holds Try.pinned (OpenSpec.upto fnExactRootOfSpec)

/-- 'laws.FnExactBalanceOf', WHERE WHAT IT READS IS OF BULK AT MOST 1048576: true; the input reads as it did. -/
def fnExactBalanceOfUptoRow : OpenClaim := { program := "ytdhnhhicjjcmdaa", sum := "caa55bd02c713faf81b9177b1278df04b54f515ebfe0874445f22778057cb6a9", func := "loop.example/g03009/laws.FnExactBalanceOf", spec := "fnExactBalanceOf", unfollowed := true, recurses := true, apart := false, narrowed := true }
def FnExactBalanceOfUptoSaid : Prop := fnExactBalanceOfUptoRow.holds Try.pinned (OpenSpec.upto fnExactBalanceOfSpec)

/-- 'laws.FnExactRepeatsOf', WHERE WHAT IT READS IS OF BULK AT MOST 1048576: true; the input reads as it did. -/
def fnExactRepeatsOfUptoRow : OpenClaim := { program := "ytdhnhhicjjcmdaa", sum := "caa55bd02c713faf81b9177b1278df04b54f515ebfe0874445f22778057cb6a9", func := "loop.example/g03009/laws.FnExactRepeatsOf", spec := "fnExactRepeatsOf", unfollowed := true, recurses := true, apart := false, narrowed := true }
def FnExactRepeatsOfUptoSaid : Prop := fnExactRepeatsOfUptoRow.holds Try.pinned (OpenSpec.upto fnExactRepeatsOfSpec)

/-- 'laws.FnExactAddSource', WHERE WHAT IT READS IS OF BULK AT MOST 1048576: true; the input reads as it did. -/
def fnExactAddSourceUptoRow : OpenClaim := { program := "ytdhnhhicjjcmdaa", sum := "caa55bd02c713faf81b9177b1278df04b54f515ebfe0874445f22778057cb6a9", func := "loop.example/g03009/laws.FnExactAddSource", spec := "fnExactAddSource", unfollowed := true, recurses := true, apart := false, narrowed := true }
def FnExactAddSourceUptoSaid : Prop := fnExactAddSourceUptoRow.holds Try.pinned (OpenSpec.upto fnExactAddSourceSpec)

/-- 'laws.FnExactIsTwisted', WHERE WHAT IT READS IS OF BULK AT MOST 1048576: true; the input reads as it did. -/
def fnExactIsTwistedUptoRow : OpenClaim := { program := "ytdhnhhicjjcmdaa", sum := "caa55bd02c713faf81b9177b1278df04b54f515ebfe0874445f22778057cb6a9", func := "loop.example/g03009/laws.FnExactIsTwisted", spec := "fnExactIsTwisted", unfollowed := true, recurses := true, apart := false, narrowed := true }
def FnExactIsTwistedUptoSaid : Prop := fnExactIsTwistedUptoRow.holds Try.pinned (OpenSpec.upto fnExactIsTwistedSpec)

/-- 'laws.FnExactLastSeal', WHERE WHAT IT READS IS OF BULK AT MOST 1048576: true; the input reads as it did. -/
def fnExactLastSealUptoRow : OpenClaim := { program := "ytdhnhhicjjcmdaa", sum := "caa55bd02c713faf81b9177b1278df04b54f515ebfe0874445f22778057cb6a9", func := "loop.example/g03009/laws.FnExactLastSeal", spec := "fnExactLastSeal", apart := false, narrowed := true }
def FnExactLastSealUptoSaid : Prop := fnExactLastSealUptoRow.holds Try.pinned (OpenSpec.upto fnExactLastSealSpec)

/-- 'laws.FnExactLinesOf', WHERE WHAT IT READS IS OF BULK AT MOST 1048576: true; the input reads as it did. -/
def fnExactLinesOfUptoRow : OpenClaim := { program := "ytdhnhhicjjcmdaa", sum := "caa55bd02c713faf81b9177b1278df04b54f515ebfe0874445f22778057cb6a9", func := "loop.example/g03009/laws.FnExactLinesOf", spec := "fnExactLinesOf", apart := false, narrowed := true }
def FnExactLinesOfUptoSaid : Prop := fnExactLinesOfUptoRow.holds Try.pinned (OpenSpec.upto fnExactLinesOfSpec)

end Rows
end Go.Proofs.Ytdhnhhicjjcmdaa
