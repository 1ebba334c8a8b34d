/-
  No cell of these rows narrows 'for every input' (looked for: loops, veiled, ifaces, maps, wideKeys, modest, calm, conditions, laid).
  DERIVED. THE GIVEN ROWS OF THIS SEAT. 12 by the template 'for every input the law returns true; each argument reads behind the call as it read before'; 0 by the template 'total and deterministic' (their statements: YtdpaoaoipnoiiaaTotals.lean).
  GIVEN WITH THE SEED: the statements are not yours to turn. If you find one false, say at which input.
  Laid BY PROGRAM, IN A SANDBOX (cutbox-rows.mjs): the forced cells as the released guide's own fill.sh prints them over the translation 2a72bc14b49fbe1e… (all of the seat's roots in one cut). By AI agents, Wed Nov 11 2026. No macro, syntax, notation, axiom, sorry.
-/
import Derived.Test.YtdpaoaoipnoiiaaChecked
import GoSem.Claim
import GoSem.ClaimJoined
import GoSem.ClaimMapViews
import Derived.JoinedTies
import Derived.KernelRfl
namespace Go.Proofs.Ytdpaoaoipnoiiaa
/- THE CELL 'sum', in the pinned program and in every row, IS THE sha256 OF THE DUMP (.gsa) THAT YtdpaoaoipnoiiaaProg.lean LOADS. Nothing in Lean hashes anything: it is a label: what it is worth is what the hold of that sum in a sandbox is worth. -/
noncomputable def Try.pinned : Pinned := { name := "ytdpaoaoipnoiiaa", sum := "2a72bc14b49fbe1e99775e5741681135f15b9092dbc12a313f5e2872410406ae", checked := Try.checked }
namespace Rows
def none {H : Type} : Left H := { results := [], args := [] }

/-- 'laws.FnRatings': WHATEVER THE INPUT: true; the input reads as it did. -/
def fnRatingsSpec : ChangeSpec := { name := "fnRatings", fn := fun _ => fun
  | [d] => { results := [.lit (.bool true)], args := [d] }
  | _ => none }
def fnRatingsRow : OpenClaim := { program := "ytdpaoaoipnoiiaa", sum := "2a72bc14b49fbe1e99775e5741681135f15b9092dbc12a313f5e2872410406ae", func := "loop.example/g03009/laws.FnRatings", spec := "fnRatings", unfollowed := true, recurses := true, apart := false }
def FnRatingsSaid : Prop := fnRatingsRow.holds Try.pinned (OpenSpec.ofChange fnRatingsSpec)

/-- ITS FALSE NEIGHBOUR: 'it returns false'. Refute it at one input. -/
def fnRatingsWrong : ChangeSpec := { name := "fnRatings", fn := fun _ => fun
  | [d] => { results := [.lit (.bool false)], args := [d] }
  | _ => none }
def FnRatingsWrongFalsely : Prop := fnRatingsRow.holds Try.pinned (OpenSpec.ofChange fnRatingsWrong)

/-- 'laws.FnMeetings': WHATEVER THE INPUT: true; the input reads as it did. -/
def fnMeetingsSpec : ChangeSpec := { name := "fnMeetings", fn := fun _ => fun
  | [d] => { results := [.lit (.bool true)], args := [d] }
  | _ => none }
def fnMeetingsRow : OpenClaim := { program := "ytdpaoaoipnoiiaa", sum := "2a72bc14b49fbe1e99775e5741681135f15b9092dbc12a313f5e2872410406ae", func := "loop.example/g03009/laws.FnMeetings", spec := "fnMeetings", inPlace := ["internal/abi.NoEscape"], unfollowed := true, recurses := true, apart := false }
def FnMeetingsSaid : Prop := fnMeetingsRow.holds Try.pinned (OpenSpec.ofChange fnMeetingsSpec)

/-- ITS FALSE NEIGHBOUR: 'it returns false'. Refute it at one input. -/
def fnMeetingsWrong : ChangeSpec := { name := "fnMeetings", fn := fun _ => fun
  | [d] => { results := [.lit (.bool false)], args := [d] }
  | _ => none }
def FnMeetingsWrongFalsely : Prop := fnMeetingsRow.holds Try.pinned (OpenSpec.ofChange fnMeetingsWrong)

/-- 'laws.FnExactExpected': WHATEVER THE INPUT: true; the input reads as it did. -/
def fnExactExpectedSpec : ChangeSpec := { name := "fnExactExpected", fn := fun _ => fun
  | [d1, d2] => { results := [.lit (.bool true)], args := [d1, d2] }
  | _ => none }
def fnExactExpectedRow : OpenClaim := { program := "ytdpaoaoipnoiiaa", sum := "2a72bc14b49fbe1e99775e5741681135f15b9092dbc12a313f5e2872410406ae", func := "loop.example/g03009/laws.FnExactExpected", spec := "fnExactExpected", apart := false }
def FnExactExpectedSaid : Prop := fnExactExpectedRow.holds Try.pinned (OpenSpec.ofChange fnExactExpectedSpec)

/-- ITS FALSE NEIGHBOUR: 'it returns false'. Refute it at one input. -/
def fnExactExpectedWrong : ChangeSpec := { name := "fnExactExpected", fn := fun _ => fun
  | [d1, d2] => { results := [.lit (.bool false)], args := [d1, d2] }
  | _ => none }
def FnExactExpectedWrongFalsely : Prop := fnExactExpectedRow.holds Try.pinned (OpenSpec.ofChange fnExactExpectedWrong)

/-- 'laws.FnExactExchange': WHATEVER THE INPUT: true; the input reads as it did. -/
def fnExactExchangeSpec : ChangeSpec := { name := "fnExactExchange", fn := fun _ => fun
  | [d1, d2, d3] => { results := [.lit (.bool true)], args := [d1, d2, d3] }
  | _ => none }
def fnExactExchangeRow : OpenClaim := { program := "ytdpaoaoipnoiiaa", sum := "2a72bc14b49fbe1e99775e5741681135f15b9092dbc12a313f5e2872410406ae", func := "loop.example/g03009/laws.FnExactExchange", spec := "fnExactExchange", apart := false }
def FnExactExchangeSaid : Prop := fnExactExchangeRow.holds Try.pinned (OpenSpec.ofChange fnExactExchangeSpec)

/-- ITS FALSE NEIGHBOUR: 'it returns false'. Refute it at one input. -/
def fnExactExchangeWrong : ChangeSpec := { name := "fnExactExchange", fn := fun _ => fun
  | [d1, d2, d3] => { results := [.lit (.bool false)], args := [d1, d2, d3] }
  | _ => none }
def FnExactExchangeWrongFalsely : Prop := fnExactExchangeRow.holds Try.pinned (OpenSpec.ofChange fnExactExchangeWrong)

/-- 'laws.FnExactAfterDebate': WHATEVER THE INPUT: true; the input reads as it did. -/
def fnExactAfterDebateSpec : ChangeSpec := { name := "fnExactAfterDebate", fn := fun _ => fun
  | [d1, d2, d3] => { results := [.lit (.bool true)], args := [d1, d2, d3] }
  | _ => none }
def fnExactAfterDebateRow : OpenClaim := { program := "ytdpaoaoipnoiiaa", sum := "2a72bc14b49fbe1e99775e5741681135f15b9092dbc12a313f5e2872410406ae", func := "loop.example/g03009/laws.FnExactAfterDebate", spec := "fnExactAfterDebate", apart := false }
def FnExactAfterDebateSaid : Prop := fnExactAfterDebateRow.holds Try.pinned (OpenSpec.ofChange fnExactAfterDebateSpec)

/-- ITS FALSE NEIGHBOUR: 'it returns false'. Refute it at one input. -/
def fnExactAfterDebateWrong : ChangeSpec := { name := "fnExactAfterDebate", fn := fun _ => fun
  | [d1, d2, d3] => { results := [.lit (.bool false)], args := [d1, d2, d3] }
  | _ => none }
def FnExactAfterDebateWrongFalsely : Prop := fnExactAfterDebateRow.holds Try.pinned (OpenSpec.ofChange fnExactAfterDebateWrong)

/-- 'laws.FnExactRateAll': WHATEVER THE INPUT: true; the input reads as it did. -/
def fnExactRateAllSpec : ChangeSpec := { name := "fnExactRateAll", fn := fun _ => fun
  | [d1, d2] => { results := [.lit (.bool true)], args := [d1, d2] }
  | _ => none }
def fnExactRateAllRow : OpenClaim := { program := "ytdpaoaoipnoiiaa", sum := "2a72bc14b49fbe1e99775e5741681135f15b9092dbc12a313f5e2872410406ae", func := "loop.example/g03009/laws.FnExactRateAll", spec := "fnExactRateAll", unfollowed := true, recurses := true, apart := false }
def FnExactRateAllSaid : Prop := fnExactRateAllRow.holds Try.pinned (OpenSpec.ofChange fnExactRateAllSpec)

/-- ITS FALSE NEIGHBOUR: 'it returns false'. Refute it at one input. -/
def fnExactRateAllWrong : ChangeSpec := { name := "fnExactRateAll", fn := fun _ => fun
  | [d1, d2] => { results := [.lit (.bool false)], args := [d1, d2] }
  | _ => none }
def FnExactRateAllWrongFalsely : Prop := fnExactRateAllRow.holds Try.pinned (OpenSpec.ofChange fnExactRateAllWrong)

/-- 'laws.FnExactSumRatings': WHATEVER THE INPUT: true; the input reads as it did. -/
def fnExactSumRatingsSpec : ChangeSpec := { name := "fnExactSumRatings", fn := fun _ => fun
  | [d] => { results := [.lit (.bool true)], args := [d] }
  | _ => none }
def fnExactSumRatingsRow : OpenClaim := { program := "ytdpaoaoipnoiiaa", sum := "2a72bc14b49fbe1e99775e5741681135f15b9092dbc12a313f5e2872410406ae", func := "loop.example/g03009/laws.FnExactSumRatings", spec := "fnExactSumRatings", apart := false }
def FnExactSumRatingsSaid : Prop := fnExactSumRatingsRow.holds Try.pinned (OpenSpec.ofChange fnExactSumRatingsSpec)

/-- ITS FALSE NEIGHBOUR: 'it returns false'. Refute it at one input. -/
def fnExactSumRatingsWrong : ChangeSpec := { name := "fnExactSumRatings", fn := fun _ => fun
  | [d] => { results := [.lit (.bool false)], args := [d] }
  | _ => none }
def FnExactSumRatingsWrongFalsely : Prop := fnExactSumRatingsRow.holds Try.pinned (OpenSpec.ofChange fnExactSumRatingsWrong)

/-- 'laws.FnExactIsQuorum': WHATEVER THE INPUT: true; the input reads as it did. -/
def fnExactIsQuorumSpec : ChangeSpec := { name := "fnExactIsQuorum", fn := fun _ => fun
  | [d1, d2] => { results := [.lit (.bool true)], args := [d1, d2] }
  | _ => none }
def fnExactIsQuorumRow : OpenClaim := { program := "ytdpaoaoipnoiiaa", sum := "2a72bc14b49fbe1e99775e5741681135f15b9092dbc12a313f5e2872410406ae", func := "loop.example/g03009/laws.FnExactIsQuorum", spec := "fnExactIsQuorum", apart := false }
def FnExactIsQuorumSaid : Prop := fnExactIsQuorumRow.holds Try.pinned (OpenSpec.ofChange fnExactIsQuorumSpec)

/-- ITS FALSE NEIGHBOUR: 'it returns false'. Refute it at one input. -/
def fnExactIsQuorumWrong : ChangeSpec := { name := "fnExactIsQuorum", fn := fun _ => fun
  | [d1, d2] => { results := [.lit (.bool false)], args := [d1, d2] }
  | _ => none }
def FnExactIsQuorumWrongFalsely : Prop := fnExactIsQuorumRow.holds Try.pinned (OpenSpec.ofChange fnExactIsQuorumWrong)

/-- 'laws.FnExactPasses': WHATEVER THE INPUT: true; the input reads as it did. -/
def fnExactPassesSpec : ChangeSpec := { name := "fnExactPasses", fn := fun _ => fun
  | [d1, d2, d3] => { results := [.lit (.bool true)], args := [d1, d2, d3] }
  | _ => none }
def fnExactPassesRow : OpenClaim := { program := "ytdpaoaoipnoiiaa", sum := "2a72bc14b49fbe1e99775e5741681135f15b9092dbc12a313f5e2872410406ae", func := "loop.example/g03009/laws.FnExactPasses", spec := "fnExactPasses", apart := false }
def FnExactPassesSaid : Prop := fnExactPassesRow.holds Try.pinned (OpenSpec.ofChange fnExactPassesSpec)

/-- ITS FALSE NEIGHBOUR: 'it returns false'. Refute it at one input. -/
def fnExactPassesWrong : ChangeSpec := { name := "fnExactPasses", fn := fun _ => fun
  | [d1, d2, d3] => { results := [.lit (.bool false)], args := [d1, d2, d3] }
  | _ => none }
def FnExactPassesWrongFalsely : Prop := fnExactPassesRow.holds Try.pinned (OpenSpec.ofChange fnExactPassesWrong)

/-- 'laws.FnExactResolve': WHATEVER THE INPUT: true; the input reads as it did. -/
def fnExactResolveSpec : ChangeSpec := { name := "fnExactResolve", fn := fun _ => fun
  | [d1, d2, d3, d4, d5] => { results := [.lit (.bool true)], args := [d1, d2, d3, d4, d5] }
  | _ => none }
def fnExactResolveRow : OpenClaim := { program := "ytdpaoaoipnoiiaa", sum := "2a72bc14b49fbe1e99775e5741681135f15b9092dbc12a313f5e2872410406ae", func := "loop.example/g03009/laws.FnExactResolve", spec := "fnExactResolve", inPlace := ["internal/abi.NoEscape"], unfollowed := true, recurses := true, apart := false }
def FnExactResolveSaid : Prop := fnExactResolveRow.holds Try.pinned (OpenSpec.ofChange fnExactResolveSpec)

/-- ITS FALSE NEIGHBOUR: 'it returns false'. Refute it at one input. -/
def fnExactResolveWrong : ChangeSpec := { name := "fnExactResolve", fn := fun _ => fun
  | [d1, d2, d3, d4, d5] => { results := [.lit (.bool false)], args := [d1, d2, d3, d4, d5] }
  | _ => none }
def FnExactResolveWrongFalsely : Prop := fnExactResolveRow.holds Try.pinned (OpenSpec.ofChange fnExactResolveWrong)

/-- 'laws.FnExactLeastYes': WHATEVER THE INPUT: true; the input reads as it did. -/
def fnExactLeastYesSpec : ChangeSpec := { name := "fnExactLeastYes", fn := fun _ => fun
  | [d1, d2] => { results := [.lit (.bool true)], args := [d1, d2] }
  | _ => none }
def fnExactLeastYesRow : OpenClaim := { program := "ytdpaoaoipnoiiaa", sum := "2a72bc14b49fbe1e99775e5741681135f15b9092dbc12a313f5e2872410406ae", func := "loop.example/g03009/laws.FnExactLeastYes", spec := "fnExactLeastYes", apart := false }
def FnExactLeastYesSaid : Prop := fnExactLeastYesRow.holds Try.pinned (OpenSpec.ofChange fnExactLeastYesSpec)

/-- ITS FALSE NEIGHBOUR: 'it returns false'. Refute it at one input. -/
def fnExactLeastYesWrong : ChangeSpec := { name := "fnExactLeastYes", fn := fun _ => fun
  | [d1, d2] => { results := [.lit (.bool false)], args := [d1, d2] }
  | _ => none }
def FnExactLeastYesWrongFalsely : Prop := fnExactLeastYesRow.holds Try.pinned (OpenSpec.ofChange fnExactLeastYesWrong)

/-- 'laws.FnExactCastingVote': WHATEVER THE INPUT: true; the input reads as it did. -/
def fnExactCastingVoteSpec : ChangeSpec := { name := "fnExactCastingVote", fn := fun _ => fun
  | [d1, d2, d3] => { results := [.lit (.bool true)], args := [d1, d2, d3] }
  | _ => none }
def fnExactCastingVoteRow : OpenClaim := { program := "ytdpaoaoipnoiiaa", sum := "2a72bc14b49fbe1e99775e5741681135f15b9092dbc12a313f5e2872410406ae", func := "loop.example/g03009/laws.FnExactCastingVote", spec := "fnExactCastingVote", apart := false }
def FnExactCastingVoteSaid : Prop := fnExactCastingVoteRow.holds Try.pinned (OpenSpec.ofChange fnExactCastingVoteSpec)

/-- ITS FALSE NEIGHBOUR: 'it returns false'. Refute it at one input. -/
def fnExactCastingVoteWrong : ChangeSpec := { name := "fnExactCastingVote", fn := fun _ => fun
  | [d1, d2, d3] => { results := [.lit (.bool false)], args := [d1, d2, d3] }
  | _ => none }
def FnExactCastingVoteWrongFalsely : Prop := fnExactCastingVoteRow.holds Try.pinned (OpenSpec.ofChange fnExactCastingVoteWrong)

/- THE SECOND FORM. 'bulk': how many values and letters a reading holds, each counted each time it is reached (what is shared counts as often as it is met; a slice's spare places count too). A statement '..UptoSaid' is the law's where the arguments, and the package variables that the reading takes, are together of bulk at most 1048576: NARROWER than '..Said'. Prove '..Said' where nothing that the law and all that it calls make is longer than what came in: it says more and counts as full. Else prove '..UptoSaid'. A law counts once. -/
mutual
def uptoBulk {H : Type} : DataW H → Nat
  | .lit (.string bytes) => bytes.length + 1
  | .lit _ => 1
  | .nil => 1
  | .ptr d => uptoBulk d + 1
  | .slice elems spare => uptoBulkAll elems + uptoBulkAll spare + 1
  | .agg parts => uptoBulkAll parts + 1
  | .iface _ d => uptoBulk d + 1
  | .map entries => uptoBulkEntries entries + 1
  | .held _ => 1
def uptoBulkAll {H : Type} : List (DataW H) → Nat
  | [] => 0
  | d :: r => uptoBulk d + uptoBulkAll r
def uptoBulkEntries {H : Type} : List (Lit × DataW H) → Nat
  | [] => 0
  | x :: r => uptoBulkEntry x + uptoBulkEntries r
def uptoBulkEntry {H : Type} : Lit × DataW H → Nat
  | (.string bytes, d) => bytes.length + uptoBulk d + 1
  | (_, d) => uptoBulk d + 1
 end
def uptoSmall : (H : Type) → List (DataW H) → Bool := fun _ ds => decide (uptoBulkAll ds ≤ 1048576)
def OpenSpec.upto (s : _root_.Go.ChangeSpec) : _root_.Go.OpenSpec := { _root_.Go.OpenSpec.ofChange s with cond := some uptoSmall }

/-- 'laws.FnRatings', WHERE WHAT IT READS IS OF BULK AT MOST 1048576: true; the input reads as it did. -/
def fnRatingsUptoRow : OpenClaim := { program := "ytdpaoaoipnoiiaa", sum := "2a72bc14b49fbe1e99775e5741681135f15b9092dbc12a313f5e2872410406ae", func := "loop.example/g03009/laws.FnRatings", spec := "fnRatings", unfollowed := true, recurses := true, apart := false, narrowed := true }
def FnRatingsUptoSaid : Prop := fnRatingsUptoRow.holds Try.pinned (OpenSpec.upto fnRatingsSpec)

/-- 'laws.FnMeetings', WHERE WHAT IT READS IS OF BULK AT MOST 1048576: true; the input reads as it did. -/
def fnMeetingsUptoRow : OpenClaim := { program := "ytdpaoaoipnoiiaa", sum := "2a72bc14b49fbe1e99775e5741681135f15b9092dbc12a313f5e2872410406ae", func := "loop.example/g03009/laws.FnMeetings", spec := "fnMeetings", inPlace := ["internal/abi.NoEscape"], unfollowed := true, recurses := true, apart := false, narrowed := true }
def FnMeetingsUptoSaid : Prop := fnMeetingsUptoRow.holds Try.pinned (OpenSpec.upto fnMeetingsSpec)

/-- 'laws.FnExactExpected', WHERE WHAT IT READS IS OF BULK AT MOST 1048576: true; the input reads as it did. -/
def fnExactExpectedUptoRow : OpenClaim := { program := "ytdpaoaoipnoiiaa", sum := "2a72bc14b49fbe1e99775e5741681135f15b9092dbc12a313f5e2872410406ae", func := "loop.example/g03009/laws.FnExactExpected", spec := "fnExactExpected", apart := false, narrowed := true }
def FnExactExpectedUptoSaid : Prop := fnExactExpectedUptoRow.holds Try.pinned (OpenSpec.upto fnExactExpectedSpec)

/-- 'laws.FnExactExchange', WHERE WHAT IT READS IS OF BULK AT MOST 1048576: true; the input reads as it did. -/
def fnExactExchangeUptoRow : OpenClaim := { program := "ytdpaoaoipnoiiaa", sum := "2a72bc14b49fbe1e99775e5741681135f15b9092dbc12a313f5e2872410406ae", func := "loop.example/g03009/laws.FnExactExchange", spec := "fnExactExchange", apart := false, narrowed := true }
def FnExactExchangeUptoSaid : Prop := fnExactExchangeUptoRow.holds Try.pinned (OpenSpec.upto fnExactExchangeSpec)

/-- 'laws.FnExactAfterDebate', WHERE WHAT IT READS IS OF BULK AT MOST 1048576: true; the input reads as it did. -/
def fnExactAfterDebateUptoRow : OpenClaim := { program := "ytdpaoaoipnoiiaa", sum := "2a72bc14b49fbe1e99775e5741681135f15b9092dbc12a313f5e2872410406ae", func := "loop.example/g03009/laws.FnExactAfterDebate", spec := "fnExactAfterDebate", apart := false, narrowed := true }
def FnExactAfterDebateUptoSaid : Prop := fnExactAfterDebateUptoRow.holds Try.pinned (OpenSpec.upto fnExactAfterDebateSpec)

/-- 'laws.FnExactRateAll', WHERE WHAT IT READS IS OF BULK AT MOST 1048576: true; the input reads as it did. -/
def fnExactRateAllUptoRow : OpenClaim := { program := "ytdpaoaoipnoiiaa", sum := "2a72bc14b49fbe1e99775e5741681135f15b9092dbc12a313f5e2872410406ae", func := "loop.example/g03009/laws.FnExactRateAll", spec := "fnExactRateAll", unfollowed := true, recurses := true, apart := false, narrowed := true }
def FnExactRateAllUptoSaid : Prop := fnExactRateAllUptoRow.holds Try.pinned (OpenSpec.upto fnExactRateAllSpec)

/-- 'laws.FnExactSumRatings', WHERE WHAT IT READS IS OF BULK AT MOST 1048576: true; the input reads as it did. -/
def fnExactSumRatingsUptoRow : OpenClaim := { program := "ytdpaoaoipnoiiaa", sum := "2a72bc14b49fbe1e99775e5741681135f15b9092dbc12a313f5e2872410406ae", func := "loop.example/g03009/laws.FnExactSumRatings", spec := "fnExactSumRatings", apart := false, narrowed := true }
def FnExactSumRatingsUptoSaid : Prop := fnExactSumRatingsUptoRow.holds Try.pinned (OpenSpec.upto fnExactSumRatingsSpec)

/-- 'laws.FnExactIsQuorum', WHERE WHAT IT READS IS OF BULK AT MOST 1048576: true; the input reads as it did. -/
def fnExactIsQuorumUptoRow : OpenClaim := { program := "ytdpaoaoipnoiiaa", sum := "2a72bc14b49fbe1e99775e5741681135f15b9092dbc12a313f5e2872410406ae", func := "loop.example/g03009/laws.FnExactIsQuorum", spec := "fnExactIsQuorum", apart := false, narrowed := true }
def FnExactIsQuorumUptoSaid : Prop := fnExactIsQuorumUptoRow.holds Try.pinned (OpenSpec.upto fnExactIsQuorumSpec)

/-- 'laws.FnExactPasses', WHERE WHAT IT READS IS OF BULK AT MOST 1048576: true; the input reads as it did. -/
def fnExactPassesUptoRow : OpenClaim := { program := "ytdpaoaoipnoiiaa", sum := "2a72bc14b49fbe1e99775e5741681135f15b9092dbc12a313f5e2872410406ae", func := "loop.example/g03009/laws.FnExactPasses", spec := "fnExactPasses", apart := false, narrowed := true }
def FnExactPassesUptoSaid : Prop := fnExactPassesUptoRow.holds Try.pinned (OpenSpec.upto fnExactPassesSpec)

/-- 'laws.FnExactResolve', WHERE WHAT IT READS IS OF BULK AT MOST 1048576: true; the input reads as it did. -/
def fnExactResolveUptoRow : OpenClaim := { program := "ytdpaoaoipnoiiaa", sum := "2a72bc14b49fbe1e99775e5741681135f15b9092dbc12a313f5e2872410406ae", func := "loop.example/g03009/laws.FnExactResolve", spec := "fnExactResolve", inPlace := ["internal/abi.NoEscape"], unfollowed := true, recurses := true, apart := false, narrowed := true }
def FnExactResolveUptoSaid : Prop := fnExactResolveUptoRow.holds Try.pinned (OpenSpec.upto fnExactResolveSpec)

/-- 'laws.FnExactLeastYes', WHERE WHAT IT READS IS OF BULK AT MOST 1048576: true; the input reads as it did. -/
def fnExactLeastYesUptoRow : OpenClaim := { program := "ytdpaoaoipnoiiaa", sum := "2a72bc14b49fbe1e99775e5741681135f15b9092dbc12a313f5e2872410406ae", func := "loop.example/g03009/laws.FnExactLeastYes", spec := "fnExactLeastYes", apart := false, narrowed := true }
def FnExactLeastYesUptoSaid : Prop := fnExactLeastYesUptoRow.holds Try.pinned (OpenSpec.upto fnExactLeastYesSpec)

/-- 'laws.FnExactCastingVote', WHERE WHAT IT READS IS OF BULK AT MOST 1048576: true; the input reads as it did. -/
def fnExactCastingVoteUptoRow : OpenClaim := { program := "ytdpaoaoipnoiiaa", sum := "2a72bc14b49fbe1e99775e5741681135f15b9092dbc12a313f5e2872410406ae", func := "loop.example/g03009/laws.FnExactCastingVote", spec := "fnExactCastingVote", apart := false, narrowed := true }
def FnExactCastingVoteUptoSaid : Prop := fnExactCastingVoteUptoRow.holds Try.pinned (OpenSpec.upto fnExactCastingVoteSpec)

end Rows
end Go.Proofs.Ytdpaoaoipnoiiaa
