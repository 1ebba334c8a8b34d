/-
  No cell of these rows narrows 'for every input' (looked for: loops, veiled, ifaces, maps, wideKeys, modest, calm, conditions, laid).
  DERIVED. THE GIVEN ROWS OF THIS SEAT. 10 by the template 'for every input the law returns true; each argument reads behind the call as it read before'; 0 by the template 'total and deterministic' (their statements: YtignchefkihdaaaTotals.lean).
  GIVEN WITH THE SEED: the statements are not yours to turn. If you find one false, say at which input.
  Laid BY PROGRAM, IN A SANDBOX (cutbox-rows.mjs): the forced cells as the released guide's own fill.sh prints them over the translation cf48203a09d7ec4a… (all of the seat's roots in one cut). By AI agents, Wed Nov 11 2026. No macro, syntax, notation, axiom, sorry.
-/
import Derived.Test.YtignchefkihdaaaChecked
import GoSem.Claim
import GoSem.ClaimJoined
import GoSem.ClaimMapViews
import Derived.JoinedTies
import Derived.KernelRfl
namespace Go.Proofs.Ytignchefkihdaaa
/- THE CELL 'sum', in the pinned program and in every row, IS THE sha256 OF THE DUMP (.gsa) THAT YtignchefkihdaaaProg.lean LOADS. Nothing in Lean hashes anything: it is a label: what it is worth is what the hold of that sum in a sandbox is worth. -/
noncomputable def Try.pinned : Pinned := { name := "ytignchefkihdaaa", sum := "cf48203a09d7ec4acce7ae05e0117387d275a30a8e0bd3c918b49f9e35786556", checked := Try.checked }
namespace Rows
def none {H : Type} : Left H := { results := [], args := [] }

/-- 'laws.FnStores': WHATEVER THE INPUT: true; the input reads as it did. -/
def fnStoresSpec : ChangeSpec := { name := "fnStores", fn := fun _ => fun
  | [d] => { results := [.lit (.bool true)], args := [d] }
  | _ => none }
def fnStoresRow : OpenClaim := { program := "ytignchefkihdaaa", sum := "cf48203a09d7ec4acce7ae05e0117387d275a30a8e0bd3c918b49f9e35786556", func := "loop.example/g03009/laws.FnStores", spec := "fnStores", unfollowed := true, recurses := true, apart := false }
def FnStoresSaid : Prop := fnStoresRow.holds Try.pinned (OpenSpec.ofChange fnStoresSpec)

/-- ITS FALSE NEIGHBOUR: 'it returns false'. Refute it at one input. -/
def fnStoresWrong : ChangeSpec := { name := "fnStores", fn := fun _ => fun
  | [d] => { results := [.lit (.bool false)], args := [d] }
  | _ => none }
def FnStoresWrongFalsely : Prop := fnStoresRow.holds Try.pinned (OpenSpec.ofChange fnStoresWrong)

/-- 'laws.FnBurdens': WHATEVER THE INPUT: true; the input reads as it did. -/
def fnBurdensSpec : ChangeSpec := { name := "fnBurdens", fn := fun _ => fun
  | [d] => { results := [.lit (.bool true)], args := [d] }
  | _ => none }
def fnBurdensRow : OpenClaim := { program := "ytignchefkihdaaa", sum := "cf48203a09d7ec4acce7ae05e0117387d275a30a8e0bd3c918b49f9e35786556", func := "loop.example/g03009/laws.FnBurdens", spec := "fnBurdens", inPlace := ["slices.overlaps[loop.example/g03009/impl.Point]"], unfollowed := true, recurses := true, apart := false }
def FnBurdensSaid : Prop := fnBurdensRow.holds Try.pinned (OpenSpec.ofChange fnBurdensSpec)

/-- ITS FALSE NEIGHBOUR: 'it returns false'. Refute it at one input. -/
def fnBurdensWrong : ChangeSpec := { name := "fnBurdens", fn := fun _ => fun
  | [d] => { results := [.lit (.bool false)], args := [d] }
  | _ => none }
def FnBurdensWrongFalsely : Prop := fnBurdensRow.holds Try.pinned (OpenSpec.ofChange fnBurdensWrong)

/-- 'laws.FnClocks': WHATEVER THE INPUT: true; the input reads as it did. -/
def fnClocksSpec : ChangeSpec := { name := "fnClocks", fn := fun _ => fun
  | [d] => { results := [.lit (.bool true)], args := [d] }
  | _ => none }
def fnClocksRow : OpenClaim := { program := "ytignchefkihdaaa", sum := "cf48203a09d7ec4acce7ae05e0117387d275a30a8e0bd3c918b49f9e35786556", func := "loop.example/g03009/laws.FnClocks", spec := "fnClocks", unfollowed := true, recurses := true, apart := false }
def FnClocksSaid : Prop := fnClocksRow.holds Try.pinned (OpenSpec.ofChange fnClocksSpec)

/-- ITS FALSE NEIGHBOUR: 'it returns false'. Refute it at one input. -/
def fnClocksWrong : ChangeSpec := { name := "fnClocks", fn := fun _ => fun
  | [d] => { results := [.lit (.bool false)], args := [d] }
  | _ => none }
def FnClocksWrongFalsely : Prop := fnClocksRow.holds Try.pinned (OpenSpec.ofChange fnClocksWrong)

/-- 'laws.FnOrders': WHATEVER THE INPUT: true; the input reads as it did. -/
def fnOrdersSpec : ChangeSpec := { name := "fnOrders", fn := fun _ => fun
  | [d] => { results := [.lit (.bool true)], args := [d] }
  | _ => none }
def fnOrdersRow : OpenClaim := { program := "ytignchefkihdaaa", sum := "cf48203a09d7ec4acce7ae05e0117387d275a30a8e0bd3c918b49f9e35786556", func := "loop.example/g03009/laws.FnOrders", spec := "fnOrders", unfollowed := true, recurses := true, apart := false }
def FnOrdersSaid : Prop := fnOrdersRow.holds Try.pinned (OpenSpec.ofChange fnOrdersSpec)

/-- ITS FALSE NEIGHBOUR: 'it returns false'. Refute it at one input. -/
def fnOrdersWrong : ChangeSpec := { name := "fnOrders", fn := fun _ => fun
  | [d] => { results := [.lit (.bool false)], args := [d] }
  | _ => none }
def FnOrdersWrongFalsely : Prop := fnOrdersRow.holds Try.pinned (OpenSpec.ofChange fnOrdersWrong)

/-- 'laws.FnExactRaise': WHATEVER THE INPUT: true; the input reads as it did. -/
def fnExactRaiseSpec : ChangeSpec := { name := "fnExactRaise", fn := fun _ => fun
  | [d1, d2, d3] => { results := [.lit (.bool true)], args := [d1, d2, d3] }
  | _ => none }
def fnExactRaiseRow : OpenClaim := { program := "ytignchefkihdaaa", sum := "cf48203a09d7ec4acce7ae05e0117387d275a30a8e0bd3c918b49f9e35786556", func := "loop.example/g03009/laws.FnExactRaise", spec := "fnExactRaise", inPlace := ["slices.overlaps[loop.example/g03009/impl.Point]"], unfollowed := true, recurses := true, apart := false }
def FnExactRaiseSaid : Prop := fnExactRaiseRow.holds Try.pinned (OpenSpec.ofChange fnExactRaiseSpec)

/-- ITS FALSE NEIGHBOUR: 'it returns false'. Refute it at one input. -/
def fnExactRaiseWrong : ChangeSpec := { name := "fnExactRaise", fn := fun _ => fun
  | [d1, d2, d3] => { results := [.lit (.bool false)], args := [d1, d2, d3] }
  | _ => none }
def FnExactRaiseWrongFalsely : Prop := fnExactRaiseRow.holds Try.pinned (OpenSpec.ofChange fnExactRaiseWrong)

/-- 'laws.FnExactReply': WHATEVER THE INPUT: true; the input reads as it did. -/
def fnExactReplySpec : ChangeSpec := { name := "fnExactReply", fn := fun _ => fun
  | [d1, d2, d3, d4] => { results := [.lit (.bool true)], args := [d1, d2, d3, d4] }
  | _ => none }
def fnExactReplyRow : OpenClaim := { program := "ytignchefkihdaaa", sum := "cf48203a09d7ec4acce7ae05e0117387d275a30a8e0bd3c918b49f9e35786556", func := "loop.example/g03009/laws.FnExactReply", spec := "fnExactReply", unfollowed := true, recurses := true, apart := false }
def FnExactReplySaid : Prop := fnExactReplyRow.holds Try.pinned (OpenSpec.ofChange fnExactReplySpec)

/-- ITS FALSE NEIGHBOUR: 'it returns false'. Refute it at one input. -/
def fnExactReplyWrong : ChangeSpec := { name := "fnExactReply", fn := fun _ => fun
  | [d1, d2, d3, d4] => { results := [.lit (.bool false)], args := [d1, d2, d3, d4] }
  | _ => none }
def FnExactReplyWrongFalsely : Prop := fnExactReplyRow.holds Try.pinned (OpenSpec.ofChange fnExactReplyWrong)

/-- 'laws.FnExactMustSpeak': WHATEVER THE INPUT: true; the input reads as it did. -/
def fnExactMustSpeakSpec : ChangeSpec := { name := "fnExactMustSpeak", fn := fun _ => fun
  | [d1, d2] => { results := [.lit (.bool true)], args := [d1, d2] }
  | _ => none }
def fnExactMustSpeakRow : OpenClaim := { program := "ytignchefkihdaaa", sum := "cf48203a09d7ec4acce7ae05e0117387d275a30a8e0bd3c918b49f9e35786556", func := "loop.example/g03009/laws.FnExactMustSpeak", spec := "fnExactMustSpeak", unfollowed := true, recurses := true, apart := false }
def FnExactMustSpeakSaid : Prop := fnExactMustSpeakRow.holds Try.pinned (OpenSpec.ofChange fnExactMustSpeakSpec)

/-- ITS FALSE NEIGHBOUR: 'it returns false'. Refute it at one input. -/
def fnExactMustSpeakWrong : ChangeSpec := { name := "fnExactMustSpeak", fn := fun _ => fun
  | [d1, d2] => { results := [.lit (.bool false)], args := [d1, d2] }
  | _ => none }
def FnExactMustSpeakWrongFalsely : Prop := fnExactMustSpeakRow.holds Try.pinned (OpenSpec.ofChange fnExactMustSpeakWrong)

/-- 'laws.FnExactIsSettled': WHATEVER THE INPUT: true; the input reads as it did. -/
def fnExactIsSettledSpec : ChangeSpec := { name := "fnExactIsSettled", fn := fun _ => fun
  | [d] => { results := [.lit (.bool true)], args := [d] }
  | _ => none }
def fnExactIsSettledRow : OpenClaim := { program := "ytignchefkihdaaa", sum := "cf48203a09d7ec4acce7ae05e0117387d275a30a8e0bd3c918b49f9e35786556", func := "loop.example/g03009/laws.FnExactIsSettled", spec := "fnExactIsSettled", unfollowed := true, recurses := true, apart := false }
def FnExactIsSettledSaid : Prop := fnExactIsSettledRow.holds Try.pinned (OpenSpec.ofChange fnExactIsSettledSpec)

/-- ITS FALSE NEIGHBOUR: 'it returns false'. Refute it at one input. -/
def fnExactIsSettledWrong : ChangeSpec := { name := "fnExactIsSettled", fn := fun _ => fun
  | [d] => { results := [.lit (.bool false)], args := [d] }
  | _ => none }
def FnExactIsSettledWrongFalsely : Prop := fnExactIsSettledRow.holds Try.pinned (OpenSpec.ofChange fnExactIsSettledWrong)

/-- 'laws.FnExactTurnOrder': WHATEVER THE INPUT: true; the input reads as it did. -/
def fnExactTurnOrderSpec : ChangeSpec := { name := "fnExactTurnOrder", fn := fun _ => fun
  | [d1, d2] => { results := [.lit (.bool true)], args := [d1, d2] }
  | _ => none }
def fnExactTurnOrderRow : OpenClaim := { program := "ytignchefkihdaaa", sum := "cf48203a09d7ec4acce7ae05e0117387d275a30a8e0bd3c918b49f9e35786556", func := "loop.example/g03009/laws.FnExactTurnOrder", spec := "fnExactTurnOrder", apart := false }
def FnExactTurnOrderSaid : Prop := fnExactTurnOrderRow.holds Try.pinned (OpenSpec.ofChange fnExactTurnOrderSpec)

/-- ITS FALSE NEIGHBOUR: 'it returns false'. Refute it at one input. -/
def fnExactTurnOrderWrong : ChangeSpec := { name := "fnExactTurnOrder", fn := fun _ => fun
  | [d1, d2] => { results := [.lit (.bool false)], args := [d1, d2] }
  | _ => none }
def FnExactTurnOrderWrongFalsely : Prop := fnExactTurnOrderRow.holds Try.pinned (OpenSpec.ofChange fnExactTurnOrderWrong)

/-- 'laws.FnExactRightOfReply': WHATEVER THE INPUT: true; the input reads as it did. -/
def fnExactRightOfReplySpec : ChangeSpec := { name := "fnExactRightOfReply", fn := fun _ => fun
  | [d1, d2] => { results := [.lit (.bool true)], args := [d1, d2] }
  | _ => none }
def fnExactRightOfReplyRow : OpenClaim := { program := "ytignchefkihdaaa", sum := "cf48203a09d7ec4acce7ae05e0117387d275a30a8e0bd3c918b49f9e35786556", func := "loop.example/g03009/laws.FnExactRightOfReply", spec := "fnExactRightOfReply", unfollowed := true, recurses := true, apart := false }
def FnExactRightOfReplySaid : Prop := fnExactRightOfReplyRow.holds Try.pinned (OpenSpec.ofChange fnExactRightOfReplySpec)

/-- ITS FALSE NEIGHBOUR: 'it returns false'. Refute it at one input. -/
def fnExactRightOfReplyWrong : ChangeSpec := { name := "fnExactRightOfReply", fn := fun _ => fun
  | [d1, d2] => { results := [.lit (.bool false)], args := [d1, d2] }
  | _ => none }
def FnExactRightOfReplyWrongFalsely : Prop := fnExactRightOfReplyRow.holds Try.pinned (OpenSpec.ofChange fnExactRightOfReplyWrong)

/- THE SECOND FORM. 'bulk': how many values and letters a reading holds, each counted each time it is reached (what is shared counts as often as it is met; a slice's spare places count too). A statement '..UptoSaid' is the law's where the arguments, and the package variables that the reading takes, are together of bulk at most 1048576: NARROWER than '..Said'. Prove '..Said' where nothing that the law and all that it calls make is longer than what came in: it says more and counts as full. Else prove '..UptoSaid'. A law counts once. -/
mutual
def uptoBulk {H : Type} : DataW H → Nat
  | .lit (.string bytes) => bytes.length + 1
  | .lit _ => 1
  | .nil => 1
  | .ptr d => uptoBulk d + 1
  | .slice elems spare => uptoBulkAll elems + uptoBulkAll spare + 1
  | .agg parts => uptoBulkAll parts + 1
  | .iface _ d => uptoBulk d + 1
  | .map entries => uptoBulkEntries entries + 1
  | .held _ => 1
def uptoBulkAll {H : Type} : List (DataW H) → Nat
  | [] => 0
  | d :: r => uptoBulk d + uptoBulkAll r
def uptoBulkEntries {H : Type} : List (Lit × DataW H) → Nat
  | [] => 0
  | x :: r => uptoBulkEntry x + uptoBulkEntries r
def uptoBulkEntry {H : Type} : Lit × DataW H → Nat
  | (.string bytes, d) => bytes.length + uptoBulk d + 1
  | (_, d) => uptoBulk d + 1
 end
def uptoSmall : (H : Type) → List (DataW H) → Bool := fun _ ds => decide (uptoBulkAll ds ≤ 1048576)
def OpenSpec.upto (s : _root_.Go.ChangeSpec) : _root_.Go.OpenSpec := { _root_.Go.OpenSpec.ofChange s with cond := some uptoSmall }

/-- 'laws.FnStores', WHERE WHAT IT READS IS OF BULK AT MOST 1048576: true; the input reads as it did. -/
def fnStoresUptoRow : OpenClaim := { program := "ytignchefkihdaaa", sum := "cf48203a09d7ec4acce7ae05e0117387d275a30a8e0bd3c918b49f9e35786556", func := "loop.example/g03009/laws.FnStores", spec := "fnStores", unfollowed := true, recurses := true, apart := false, narrowed := true }
def FnStoresUptoSaid : Prop := fnStoresUptoRow.holds Try.pinned (OpenSpec.upto fnStoresSpec)

/-- 'laws.FnBurdens', WHERE WHAT IT READS IS OF BULK AT MOST 1048576: true; the input reads as it did. -/
def fnBurdensUptoRow : OpenClaim := { program := "ytignchefkihdaaa", sum := "cf48203a09d7ec4acce7ae05e0117387d275a30a8e0bd3c918b49f9e35786556", func := "loop.example/g03009/laws.FnBurdens", spec := "fnBurdens", inPlace := ["slices.overlaps[loop.example/g03009/impl.Point]"], unfollowed := true, recurses := true, apart := false, narrowed := true }
def FnBurdensUptoSaid : Prop := fnBurdensUptoRow.holds Try.pinned (OpenSpec.upto fnBurdensSpec)

/-- 'laws.FnClocks', WHERE WHAT IT READS IS OF BULK AT MOST 1048576: true; the input reads as it did. -/
def fnClocksUptoRow : OpenClaim := { program := "ytignchefkihdaaa", sum := "cf48203a09d7ec4acce7ae05e0117387d275a30a8e0bd3c918b49f9e35786556", func := "loop.example/g03009/laws.FnClocks", spec := "fnClocks", unfollowed := true, recurses := true, apart := false, narrowed := true }
def FnClocksUptoSaid : Prop := fnClocksUptoRow.holds Try.pinned (OpenSpec.upto fnClocksSpec)

/-- 'laws.FnOrders', WHERE WHAT IT READS IS OF BULK AT MOST 1048576: true; the input reads as it did. -/
def fnOrdersUptoRow : OpenClaim := { program := "ytignchefkihdaaa", sum := "cf48203a09d7ec4acce7ae05e0117387d275a30a8e0bd3c918b49f9e35786556", func := "loop.example/g03009/laws.FnOrders", spec := "fnOrders", unfollowed := true, recurses := true, apart := false, narrowed := true }
def FnOrdersUptoSaid : Prop := fnOrdersUptoRow.holds Try.pinned (OpenSpec.upto fnOrdersSpec)

/-- 'laws.FnExactRaise', WHERE WHAT IT READS IS OF BULK AT MOST 1048576: true; the input reads as it did. -/
def fnExactRaiseUptoRow : OpenClaim := { program := "ytignchefkihdaaa", sum := "cf48203a09d7ec4acce7ae05e0117387d275a30a8e0bd3c918b49f9e35786556", func := "loop.example/g03009/laws.FnExactRaise", spec := "fnExactRaise", inPlace := ["slices.overlaps[loop.example/g03009/impl.Point]"], unfollowed := true, recurses := true, apart := false, narrowed := true }
def FnExactRaiseUptoSaid : Prop := fnExactRaiseUptoRow.holds Try.pinned (OpenSpec.upto fnExactRaiseSpec)

/-- 'laws.FnExactReply', WHERE WHAT IT READS IS OF BULK AT MOST 1048576: true; the input reads as it did. -/
def fnExactReplyUptoRow : OpenClaim := { program := "ytignchefkihdaaa", sum := "cf48203a09d7ec4acce7ae05e0117387d275a30a8e0bd3c918b49f9e35786556", func := "loop.example/g03009/laws.FnExactReply", spec := "fnExactReply", unfollowed := true, recurses := true, apart := false, narrowed := true }
def FnExactReplyUptoSaid : Prop := fnExactReplyUptoRow.holds Try.pinned (OpenSpec.upto fnExactReplySpec)

/-- 'laws.FnExactMustSpeak', WHERE WHAT IT READS IS OF BULK AT MOST 1048576: true; the input reads as it did. -/
def fnExactMustSpeakUptoRow : OpenClaim := { program := "ytignchefkihdaaa", sum := "cf48203a09d7ec4acce7ae05e0117387d275a30a8e0bd3c918b49f9e35786556", func := "loop.example/g03009/laws.FnExactMustSpeak", spec := "fnExactMustSpeak", unfollowed := true, recurses := true, apart := false, narrowed := true }
def FnExactMustSpeakUptoSaid : Prop := fnExactMustSpeakUptoRow.holds Try.pinned (OpenSpec.upto fnExactMustSpeakSpec)

/-- 'laws.FnExactIsSettled', WHERE WHAT IT READS IS OF BULK AT MOST 1048576: true; the input reads as it did. -/
def fnExactIsSettledUptoRow : OpenClaim := { program := "ytignchefkihdaaa", sum := "cf48203a09d7ec4acce7ae05e0117387d275a30a8e0bd3c918b49f9e35786556", func := "loop.example/g03009/laws.FnExactIsSettled", spec := "fnExactIsSettled", unfollowed := true, recurses := true, apart := false, narrowed := true }
def FnExactIsSettledUptoSaid : Prop := fnExactIsSettledUptoRow.holds Try.pinned (OpenSpec.upto fnExactIsSettledSpec)

/-- 'laws.FnExactTurnOrder', WHERE WHAT IT READS IS OF BULK AT MOST 1048576: true; the input reads as it did. -/
def fnExactTurnOrderUptoRow : OpenClaim := { program := "ytignchefkihdaaa", sum := "cf48203a09d7ec4acce7ae05e0117387d275a30a8e0bd3c918b49f9e35786556", func := "loop.example/g03009/laws.FnExactTurnOrder", spec := "fnExactTurnOrder", apart := false, narrowed := true }
def FnExactTurnOrderUptoSaid : Prop := fnExactTurnOrderUptoRow.holds Try.pinned (OpenSpec.upto fnExactTurnOrderSpec)

/-- 'laws.FnExactRightOfReply', WHERE WHAT IT READS IS OF BULK AT MOST 1048576: true; the input reads as it did. -/
def fnExactRightOfReplyUptoRow : OpenClaim := { program := "ytignchefkihdaaa", sum := "cf48203a09d7ec4acce7ae05e0117387d275a30a8e0bd3c918b49f9e35786556", func := "loop.example/g03009/laws.FnExactRightOfReply", spec := "fnExactRightOfReply", unfollowed := true, recurses := true, apart := false, narrowed := true }
def FnExactRightOfReplyUptoSaid : Prop := fnExactRightOfReplyUptoRow.holds Try.pinned (OpenSpec.upto fnExactRightOfReplySpec)

end Rows
end Go.Proofs.Ytignchefkihdaaa
