/-
  No cell of these rows narrows 'for every input' (looked for: loops, veiled, ifaces, maps, wideKeys, modest, calm, conditions, laid).
  DERIVED. THE GIVEN ROWS OF THIS SEAT. 11 by the template 'for every input the law returns true; each argument reads behind the call as it read before'; 0 by the template 'total and deterministic' (their statements: YtfcckpapcnhejaaTotals.lean).
  GIVEN WITH THE SEED: the statements are not yours to turn. If you find one false, say at which input.
  Laid BY PROGRAM, IN A SANDBOX (cutbox-rows.mjs): the forced cells as the released guide's own fill.sh prints them over the translation f5d620fc471a880d… (all of the seat's roots in one cut). By AI agents, Wed Nov 11 2026. No macro, syntax, notation, axiom, sorry.
-/
import Derived.Test.YtfcckpapcnhejaaChecked
import GoSem.Claim
import GoSem.ClaimJoined
import GoSem.ClaimMapViews
import Derived.JoinedTies
import Derived.KernelRfl
namespace Go.Proofs.Ytfcckpapcnhejaa
/- THE CELL 'sum', in the pinned program and in every row, IS THE sha256 OF THE DUMP (.gsa) THAT YtfcckpapcnhejaaProg.lean LOADS. Nothing in Lean hashes anything: it is a label: what it is worth is what the hold of that sum in a sandbox is worth. -/
noncomputable def Try.pinned : Pinned := { name := "ytfcckpapcnhejaa", sum := "f5d620fc471a880d532093143509c4dbd4f37631df06072217da5a0e8c397602", checked := Try.checked }
namespace Rows
def none {H : Type} : Left H := { results := [], args := [] }

/-- 'laws.FnExactIsAlways': WHATEVER THE INPUT: true; the input reads as it did. -/
def fnExactIsAlwaysSpec : ChangeSpec := { name := "fnExactIsAlways", fn := fun _ => fun
  | [d] => { results := [.lit (.bool true)], args := [d] }
  | _ => none }
def fnExactIsAlwaysRow : OpenClaim := { program := "ytfcckpapcnhejaa", sum := "f5d620fc471a880d532093143509c4dbd4f37631df06072217da5a0e8c397602", func := "loop.example/g03009/laws.FnExactIsAlways", spec := "fnExactIsAlways", unfollowed := true, recurses := true, apart := false }
def FnExactIsAlwaysSaid : Prop := fnExactIsAlwaysRow.holds Try.pinned (OpenSpec.ofChange fnExactIsAlwaysSpec)

/-- ITS FALSE NEIGHBOUR: 'it returns false'. Refute it at one input. -/
def fnExactIsAlwaysWrong : ChangeSpec := { name := "fnExactIsAlways", fn := fun _ => fun
  | [d] => { results := [.lit (.bool false)], args := [d] }
  | _ => none }
def FnExactIsAlwaysWrongFalsely : Prop := fnExactIsAlwaysRow.holds Try.pinned (OpenSpec.ofChange fnExactIsAlwaysWrong)

/-- 'laws.FnExactCanHold': WHATEVER THE INPUT: true; the input reads as it did. -/
def fnExactCanHoldSpec : ChangeSpec := { name := "fnExactCanHold", fn := fun _ => fun
  | [d] => { results := [.lit (.bool true)], args := [d] }
  | _ => none }
def fnExactCanHoldRow : OpenClaim := { program := "ytfcckpapcnhejaa", sum := "f5d620fc471a880d532093143509c4dbd4f37631df06072217da5a0e8c397602", func := "loop.example/g03009/laws.FnExactCanHold", spec := "fnExactCanHold", unfollowed := true, recurses := true, apart := false }
def FnExactCanHoldSaid : Prop := fnExactCanHoldRow.holds Try.pinned (OpenSpec.ofChange fnExactCanHoldSpec)

/-- ITS FALSE NEIGHBOUR: 'it returns false'. Refute it at one input. -/
def fnExactCanHoldWrong : ChangeSpec := { name := "fnExactCanHold", fn := fun _ => fun
  | [d] => { results := [.lit (.bool false)], args := [d] }
  | _ => none }
def FnExactCanHoldWrongFalsely : Prop := fnExactCanHoldRow.holds Try.pinned (OpenSpec.ofChange fnExactCanHoldWrong)

/-- 'laws.FnExactFollows': WHATEVER THE INPUT: true; the input reads as it did. -/
def fnExactFollowsSpec : ChangeSpec := { name := "fnExactFollows", fn := fun _ => fun
  | [d1, d2] => { results := [.lit (.bool true)], args := [d1, d2] }
  | _ => none }
def fnExactFollowsRow : OpenClaim := { program := "ytfcckpapcnhejaa", sum := "f5d620fc471a880d532093143509c4dbd4f37631df06072217da5a0e8c397602", func := "loop.example/g03009/laws.FnExactFollows", spec := "fnExactFollows", unfollowed := true, recurses := true, apart := false }
def FnExactFollowsSaid : Prop := fnExactFollowsRow.holds Try.pinned (OpenSpec.ofChange fnExactFollowsSpec)

/-- ITS FALSE NEIGHBOUR: 'it returns false'. Refute it at one input. -/
def fnExactFollowsWrong : ChangeSpec := { name := "fnExactFollows", fn := fun _ => fun
  | [d1, d2] => { results := [.lit (.bool false)], args := [d1, d2] }
  | _ => none }
def FnExactFollowsWrongFalsely : Prop := fnExactFollowsRow.holds Try.pinned (OpenSpec.ofChange fnExactFollowsWrong)

/-- 'laws.FnExactCountRows': WHATEVER THE INPUT: true; the input reads as it did. -/
def fnExactCountRowsSpec : ChangeSpec := { name := "fnExactCountRows", fn := fun _ => fun
  | [d] => { results := [.lit (.bool true)], args := [d] }
  | _ => none }
def fnExactCountRowsRow : OpenClaim := { program := "ytfcckpapcnhejaa", sum := "f5d620fc471a880d532093143509c4dbd4f37631df06072217da5a0e8c397602", func := "loop.example/g03009/laws.FnExactCountRows", spec := "fnExactCountRows", unfollowed := true, recurses := true, apart := false }
def FnExactCountRowsSaid : Prop := fnExactCountRowsRow.holds Try.pinned (OpenSpec.ofChange fnExactCountRowsSpec)

/-- ITS FALSE NEIGHBOUR: 'it returns false'. Refute it at one input. -/
def fnExactCountRowsWrong : ChangeSpec := { name := "fnExactCountRows", fn := fun _ => fun
  | [d] => { results := [.lit (.bool false)], args := [d] }
  | _ => none }
def FnExactCountRowsWrongFalsely : Prop := fnExactCountRowsRow.holds Try.pinned (OpenSpec.ofChange fnExactCountRowsWrong)

/-- 'laws.FnExactAreAlike': WHATEVER THE INPUT: true; the input reads as it did. -/
def fnExactAreAlikeSpec : ChangeSpec := { name := "fnExactAreAlike", fn := fun _ => fun
  | [d1, d2] => { results := [.lit (.bool true)], args := [d1, d2] }
  | _ => none }
def fnExactAreAlikeRow : OpenClaim := { program := "ytfcckpapcnhejaa", sum := "f5d620fc471a880d532093143509c4dbd4f37631df06072217da5a0e8c397602", func := "loop.example/g03009/laws.FnExactAreAlike", spec := "fnExactAreAlike", unfollowed := true, recurses := true, apart := false }
def FnExactAreAlikeSaid : Prop := fnExactAreAlikeRow.holds Try.pinned (OpenSpec.ofChange fnExactAreAlikeSpec)

/-- ITS FALSE NEIGHBOUR: 'it returns false'. Refute it at one input. -/
def fnExactAreAlikeWrong : ChangeSpec := { name := "fnExactAreAlike", fn := fun _ => fun
  | [d1, d2] => { results := [.lit (.bool false)], args := [d1, d2] }
  | _ => none }
def FnExactAreAlikeWrongFalsely : Prop := fnExactAreAlikeRow.holds Try.pinned (OpenSpec.ofChange fnExactAreAlikeWrong)

/-- 'laws.FnExactIsStore': WHATEVER THE INPUT: true; the input reads as it did. -/
def fnExactIsStoreSpec : ChangeSpec := { name := "fnExactIsStore", fn := fun _ => fun
  | [d] => { results := [.lit (.bool true)], args := [d] }
  | _ => none }
def fnExactIsStoreRow : OpenClaim := { program := "ytfcckpapcnhejaa", sum := "f5d620fc471a880d532093143509c4dbd4f37631df06072217da5a0e8c397602", func := "loop.example/g03009/laws.FnExactIsStore", spec := "fnExactIsStore", unfollowed := true, recurses := true, apart := false }
def FnExactIsStoreSaid : Prop := fnExactIsStoreRow.holds Try.pinned (OpenSpec.ofChange fnExactIsStoreSpec)

/-- ITS FALSE NEIGHBOUR: 'it returns false'. Refute it at one input. -/
def fnExactIsStoreWrong : ChangeSpec := { name := "fnExactIsStore", fn := fun _ => fun
  | [d] => { results := [.lit (.bool false)], args := [d] }
  | _ => none }
def FnExactIsStoreWrongFalsely : Prop := fnExactIsStoreRow.holds Try.pinned (OpenSpec.ofChange fnExactIsStoreWrong)

/-- 'laws.FnExactSay': WHATEVER THE INPUT: true; the input reads as it did. -/
def fnExactSaySpec : ChangeSpec := { name := "fnExactSay", fn := fun _ => fun
  | [d1, d2] => { results := [.lit (.bool true)], args := [d1, d2] }
  | _ => none }
def fnExactSayRow : OpenClaim := { program := "ytfcckpapcnhejaa", sum := "f5d620fc471a880d532093143509c4dbd4f37631df06072217da5a0e8c397602", func := "loop.example/g03009/laws.FnExactSay", spec := "fnExactSay", unfollowed := true, recurses := true, apart := false }
def FnExactSaySaid : Prop := fnExactSayRow.holds Try.pinned (OpenSpec.ofChange fnExactSaySpec)

/-- ITS FALSE NEIGHBOUR: 'it returns false'. Refute it at one input. -/
def fnExactSayWrong : ChangeSpec := { name := "fnExactSay", fn := fun _ => fun
  | [d1, d2] => { results := [.lit (.bool false)], args := [d1, d2] }
  | _ => none }
def FnExactSayWrongFalsely : Prop := fnExactSayRow.holds Try.pinned (OpenSpec.ofChange fnExactSayWrong)

/-- 'laws.FnExactTakeBack': WHATEVER THE INPUT: true; the input reads as it did. -/
def fnExactTakeBackSpec : ChangeSpec := { name := "fnExactTakeBack", fn := fun _ => fun
  | [d1, d2] => { results := [.lit (.bool true)], args := [d1, d2] }
  | _ => none }
def fnExactTakeBackRow : OpenClaim := { program := "ytfcckpapcnhejaa", sum := "f5d620fc471a880d532093143509c4dbd4f37631df06072217da5a0e8c397602", func := "loop.example/g03009/laws.FnExactTakeBack", spec := "fnExactTakeBack", unfollowed := true, recurses := true, apart := false }
def FnExactTakeBackSaid : Prop := fnExactTakeBackRow.holds Try.pinned (OpenSpec.ofChange fnExactTakeBackSpec)

/-- ITS FALSE NEIGHBOUR: 'it returns false'. Refute it at one input. -/
def fnExactTakeBackWrong : ChangeSpec := { name := "fnExactTakeBack", fn := fun _ => fun
  | [d1, d2] => { results := [.lit (.bool false)], args := [d1, d2] }
  | _ => none }
def FnExactTakeBackWrongFalsely : Prop := fnExactTakeBackRow.holds Try.pinned (OpenSpec.ofChange fnExactTakeBackWrong)

/-- 'laws.FnExactMustAdmit': WHATEVER THE INPUT: true; the input reads as it did. -/
def fnExactMustAdmitSpec : ChangeSpec := { name := "fnExactMustAdmit", fn := fun _ => fun
  | [d1, d2] => { results := [.lit (.bool true)], args := [d1, d2] }
  | _ => none }
def fnExactMustAdmitRow : OpenClaim := { program := "ytfcckpapcnhejaa", sum := "f5d620fc471a880d532093143509c4dbd4f37631df06072217da5a0e8c397602", func := "loop.example/g03009/laws.FnExactMustAdmit", spec := "fnExactMustAdmit", unfollowed := true, recurses := true, apart := false }
def FnExactMustAdmitSaid : Prop := fnExactMustAdmitRow.holds Try.pinned (OpenSpec.ofChange fnExactMustAdmitSpec)

/-- ITS FALSE NEIGHBOUR: 'it returns false'. Refute it at one input. -/
def fnExactMustAdmitWrong : ChangeSpec := { name := "fnExactMustAdmit", fn := fun _ => fun
  | [d1, d2] => { results := [.lit (.bool false)], args := [d1, d2] }
  | _ => none }
def FnExactMustAdmitWrongFalsely : Prop := fnExactMustAdmitRow.holds Try.pinned (OpenSpec.ofChange fnExactMustAdmitWrong)

/-- 'laws.FnExactQuarrels': WHATEVER THE INPUT: true; the input reads as it did. -/
def fnExactQuarrelsSpec : ChangeSpec := { name := "fnExactQuarrels", fn := fun _ => fun
  | [d1, d2] => { results := [.lit (.bool true)], args := [d1, d2] }
  | _ => none }
def fnExactQuarrelsRow : OpenClaim := { program := "ytfcckpapcnhejaa", sum := "f5d620fc471a880d532093143509c4dbd4f37631df06072217da5a0e8c397602", func := "loop.example/g03009/laws.FnExactQuarrels", spec := "fnExactQuarrels", unfollowed := true, recurses := true, apart := false }
def FnExactQuarrelsSaid : Prop := fnExactQuarrelsRow.holds Try.pinned (OpenSpec.ofChange fnExactQuarrelsSpec)

/-- ITS FALSE NEIGHBOUR: 'it returns false'. Refute it at one input. -/
def fnExactQuarrelsWrong : ChangeSpec := { name := "fnExactQuarrels", fn := fun _ => fun
  | [d1, d2] => { results := [.lit (.bool false)], args := [d1, d2] }
  | _ => none }
def FnExactQuarrelsWrongFalsely : Prop := fnExactQuarrelsRow.holds Try.pinned (OpenSpec.ofChange fnExactQuarrelsWrong)

/-- 'laws.FnExactLeastBack': WHATEVER THE INPUT: true; the input reads as it did. -/
def fnExactLeastBackSpec : ChangeSpec := { name := "fnExactLeastBack", fn := fun _ => fun
  | [d1, d2] => { results := [.lit (.bool true)], args := [d1, d2] }
  | _ => none }
def fnExactLeastBackRow : OpenClaim := { program := "ytfcckpapcnhejaa", sum := "f5d620fc471a880d532093143509c4dbd4f37631df06072217da5a0e8c397602", func := "loop.example/g03009/laws.FnExactLeastBack", spec := "fnExactLeastBack", unfollowed := true, recurses := true, apart := false }
def FnExactLeastBackSaid : Prop := fnExactLeastBackRow.holds Try.pinned (OpenSpec.ofChange fnExactLeastBackSpec)

/-- ITS FALSE NEIGHBOUR: 'it returns false'. Refute it at one input. -/
def fnExactLeastBackWrong : ChangeSpec := { name := "fnExactLeastBack", fn := fun _ => fun
  | [d1, d2] => { results := [.lit (.bool false)], args := [d1, d2] }
  | _ => none }
def FnExactLeastBackWrongFalsely : Prop := fnExactLeastBackRow.holds Try.pinned (OpenSpec.ofChange fnExactLeastBackWrong)

/- THE SECOND FORM. 'bulk': how many values and letters a reading holds, each counted each time it is reached (what is shared counts as often as it is met; a slice's spare places count too). A statement '..UptoSaid' is the law's where the arguments, and the package variables that the reading takes, are together of bulk at most 1048576: NARROWER than '..Said'. Prove '..Said' where nothing that the law and all that it calls make is longer than what came in: it says more and counts as full. Else prove '..UptoSaid'. A law counts once. -/
mutual
def uptoBulk {H : Type} : DataW H → Nat
  | .lit (.string bytes) => bytes.length + 1
  | .lit _ => 1
  | .nil => 1
  | .ptr d => uptoBulk d + 1
  | .slice elems spare => uptoBulkAll elems + uptoBulkAll spare + 1
  | .agg parts => uptoBulkAll parts + 1
  | .iface _ d => uptoBulk d + 1
  | .map entries => uptoBulkEntries entries + 1
  | .held _ => 1
def uptoBulkAll {H : Type} : List (DataW H) → Nat
  | [] => 0
  | d :: r => uptoBulk d + uptoBulkAll r
def uptoBulkEntries {H : Type} : List (Lit × DataW H) → Nat
  | [] => 0
  | x :: r => uptoBulkEntry x + uptoBulkEntries r
def uptoBulkEntry {H : Type} : Lit × DataW H → Nat
  | (.string bytes, d) => bytes.length + uptoBulk d + 1
  | (_, d) => uptoBulk d + 1
 end
def uptoSmall : (H : Type) → List (DataW H) → Bool := fun _ ds => decide (uptoBulkAll ds ≤ 1048576)
def OpenSpec.upto (s : _root_.Go.ChangeSpec) : _root_.Go.OpenSpec := { _root_.Go.OpenSpec.ofChange s with cond := some uptoSmall }

/-- 'laws.FnExactIsAlways', WHERE WHAT IT READS IS OF BULK AT MOST 1048576: true; the input reads as it did. -/
def fnExactIsAlwaysUptoRow : OpenClaim := { program := "ytfcckpapcnhejaa", sum := "f5d620fc471a880d532093143509c4dbd4f37631df06072217da5a0e8c397602", func := "loop.example/g03009/laws.FnExactIsAlways", spec := "fnExactIsAlways", unfollowed := true, recurses := true, apart := false, narrowed := true }
def FnExactIsAlwaysUptoSaid : Prop := fnExactIsAlwaysUptoRow.holds Try.pinned (OpenSpec.upto fnExactIsAlwaysSpec)

/-- 'laws.FnExactCanHold', WHERE WHAT IT READS IS OF BULK AT MOST 1048576: true; the input reads as it did. -/
def fnExactCanHoldUptoRow : OpenClaim := { program := "ytfcckpapcnhejaa", sum := "f5d620fc471a880d532093143509c4dbd4f37631df06072217da5a0e8c397602", func := "loop.example/g03009/laws.FnExactCanHold", spec := "fnExactCanHold", unfollowed := true, recurses := true, apart := false, narrowed := true }
def FnExactCanHoldUptoSaid : Prop := fnExactCanHoldUptoRow.holds Try.pinned (OpenSpec.upto fnExactCanHoldSpec)

/-- 'laws.FnExactFollows', WHERE WHAT IT READS IS OF BULK AT MOST 1048576: true; the input reads as it did. -/
def fnExactFollowsUptoRow : OpenClaim := { program := "ytfcckpapcnhejaa", sum := "f5d620fc471a880d532093143509c4dbd4f37631df06072217da5a0e8c397602", func := "loop.example/g03009/laws.FnExactFollows", spec := "fnExactFollows", unfollowed := true, recurses := true, apart := false, narrowed := true }
def FnExactFollowsUptoSaid : Prop := fnExactFollowsUptoRow.holds Try.pinned (OpenSpec.upto fnExactFollowsSpec)

/-- 'laws.FnExactCountRows', WHERE WHAT IT READS IS OF BULK AT MOST 1048576: true; the input reads as it did. -/
def fnExactCountRowsUptoRow : OpenClaim := { program := "ytfcckpapcnhejaa", sum := "f5d620fc471a880d532093143509c4dbd4f37631df06072217da5a0e8c397602", func := "loop.example/g03009/laws.FnExactCountRows", spec := "fnExactCountRows", unfollowed := true, recurses := true, apart := false, narrowed := true }
def FnExactCountRowsUptoSaid : Prop := fnExactCountRowsUptoRow.holds Try.pinned (OpenSpec.upto fnExactCountRowsSpec)

/-- 'laws.FnExactAreAlike', WHERE WHAT IT READS IS OF BULK AT MOST 1048576: true; the input reads as it did. -/
def fnExactAreAlikeUptoRow : OpenClaim := { program := "ytfcckpapcnhejaa", sum := "f5d620fc471a880d532093143509c4dbd4f37631df06072217da5a0e8c397602", func := "loop.example/g03009/laws.FnExactAreAlike", spec := "fnExactAreAlike", unfollowed := true, recurses := true, apart := false, narrowed := true }
def FnExactAreAlikeUptoSaid : Prop := fnExactAreAlikeUptoRow.holds Try.pinned (OpenSpec.upto fnExactAreAlikeSpec)

/-- 'laws.FnExactIsStore', WHERE WHAT IT READS IS OF BULK AT MOST 1048576: true; the input reads as it did. -/
def fnExactIsStoreUptoRow : OpenClaim := { program := "ytfcckpapcnhejaa", sum := "f5d620fc471a880d532093143509c4dbd4f37631df06072217da5a0e8c397602", func := "loop.example/g03009/laws.FnExactIsStore", spec := "fnExactIsStore", unfollowed := true, recurses := true, apart := false, narrowed := true }
def FnExactIsStoreUptoSaid : Prop := fnExactIsStoreUptoRow.holds Try.pinned (OpenSpec.upto fnExactIsStoreSpec)

/-- 'laws.FnExactSay', WHERE WHAT IT READS IS OF BULK AT MOST 1048576: true; the input reads as it did. -/
def fnExactSayUptoRow : OpenClaim := { program := "ytfcckpapcnhejaa", sum := "f5d620fc471a880d532093143509c4dbd4f37631df06072217da5a0e8c397602", func := "loop.example/g03009/laws.FnExactSay", spec := "fnExactSay", unfollowed := true, recurses := true, apart := false, narrowed := true }
def FnExactSayUptoSaid : Prop := fnExactSayUptoRow.holds Try.pinned (OpenSpec.upto fnExactSaySpec)

/-- 'laws.FnExactTakeBack', WHERE WHAT IT READS IS OF BULK AT MOST 1048576: true; the input reads as it did. -/
def fnExactTakeBackUptoRow : OpenClaim := { program := "ytfcckpapcnhejaa", sum := "f5d620fc471a880d532093143509c4dbd4f37631df06072217da5a0e8c397602", func := "loop.example/g03009/laws.FnExactTakeBack", spec := "fnExactTakeBack", unfollowed := true, recurses := true, apart := false, narrowed := true }
def FnExactTakeBackUptoSaid : Prop := fnExactTakeBackUptoRow.holds Try.pinned (OpenSpec.upto fnExactTakeBackSpec)

/-- 'laws.FnExactMustAdmit', WHERE WHAT IT READS IS OF BULK AT MOST 1048576: true; the input reads as it did. -/
def fnExactMustAdmitUptoRow : OpenClaim := { program := "ytfcckpapcnhejaa", sum := "f5d620fc471a880d532093143509c4dbd4f37631df06072217da5a0e8c397602", func := "loop.example/g03009/laws.FnExactMustAdmit", spec := "fnExactMustAdmit", unfollowed := true, recurses := true, apart := false, narrowed := true }
def FnExactMustAdmitUptoSaid : Prop := fnExactMustAdmitUptoRow.holds Try.pinned (OpenSpec.upto fnExactMustAdmitSpec)

/-- 'laws.FnExactQuarrels', WHERE WHAT IT READS IS OF BULK AT MOST 1048576: true; the input reads as it did. -/
def fnExactQuarrelsUptoRow : OpenClaim := { program := "ytfcckpapcnhejaa", sum := "f5d620fc471a880d532093143509c4dbd4f37631df06072217da5a0e8c397602", func := "loop.example/g03009/laws.FnExactQuarrels", spec := "fnExactQuarrels", unfollowed := true, recurses := true, apart := false, narrowed := true }
def FnExactQuarrelsUptoSaid : Prop := fnExactQuarrelsUptoRow.holds Try.pinned (OpenSpec.upto fnExactQuarrelsSpec)

/-- 'laws.FnExactLeastBack', WHERE WHAT IT READS IS OF BULK AT MOST 1048576: true; the input reads as it did. -/
def fnExactLeastBackUptoRow : OpenClaim := { program := "ytfcckpapcnhejaa", sum := "f5d620fc471a880d532093143509c4dbd4f37631df06072217da5a0e8c397602", func := "loop.example/g03009/laws.FnExactLeastBack", spec := "fnExactLeastBack", unfollowed := true, recurses := true, apart := false, narrowed := true }
def FnExactLeastBackUptoSaid : Prop := fnExactLeastBackUptoRow.holds Try.pinned (OpenSpec.upto fnExactLeastBackSpec)

end Rows
end Go.Proofs.Ytfcckpapcnhejaa
