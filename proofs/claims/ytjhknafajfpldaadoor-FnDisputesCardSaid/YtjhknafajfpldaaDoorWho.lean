/- Contracts of the code's DoesAttack, VictimsOf, AttackersOf, HitBy. No conditions but that the slices have at most 2^40 elements. -/
import Derived.Test.YtjhknafajfpldaaDoorMg6
import Derived.Test.YtjhknafajfpldaaDoorMg1
namespace Go.Proofs.YtjhknafajfpldaaDoor
open Go.ChangeShapes Go.WideShapes Go.ChangeAt Go.RowKit
set_option maxRecDepth 100000
theorem impVictimsOf_any {w : World} {A : Option Addr} {n c : Nat} {N a : Int} {X : List (List Int)} (hl : Hid (X.length = n)) (hn : n ≤ 1099511627776) (hr : RdSS w w.heap.size A X) :
    Calls Tryd.prog 12 #[.agg #[.int .i64 N, .slice A n c], .int .i64 a] w (Fresh 3 (ivs (vct N X a)) w) := by
  have hb1 : Below w.heap.size w (w.alloc (Obj.cells #[Value.int IntKind.i64 N, Value.slice A n c] 26)) := (Below.refl _ _).alloc (Nat.le_refl _) _
  have HR := Lib.hid hr
  clear hr
  go_enter Tryd.func12, Tryd.ntmps12
  go_wp2_with fail
  obtain ⟨W1, hW⟩ : ∃ u : World, u = w.alloc (Obj.cells #[Value.int IntKind.i64 N, Value.slice A n c] 26) := ⟨_, rfl⟩
  rw [← hW] at hb1 ⊢
  clear hW
  refine (rowsOf_any hl hn ((HR.out.below hb1).more hb1.size)).mono ?_
  rintro e w2 ⟨rfl, hb2⟩
  have hb3 := hb1.trans (hb2.mono hb1.size)
  go_wp2_with fail
  refine (victims_any (rn_le N X).1 (rn_le N X).2).mono ?_
  rintro e w3 ⟨rfl, hb4⟩
  have hb5 := hb3.trans (hb4.mono hb3.size)
  go_wp2_with fail
  refine (list_any (vic_lt N X a)).mono ?_
  rintro e w4 ⟨v, rfl, hrow, hb6⟩
  go_wp2_with fail
  go_ret
  exact ⟨v, rfl, by rw [← vct_code]; exact hrow.wide hb5.size (Nat.le_refl _), hb5.trans (hb6.mono hb5.size)⟩
theorem lsA_yes {f : Nat → Nat} {c : Int} {k : Nat} (h : (inr c 0 9 && (f k).testBit c.toNat) = true) : lsA f c (k + 1) = lsA f c k ++ [(k : Int)] := by
  unfold lsA
  rw [List.range_succ, List.filter_append, List.filter_cons, if_pos h]
  simp
theorem lsA_no {f : Nat → Nat} {c : Int} {k : Nat} (h : (inr c 0 9 && (f k).testBit c.toNat) = false) : lsA f c (k + 1) = lsA f c k := by
  unfold lsA
  rw [List.range_succ, List.filter_append, List.filter_cons, if_neg (by rw [h]; simp)]
  simp
theorem lsA_len (f : Nat → Nat) (c : Int) (k : Nat) : (lsA f c k).length ≤ k := by
  unfold lsA
  rw [List.length_map]
  exact Nat.le_trans (List.length_filter_le _ _) (by simp)
end Go.Proofs.YtjhknafajfpldaaDoor
