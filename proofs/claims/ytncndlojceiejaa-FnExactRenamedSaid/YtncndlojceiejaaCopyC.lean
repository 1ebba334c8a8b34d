/- Contract of the code's copyOfGraph. Condition: the slices have at most 2^40 elements. -/
import Derived.Test.YtncndlojceiejaaCopyM
import Derived.Test.YtncndlojceiejaaCopyL
namespace Go.Proofs.Ytncndlojceiejaa
open Go.ChangeShapes Go.WideShapes Go.ChangeAt Go.RowKit
set_option maxRecDepth 100000
theorem rdD {w : World} {A : Option Addr} {xs : List Value} (h : Rd w w.heap.size A xs) : Rd w.drew w.drew.heap.size A xs := h
theorem rdSSd' {w : World} {A : Option Addr} {X : List (List Int)} (h : RdSS w w.heap.size A X) : RdSS w.drew w.drew.heap.size A X := h
theorem two_g (w : World) (c1 c2 : Array Value) (t : TypeId) : ∃ W1 : World, W1 = (w.alloc (Obj.cells c1 t)).alloc (Obj.cells c2 t) ∧ Bx W1 w.heap.size t c1 ∧ Bx W1 (w.heap.size + 1) t c2 ∧ Below w.heap.size w W1 ∧ W1.heap.size = w.heap.size + 2 := by
  have a1 := (Bx.made w t c1).new ((Below.refl _ _).alloc (Nat.le_refl _) (Obj.cells c2 t))
  have a2 := Bx.made (w.alloc (Obj.cells c1 t)) t c2
  exact ⟨_, rfl, a1, by simpa using a2, ((Below.refl _ _).alloc (Nat.le_refl _) _).alloc (by simp) _, by simp⟩
set_option maxHeartbeats 4000000 in
theorem impCopy_any {w : World} {A : Option Addr} {n c : Nat} {N : Int} {X : List (List Int)} (hl : Hid (X.length = n)) (hn : n ≤ 1099511627776) (hs : Hid (∀ x ∈ X, x.length ≤ 1099511627776)) (hr : RdSS w w.heap.size A X) :
    Calls Try.prog 37 #[.agg #[.int .i64 N, .slice A n c]] w (FreshG N X w) := by
  obtain ⟨W1, hW, bx1, bx2, hb1, hs1⟩ := two_g w #[Value.int IntKind.i64 N, Value.slice A n c] #[Value.int IntKind.i64 0, Value.slice none 0 0] 26
  have hr1 := (hr.below hb1).more hb1.size
  have HW := Lib.hid hW.symm
  clear hW hr
  obtain ⟨C0, C1⟩ := bx1.two
  go_enter Try.func37, Try.ntmps37
  go_wp2_with fail
  rw [HW.out]
  have HR := Lib.hid hr1
  clear hr1
  obtain ⟨D0, D1⟩ := bx2.two
  have E0 := bx2.free 0
  have E1 := bx2.free 1
  go_region_law (go_simp; go_at_call 62; refine (copyLists_any hl hn hs (by first | with_reducible exact rdSSd' HR.out | with_reducible exact HR.out)).mono ?_; rintro e w1 ⟨v1, rfl, hown, hb2⟩; obtain ⟨A9, c9, rfl, _, _, _⟩ := hown.rd (n := n) hl.out; have hq : Below W1.heap.size W1 w1 := (by first | exact (Below.refl W1.heap.size W1).drew.trans hb2 | exact hb2); have b1 := bx1.new hq; have b2 := bx2.new hq; obtain ⟨e0, e1⟩ := b1.two; obtain ⟨d0, d1⟩ := b2.two; have f0 := b2.free 0; have f1 := b2.free 1)
  all_goals
    go_wp2_with fail
    have hown : OwnSS w1 W1.heap.size w1.heap.size (.slice A9 n c9) X := hown
    refine bodyPost_ret (resGR rfl ((b2.set 0 _).set 1 _) rfl rfl) rfl ⟨_, rfl, ?_, ?_⟩
    · exact ((hown.setFar (.inl (by show w.heap.size + 1 < W1.heap.size; omega)) _).setFar (.inl (by show w.heap.size + 1 < W1.heap.size; omega)) _).wide (by omega) (by simp)
    · exact ((hb1.trans (hq.mono hb1.size)).setCell (by show w.heap.size ≤ w.heap.size + 1; omega) _).setCell (by show w.heap.size ≤ w.heap.size + 1; omega) _
end Go.Proofs.Ytncndlojceiejaa
