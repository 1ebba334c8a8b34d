/- Contract of the model's l4Copy. Condition: the slices have at most 2^40 elements. -/
import Derived.Test.YtjhknafajfpldaaDoorMg6
import Derived.Test.YtjhknafajfpldaaDoorMg2
import Derived.Test.YtjhknafajfpldaaDoorMg3
import Derived.Test.YtjhknafajfpldaaDoorMg4
namespace Go.Proofs.YtjhknafajfpldaaDoor
open Go.ChangeShapes Go.WideShapes Go.ChangeAt Go.RowKit
set_option maxRecDepth 100000
theorem rowD {w : World} {lo hi : Nat} {t : TypeId} {v : Value} {xs : List Value} (h : Row w lo hi t v xs) : Row w.drew lo hi t v xs := h
/-- Three blocks for graphs: the argument, the result, the one that grows. -/
theorem three_graphs (w : World) (c1 c2 c3 : Array Value) (t : TypeId) : ∃ W1 : World, W1 = ((w.alloc (Obj.cells c1 t)).alloc (Obj.cells c2 t)).alloc (Obj.cells c3 t) ∧ Bx W1 w.heap.size t c1 ∧ Bx W1 (w.heap.size + 1) t c2 ∧ Bx W1 (w.heap.size + 2) t c3 ∧ Below w.heap.size w W1 ∧ W1.heap.size = w.heap.size + 3 := by
  have a1 := (Bx.made w t c1).new ((Below.refl _ _).alloc (Nat.le_refl _) (Obj.cells c2 t))
  have a2 := Bx.made (w.alloc (Obj.cells c1 t)) t c2
  have a3 := Bx.made ((w.alloc (Obj.cells c1 t)).alloc (Obj.cells c2 t)) t c3
  have k := (Below.refl ((w.alloc (Obj.cells c1 t)).alloc (Obj.cells c2 t)).heap.size ((w.alloc (Obj.cells c1 t)).alloc (Obj.cells c2 t))).alloc (Nat.le_refl _) (Obj.cells c3 t)
  refine ⟨_, rfl, a1.new k, ?_, ?_, (((Below.refl _ _).alloc (Nat.le_refl _) _).alloc (by simp) _).alloc (by simp; omega) _, by simp⟩
  · simpa using a2.new k
  · simpa using a3
theorem stGR {w : World} {ops : Array Oper} {rest : List Oper} {o : Oper} {a : Act} {Q : Exit → Act → World → Prop} {cs : Array Value} (hgd : o.guard = none) (x y : Operand) (ho : o.op = .store 26 x y) {g : Nat} {N : Int} {v : Value} (h : Bx w g 26 cs) (hs : cs.size = 2) (hv : v.oneCell' = true) (hx : a.eval x = .pointer (some ⟨g, 0, none⟩)) (hy : a.eval y = .agg #[.int .i64 N, v]) (K : wpList Tryd.prog ops Q rest (a.put o.dst undef) (w.setRow g #[.int .i64 N, v])) : wpList Tryd.prog ops Q (o :: rest) a w :=
  wpList_store_row hgd _ x y ho g #[.int .i64 N, v] hx hy _ cs h (by rw [GR_info]; rfl) (by rw [hs]; rfl) (by simp [hv, show (Value.int .i64 N).oneCell' = true from rfl]) K
theorem OwnSS.one {w : World} {lo hi : Nat} {v : Value} {X : List (List Int)} (h : OwnSS w lo hi v X) : v.oneCell' = true := by
  obtain ⟨A, c, rfl, _⟩ := h.rd rfl
  rfl
set_option maxHeartbeats 4000000 in
theorem specL4Copy_any {w : World} {A : Option Addr} {n c : Nat} {N : Int} {X : List (List Int)} (hl : Hid (X.length = n)) (hn : n ≤ 1099511627776) (hs : Hid (∀ x ∈ X, x.length ≤ 1099511627776)) (hr : RdSS w w.heap.size A X) :
    Calls Tryd.prog 26 #[.agg #[.int .i64 N, .slice A n c]] w (FreshG N X w) := by
  obtain ⟨i0, hi, hz0, hz1, hz2⟩ := info_parts IntS_info
  obtain ⟨W1, hW, bx1, bx2, bx3, hb1, hs1⟩ := three_graphs w #[Value.int IntKind.i64 N, Value.slice A n c] #[Value.int IntKind.i64 0, Value.slice none 0 0] #[Value.int IntKind.i64 N, Value.slice none 0 0] 26
  have hr1 := hr.below hb1
  have HW := Lib.hid hW.symm
  clear hW hr
  go_enter Tryd.func26, Tryd.ntmps26
  go_wp2_with fail
  rw [HW.out]
  go_loopw [4] (fun i wr => ∃ (k : Nat) (v : Value), k ≤ n ∧ i = .int .i64 k ∧ Bx wr (w.heap.size + 2) 26 #[Value.int IntKind.i64 N, v] ∧ OwnSS wr (w.heap.size + 3) wr.heap.size v (X.take k) ∧ Below (w.heap.size + 2) W1 wr) (fun i _ => n - (intOf i).toNat)
  case atStart => exact ⟨0, _, Nat.zero_le _, rfl, bx3, OwnSS.nil, Below.refl _ _⟩
  case round =>
    obtain ⟨k, v, hk, rfl, bxv, hov, hbw⟩ := hrel
    have hsz := hbw.size
    have bxa : Bx wr w.heap.size 26 #[Value.int IntKind.i64 N, Value.slice A n c] := (hbw.block _ (by omega)).trans bx1
    have bxb : Bx wr (w.heap.size + 1) 26 #[Value.int IntKind.i64 0, Value.slice none 0 0] := (hbw.block _ (by omega)).trans bx2
    obtain ⟨C0, C1⟩ := bxa.two
    obtain ⟨D0, D1⟩ := bxv.two
    have hrk := hr1.below (hbw.mono (by omega))
    by_cases hlt : k < n
    · have hkz : k < X.length := by rw [hl.out]; exact hlt
      obtain ⟨ad, Aj, cj, rfl, hab, hc, _, _, hrd⟩ := hrk.at_ hkz
      have hxl := hs.out X[k] (List.getElem_mem _)
      have HT := Lib.hid (List.take_succ_eq_append_getElem hkz)
      obtain ⟨x, hx⟩ : ∃ x, x = X[k] := ⟨_, rfl⟩
      obtain ⟨Y, hY⟩ : ∃ Y, Y = X.take k := ⟨_, rfl⟩
      have hYl : Y.length ≤ k := by rw [hY]; simp; omega
      rw [← hx] at hc hrd hxl HT
      rw [← hY] at hov HT
      have i0' : (0 : Int) ≤ (k : Int) := by omega
      have hlc : (ad.add k).block < w.heap.size + 2 := by rw [add_blk]; omega
      have HB := Lib.hid bxv
      have HO := Lib.hid hov
      have HR := Lib.hid hrd
      go_wp2_with fail
      have HK := Lib.hid (show wr.cell? ⟨w.heap.size, 1, none⟩ = some (.slice (some ad) n c) ∧ wr.cell? (ad.add k) = some (.slice Aj x.length cj) ∧ Below (w.heap.size + 2) wr wr from ⟨C1, hc, Below.refl _ _⟩)
      have hl2 : (⟨w.heap.size, 1, none⟩ : Addr).block < w.heap.size + 2 := by show w.heap.size < _; omega
      have hL : w.heap.size + 3 ≤ wr.heap.size := by omega
      have C1a : (wr.alloc (Obj.cells #[] 3)).cell? ⟨w.heap.size, 1, none⟩ = some (.slice (some ad) n c) := cell_below C1 ((Below.refl _ _).alloc hL _) (by show w.heap.size < _; omega)
      have hca : (wr.alloc (Obj.cells #[] 3)).cell? (ad.add k) = some (.slice Aj x.length cj) := cell_below hc ((Below.refl _ _).alloc hL _) (Nat.lt_succ_of_lt hlc)
      have D1d : (wr.drew.alloc (Obj.cells #[] 3)).cell? ⟨w.heap.size + 2, 1, none⟩ = some v := cell_below (w1 := wr.drew) D1 ((Below.refl (w.heap.size + 3) wr.drew).alloc hL _) (Nat.lt_succ_self _)
      have C1d : (wr.drew.alloc (Obj.cells #[] 3)).cell? ⟨w.heap.size, 1, none⟩ = some (.slice (some ad) n c) := cell_below (w1 := wr.drew) C1 ((Below.refl (w.heap.size + 3) wr.drew).alloc hL _) (by show w.heap.size < _; omega)
      have hcd : (wr.drew.alloc (Obj.cells #[] 3)).cell? (ad.add k) = some (.slice Aj x.length cj) := cell_below (w1 := wr.drew) hc ((Below.refl (w.heap.size + 3) wr.drew).alloc hL _) (Nat.lt_succ_of_lt hlc)
      have HL2 := Lib.hid (show w.heap.size + 2 ≤ wr.heap.size by omega)
      have D1a : (wr.alloc (Obj.cells #[] 3)).cell? ⟨w.heap.size + 2, 1, none⟩ = some v := cell_below D1 ((Below.refl _ _).alloc hL _) (Nat.lt_succ_self _)
      have L : ([] : List Value).length + x.length ≤ maxLen ∧ (([] : List Value).length + x.length) * 8 ≤ 140737488355328 := by unfold maxLen; simp; omega
      have L1 := Lib.hid L
      have hrd1 := HR.out.more (show w.heap.size ≤ wr.heap.size by omega)
      have HR1 := Lib.hid hrd1
      have HL3 := Lib.hid hL
      have HW0 := Lib.hid (Row.made (w := wr) wr.heap.size #[] 0 3 (Nat.le_refl _) rfl (Nat.zero_le _))
      clear L hx hY hov bxv hrd bxa hrd1 D0 C0 bxb hrk
      go_region_law (first
          | (refine step_app (news := ivs x) (B := wr.heap.size) (A := Aj) (m := x.length) (c := cj) (v := .slice (some ⟨wr.heap.size, 0, none⟩) 0 0) (xs := []) (lo := wr.heap.size) (hi' := wr.heap.size + 1) rfl (.tmp 17) (.tmp 22) 27 rfl 3 i0 (.int .i64 0) 8 Tryd.underlying27 hi hz0 hz1 hz2 rfl (by simp [Act.eval]) (by simp [Act.eval]) (by first | exact HW0.out | exact rowD HW0.out) (ivs_len x) (by first | exact HR1.out.below ((Below.refl _ _).alloc (Nat.le_refl _) _) | exact HR1.out.below ((Below.refl _ _).alloc (Nat.le_refl _) _).drew | exact HR1.out.below ((Below.refl _ _).drew.alloc (Nat.le_refl _) _)) int_one L1.out.1 L1.out.2 (by simp) ?_; intro v1 w1 hrow1 ho1; obtain ⟨A9, c9, rfl, _, _, _⟩ := hrow1.rd (n := x.length) (by simp [ivs]); have hbw1 : Below wr.heap.size wr w1 := (by first | exact ((Below.refl wr.heap.size wr).alloc (Nat.le_refl _) _).trans (ho1.below (Nat.le_refl _) (by simp)) | exact ((Below.refl wr.heap.size wr).alloc (Nat.le_refl _) _).drew.trans (ho1.below (Nat.le_refl _) (by simp)) | exact ((Below.refl wr.heap.size wr).drew.alloc (Nat.le_refl _) _).trans (ho1.below (Nat.le_refl _) (by simp))); have hk1 := h2_to HK.out hl2 hlc (hbw1.mono HL2.out); have D1b := cell_below D1 (hbw1.mono HL3.out) (Nat.lt_succ_self _); have D1c : (w1.alloc (Obj.cells #[.slice A9 x.length c9] 27)).cell? ⟨w.heap.size + 2, 1, none⟩ = some v := cell_below D1b ((Below.refl _ _).alloc (Nat.le_trans HL3.out hbw1.size) _) (Nat.lt_succ_self _))
          | (refine step_appSS (X := Y) (x := x) (u := .slice A9 x.length c9) (v := v) (L := w.heap.size + 3) (M := wr.heap.size) (lo := wr.heap.size) (hi := w1.heap.size) (c := 1) (ad := ⟨w1.heap.size, 0, none⟩) rfl (.tmp 16) (.tmp 24) rfl (by simp [Act.eval]) (by simp [Act.eval]) (by first | exact (HO.out.below hbw1 (Nat.le_refl _)).new ((Below.refl _ _).alloc (Nat.le_refl _) _) | exact (HO.out.below hbw1 (Nat.le_refl _)).new ((Below.refl _ _).alloc (Nat.le_refl _) _).drew) (by first | exact hrow1.new ((Below.refl _ _).alloc (Nat.le_refl _) _) | exact hrow1.new ((Below.refl _ _).alloc (Nat.le_refl _) _).drew) (by exact Rd.made w1 #[.slice A9 x.length c9] _) (Nat.le_refl _) HL3.out (by omega) (by have := hbw1.size; have := HL3.out; simp; omega) ?_; intro v2 w2 hown2 hbw2; obtain ⟨A8, c8, rfl, _, _, _⟩ := hown2.rd (n := Y.length + 1) (by simp); have hb9 : Below (w.heap.size + 3) wr w2 := ((hbw1.mono HL3.out).trans (by first | exact ((Below.refl _ _).alloc (Nat.le_trans HL3.out hbw1.size) _) | exact ((Below.refl _ _).alloc (Nat.le_trans HL3.out hbw1.size) _).drew)).trans hbw2; have hk2 := h2_to HK.out hl2 hlc (hb9.mono (Nat.le_succ _)); have bx9 : Bx w2 (w.heap.size + 2) 26 #[Value.int IntKind.i64 N, v] := (hb9.block _ (Nat.lt_succ_self _)).trans HB.out; have c2 := bx9.two.2; have f2 := bx9.free 1))
      all_goals
        go_wp2
        go_roundw
        case rel => exact ⟨k + 1, .slice A8 (Y.length + 1) c8, by omega, by go_num, bx9.set 1 _, by rw [HT.out]; exact (hown2.setFar (.inl (Nat.lt_succ_self _)) _).wide (Nat.le_refl _) (by simp), hbw.trans ((hb9.mono (Nat.le_succ _)).setCell (Nat.le_refl _) _)⟩
        case measure => simp [intOf]; omega
    · have e : k = n := by omega
      subst e
      rw [List.take_of_length_le (by rw [hl.out]; exact Nat.le_refl _)] at hov
      have HO := Lib.hid hov
      have hv1 := hov.one
      clear hov
      go_wp2_with (first | (refine ldGR rfl (.tmp 3) rfl bxv rfl rfl ?_) | (refine stGR rfl (.tmp 2) (.tmp 27) rfl bxb rfl hv1 rfl rfl ?_))
      refine bodyPost_ret (resGR rfl (bxb.setRow _) rfl rfl) rfl ⟨v, rfl, ?_, ?_⟩
      · exact (HO.out.out (setRow_out wr _ _ (Nat.le_refl _) (Nat.lt_succ_self _)) (.inr (by omega))).wide (by omega) (by simp [World.setRow])
      · exact (hb1.trans (hbw.mono (by omega))).trans ((setRow_out wr _ _ (Nat.le_refl _) (Nat.lt_succ_self _)).below (by omega) (by omega))
end Go.Proofs.YtjhknafajfpldaaDoor
