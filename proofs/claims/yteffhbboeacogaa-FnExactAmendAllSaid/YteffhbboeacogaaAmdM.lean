/- Contract of the model Amended (chapter 30). Condition: the slices have at most 2^40 elements. -/
import Derived.Test.YteffhbboeacogaaMayA
import Derived.Test.YteffhbboeacogaaSets
import Derived.Test.YteffhbboeacogaaStep
namespace Go.Proofs.Yteffhbboeacogaa
open Go.ChangeShapes Go.WideShapes Go.ChangeAt Go.RowKit
set_option maxRecDepth 100000
/-- The amended text. -/
def amdV (T : List Int) (x : Am) : List Int := T.take x.loc.toNat ++ x.put ++ T.drop (x.loc + x.drp).toNat
def amdL (T : List Int) (x : Am) : List Int := if mayA T.length x then amdV T x else T
theorem amdL_no {T : List Int} {x : Am} (h : mayA T.length x = false) : amdL T x = T := by unfold amdL; rw [h]; rfl
theorem amdL_ok {T : List Int} {x : Am} (h : mayA T.length x = true) : amdL T x = amdV T x := if_pos h
theorem amdV_kd {T : List Int} {x : Am} {k d : Nat} (h1 : x.loc = k) (h2 : x.drp = d) : amdV T x = T.take k ++ x.put ++ T.drop (k + d) := by
  unfold amdV
  rw [h1, h2, Int.toNat_natCast, show (((k : Int) + (d : Int)).toNat) = k + d by omega]
theorem amdL_len {T : List Int} {x : Am} : (amdL T x).length ≤ T.length + x.put.length := by
  cases h : mayA T.length x with
  | false => rw [amdL_no h]; omega
  | true =>
    rw [amdL_ok h]
    have := mayA_iff.1 h
    unfold amdV
    rw [List.length_append, List.length_append, List.length_take, List.length_drop]
    omega
def Amended (T : List Int) (x : Am) (b : Bool) (w : World) (e : Ending) (w' : World) : Prop := ∃ v, e = .returned (.tuple #[v, .bool b]) ∧ Row w' w.heap.size w'.heap.size 3 v (ivs (amdL T x)) ∧ Below w.heap.size w w'
set_option maxHeartbeats 8000000 in
theorem specAmended_any {w : World} {A A' : Option Addr} {n c c' : Nat} {T : List Int} {x : Am} (hl : Hid (T.length = n)) (hn : n ≤ 1099511627776) (hx : x.put.length ≤ 1099511627776) (hnc : n ≤ c)
    (hr : Rd w w.heap.size A (ivs T)) (hr' : Rd w w.heap.size A' (ivs x.put)) :
    Calls Try.prog 45 #[.slice A n c, .agg #[.int .i64 x.loc, .int .i64 x.drp, .slice A' x.put.length c']] w (Amended T x (mayA n x) w) := by
  obtain ⟨ti, hti, hz0, hz1, hz2⟩ := info_parts IntS_info
  have zz : ∀ w, (Go.sizeOf 3).run Try.prog w = .ok 1 w := fun w => by simp [sizeOf, typeInfo, hti, hz1]
  have bx := Bx.made w 26 #[Value.int .i64 x.loc, .int .i64 x.drp, .slice A' x.put.length c']
  have bA := alloc_a w (Obj.cells #[Value.int .i64 x.loc, .int .i64 x.drp, .slice A' x.put.length c'] 26)
  obtain ⟨W1, hW⟩ : ∃ W1, w.alloc (Obj.cells #[Value.int .i64 x.loc, .int .i64 x.drp, .slice A' x.put.length c'] 26) = W1 := ⟨_, rfl⟩
  rw [hW] at bx bA
  have HW := Lib.hid hW
  have HBX := Lib.hid bx
  have HBA := Lib.hid bA
  obtain ⟨c0, c1, c2⟩ := bx.k3
  clear hW bx bA
  cases q : mayA n x with
  | false =>
    have HA := Lib.hid (amdL_no (T := T) (x := x) (by rw [hl.out]; exact q))
    have HQ := Lib.hid q
    clear q
    go_enter Try.func45, Try.ntmps45
    go_wp2_with fail
    rw [HW.out]
    try (go_wp2_with fail)
    refine (specMayAmend_any hn hx).mono ?_
    rintro e w2 ⟨rfl, b2⟩
    rw [HQ.out]
    have B2 := trans_new HBA.out b2
    have b3 := alloc_a w2 (Obj.cells #[] 3)
    have HROW := Lib.hid (Row.made (w := w2) w2.heap.size #[] 0 3 (Nat.le_refl _) rfl (Nat.zero_le _))
    have HR := Lib.hid ((hr.below (B2.trans (b3.mono B2.size))).more (B2.trans (b3.mono B2.size)).size)
    have HB3 := Lib.hid (B2.trans (b3.mono B2.size))
    have hs2 := B2.size
    have L1 := Lib.hid (show ([] : List Value).length + n ≤ maxLen ∧ (([] : List Value).length + n) * 8 ≤ 140737488355328 by unfold maxLen; simp; omega)
    have LN := Lib.hid (show (ivs T).length = n by rw [ivs_len]; exact hl.out)
    clear b2 B2 b3 c0 c1 c2
    go_wp2_with (at_builtin; (refine wpList_app rfl (.tmp 10) (.tmp 11) 24 rfl 3 ti _ 8 Try.underlying24 hti hz0 hz1 hz2 rfl rfl rfl HROW.out LN.out HR.out int_one L1.out.1 L1.out.2 (by simp) ?_; intro v1 w1 hrow1 ho1))
    go_ret2
    exact ⟨_, rfl, by rw [HA.out]; simpa using hrow1.wide hs2 (Nat.le_refl _), HB3.out.trans (ho1.below hs2 (by simp; omega))⟩
  | true =>
    have hm := mayA_iff.1 q
    obtain ⟨k, hk⟩ := Int.eq_ofNat_of_zero_le hm.1.1
    obtain ⟨d, hd⟩ := Int.eq_ofNat_of_zero_le hm.2.1.1
    have hkd : k + d ≤ n := by omega
    have HA := Lib.hid (show amdL T x = [] ++ T.take k ++ x.put ++ T.drop (k + d) by rw [amdL_ok (by rw [hl.out]; exact q), amdV_kd hk hd, List.nil_append])
    have HQ := Lib.hid q
    have HK := Lib.hid hk
    have HD := Lib.hid hd
    have ww := IntWalk.i64_in ((k : Int) + (d : Int)) (by omega)
    obtain ⟨m, hmm⟩ : ∃ m, x.put.length = m := ⟨_, rfl⟩
    have HM := Lib.hid hmm
    have HX := Lib.hid hx
    clear q hm hk hd hmm
    have hm9 : m ≤ 1099511627776 := by rw [← HM.out]; exact HX.out
    have k0 : (0 : Int) ≤ (k : Int) := by omega
    have kd : ((k + d : Nat) : Int) = (k : Int) + (d : Int) := by omega
    go_enter Try.func45, Try.ntmps45
    go_wp2_with fail
    rw [HW.out]
    try (go_wp2_with fail)
    refine (specMayAmend_any hn HX.out).mono ?_
    rintro e w2 ⟨rfl, b2⟩
    rw [HQ.out]
    have B2 := trans_new HBA.out b2
    obtain ⟨wr, hwr⟩ : ∃ wr, wr = w2 := ⟨_, rfl⟩
    have BX2 := HBX.out.new b2
    rw [HK.out, HD.out, HM.out] at BX2
    subst hwr
    have hs1 := fun (w : World) => run_to w 24 3 Try.underlying24 zz A (n := n) (c := c) (k := k) (by omega)
    have hs2 := fun (w : World) => run_from w 24 3 Try.underlying24 zz A (n := n) (c := c) (k := k + d) hkd hnc
    rw [kd] at hs2
    obtain ⟨T2, hT⟩ : ∃ T2, T2 = tlA A (k + d) c := ⟨_, rfl⟩
    have hrd := (hr.below B2).more B2.size
    have RD1 : Hid (Rd wr wr.heap.size A (ivs (T.take k))) := Lib.hid (by have := hrd.hd (k := k); rwa [show (ivs T).take k = ivs (T.take k) by simp [ivs, List.map_take]] at this)
    have RD3 : Hid (Rd wr wr.heap.size T2 (ivs (T.drop (k + d)))) := Lib.hid (by have := hrd.tl (k := k + d) (c := c) (by rw [ivs_len, hl.out]; exact hnc); rwa [show (ivs T).drop (k + d) = ivs (T.drop (k + d)) by simp [ivs, List.map_drop], ← hT] at this)
    have RD2 : Hid (Rd wr wr.heap.size A' (ivs x.put)) := Lib.hid ((hr'.below B2).more B2.size)
    rw [← hT] at hs2
    have L1 : Hid ((ivs (T.take k)).length = k) := Lib.hid (by rw [ivs_len, List.length_take, hl.out]; omega)
    have L2 : Hid ((ivs x.put).length = m) := Lib.hid (by rw [ivs_len]; exact HM.out)
    have L3 : Hid ((ivs (T.drop (k + d))).length = n - (k + d)) := Lib.hid (by rw [ivs_len, List.length_drop, hl.out])
    have SZ1 := Lib.hid (show ([] : List Value).length + k ≤ maxLen ∧ (([] : List Value).length + k) * 8 ≤ 140737488355328 by unfold maxLen; simp; omega)
    have LE1 : Hid (([] ++ ivs (T.take k)).length = k) := Lib.hid (by rw [List.nil_append]; exact L1.out)
    have SZ2 := Lib.hid (show ([] ++ ivs (T.take k)).length + m ≤ maxLen ∧ (([] ++ ivs (T.take k)).length + m) * 8 ≤ 140737488355328 by rw [LE1.out]; unfold maxLen; omega)
    have LE2 : Hid (([] ++ ivs (T.take k) ++ ivs x.put).length = k + m) := Lib.hid (by rw [List.length_append, LE1.out, L2.out])
    have SZ3 := Lib.hid (show ([] ++ ivs (T.take k) ++ ivs x.put).length + (n - (k + d)) ≤ maxLen ∧ (([] ++ ivs (T.take k) ++ ivs x.put).length + (n - (k + d))) * 8 ≤ 140737488355328 by rw [LE2.out]; unfold maxLen; omega)
    have r13 := Row.made (w := wr) wr.heap.size #[] 0 3 (Nat.le_refl _) rfl (Nat.zero_le _)
    have q13 : Below wr.heap.size wr (wr.alloc (Obj.cells #[] 3)) := alloc_a _ _
    have H13 := Lib.hid r13
    have HX2 := Lib.hid BX2
    have KE := fun (u : World) (r : Below wr.heap.size wr u) => show Below wr.heap.size wr u ∧ u.cell? ⟨w.heap.size, 0, none⟩ = some (.int .i64 (k : Int)) ∧ u.cell? ⟨w.heap.size, 1, none⟩ = some (.int .i64 (d : Int)) ∧ u.cell? ⟨w.heap.size, 2, none⟩ = some (.slice A' m c') from ⟨r, (HX2.out.new r).k3.1, (HX2.out.new r).k3.2.1, (HX2.out.new r).k3.2.2⟩
    have HB2 := Lib.hid B2
    have kZ := Below.refl wr.heap.size wr
    clear hT hrd r13 b2 B2 BX2 c0 c1 c2 hx kd
    go_wp2_with fail
    go_region_held3 (fun u => Below wr.heap.size wr u ∧ u.cell? ⟨w.heap.size, 0, none⟩ = some (.int .i64 (k : Int)) ∧ u.cell? ⟨w.heap.size, 1, none⟩ = some (.int .i64 (d : Int)) ∧ u.cell? ⟨w.heap.size, 2, none⟩ = some (.slice A' m c')) (first | assumption | with_reducible exact KE _ kZ | with_reducible exact KE _ kZ.drew | with_reducible exact KE _ k36 | with_reducible exact KE _ k36.drew | with_reducible exact KE _ k32 | with_reducible exact KE _ k32.drew | with_reducible exact KE _ k29 | with_reducible exact KE _ k29.drew | with_reducible exact KE _ q13 | with_reducible exact KE _ q13.drew)
      (first
      | (refine step_app rfl (.tmp 13) (.tmp 17) 24 rfl 3 ti _ 8 Try.underlying24 hti hz0 hz1 hz2 rfl (v := .slice (some ⟨wr.heap.size, 0, none⟩) 0 0) (A := A) (m := k) (c := c) (by simp [Act.eval]) (by simp [Act.eval]) (lo := wr.heap.size) (hi' := wr.heap.size + 1) (xs := []) (by first | exact H13.out | exact H13.out.drewN 1) L1.out ((RD1.out.below (‹Below wr.heap.size wr _ ∧ _›).1).more (‹Below wr.heap.size wr _ ∧ _›).1.size) int_one SZ1.out.1 SZ1.out.2 (‹Below wr.heap.size wr _ ∧ _›).1.size ?_; intro v29 w29 row29 o29; have k29 := (‹Below wr.heap.size wr _ ∧ _›).1.trans (o29.below (Nat.le_refl _) (‹Below wr.heap.size wr _ ∧ _›).1.size); obtain ⟨A29, c29, rfl, _, _, _⟩ := row29.rd (n := k) LE1.out)
      | (refine step_app rfl (.tmp 18) (.tmp 20) 24 rfl 3 ti _ 8 Try.underlying24 hti hz0 hz1 hz2 rfl (v := .slice A29 k c29) (A := A') (m := m) (c := c') (by simp [Act.eval]) (by simp [Act.eval]) (by first | exact row29 | exact row29.drewN 1) L2.out ((RD2.out.below (‹Below wr.heap.size wr _ ∧ _›).1).more (‹Below wr.heap.size wr _ ∧ _›).1.size) int_one SZ2.out.1 SZ2.out.2 (‹Below wr.heap.size wr _ ∧ _›).1.size ?_; intro v32 w32 row32 o32; have k32 := (‹Below wr.heap.size wr _ ∧ _›).1.trans (o32.below (Nat.le_refl _) (‹Below wr.heap.size wr _ ∧ _›).1.size); obtain ⟨A32, c32, rfl, _, _, _⟩ := row32.rd (n := (k + m)) LE2.out)
      | (refine step_app rfl (.tmp 21) (.tmp 28) 24 rfl 3 ti _ 8 Try.underlying24 hti hz0 hz1 hz2 rfl (v := .slice A32 (k + m) c32) (A := T2) (m := (n - (k + d))) (c := (c - (k + d))) (by simp [Act.eval]) (by simp [Act.eval]) (by first | exact row32 | exact row32.drewN 1) L3.out ((RD3.out.below (‹Below wr.heap.size wr _ ∧ _›).1).more (‹Below wr.heap.size wr _ ∧ _›).1.size) int_one SZ3.out.1 SZ3.out.2 (‹Below wr.heap.size wr _ ∧ _›).1.size ?_; intro v36 w36 row36 o36; have k36 := (‹Below wr.heap.size wr _ ∧ _›).1.trans (o36.below (Nat.le_refl _) (‹Below wr.heap.size wr _ ∧ _›).1.size)))
    all_goals
      go_wp2_with fail
      go_ret2
      exact ⟨_, rfl, by rw [HA.out, show ivs ([] ++ T.take k ++ x.put ++ T.drop (k + d)) = [] ++ ivs (T.take k) ++ ivs x.put ++ ivs (T.drop (k + d)) by simp [ivs]]; exact row36.wide HB2.out.size (Nat.le_refl _), HB2.out.trans (k36.mono HB2.out.size)⟩
end Go.Proofs.Yteffhbboeacogaa
