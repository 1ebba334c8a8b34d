/- Contracts of the code's amended and Amended (chapter 30). Condition: the slices have at most 2^30 elements. -/
import Derived.Test.YteffhbboeacogaaAmdM
import Derived.Test.YteffhbboeacogaaConcat
import Derived.Test.YteffhbboeacogaaClone
import Derived.Deep.DeepCutAuto
namespace Go.Proofs.Yteffhbboeacogaa
open Go.ChangeShapes Go.WideShapes Go.ChangeAt Go.RowKit
set_option maxRecDepth 100000
theorem three_rd {w : World} {B g : Nat} {t : TypeId} {X Y Z : List Int} {A1 A2 A3 : Option Addr} {n1 n2 n3 c1 c2 c3 : Nat} (bx : Bx w g t #[.slice A1 n1 c1, .slice A2 n2 c2, .slice A3 n3 c3]) (hg : g < B)
    (r1 : Rd w B A1 (ivs X)) (r2 : Rd w B A2 (ivs Y)) (r3 : Rd w B A3 (ivs Z)) (l1 : X.length = n1) (l2 : Y.length = n2) (l3 : Z.length = n3) (h1 : n1 ≤ c1) (h2 : n2 ≤ c2) (h3 : n3 ≤ c3) (m1 : c1 ≤ maxLen) (m2 : c2 ≤ maxLen) (m3 : c3 ≤ maxLen) :
    RdSS w B (some ⟨g, 0, none⟩) [X, Y, Z] := by
  subst l1 l2 l3
  refine fun k x hx => ?_
  match k, hx with
  | 0, hx =>
    have : x = X := by simpa using hx.symm
    subst this
    exact ⟨⟨g, 0, none⟩, A1, c1, rfl, hg, by simpa [Addr.add] using bx.at_ (k := 0) rfl, h1, m1, r1⟩
  | 1, hx =>
    have : x = Y := by simpa using hx.symm
    subst this
    exact ⟨⟨g, 0, none⟩, A2, c2, rfl, hg, by simpa [Addr.add] using bx.at_ (k := 1) rfl, h2, m2, r2⟩
  | 2, hx =>
    have : x = Z := by simpa using hx.symm
    subst this
    exact ⟨⟨g, 0, none⟩, A3, c3, rfl, hg, by simpa [Addr.add] using bx.at_ (k := 2) rfl, h3, m3, r3⟩
  | _ + 3, hx => simp at hx
theorem rdSS_dr {w : World} {A : Option Addr} {X : List (List Int)} (h : RdSS w w.heap.size A X) : RdSS w.drew w.drew.heap.size A X := h
set_option maxHeartbeats 4000000 in
theorem replaced_any {w : World} {A A' : Option Addr} {n c m c' k d : Nat} {T P : List Int} (hl : Hid (T.length = n)) (hn : n ≤ 1073741824) (hlp : Hid (P.length = m)) (hm : m ≤ 1073741824) (hnc : n ≤ c) (hcm : c ≤ maxLen) (hmc : m ≤ c') (hcm' : c' ≤ maxLen) (hkd : k + d ≤ n)
    (hr : Rd w w.heap.size A (ivs T)) (hr' : Rd w w.heap.size A' (ivs P)) :
    Calls Try.prog 79 #[.slice A n c, .int .i64 k, .int .i64 d, .slice A' m c'] w (Fresh 3 (ivs (T.take k ++ P ++ T.drop (k + d))) w) := by
  obtain ⟨ti, hti, hz0, hz1, hz2⟩ := info_parts IntS_info
  have zz : ∀ w, (Go.sizeOf 3).run Try.prog w = .ok 1 w := fun w => by simp [sizeOf, typeInfo, hti, hz1]
  have hs1 := fun (w : World) => run_to w 24 3 Try.underlying24 zz A (n := n) (c := c) (k := k) (by omega)
  have hs2 := fun (w : World) => run_from w 24 3 Try.underlying24 zz A (n := n) (c := c) (k := k + d) hkd hnc
  have ww := IntWalk.i64_in ((k : Int) + (d : Int)) (by omega)
  have kd : ((k + d : Nat) : Int) = (k : Int) + (d : Int) := by omega
  rw [kd] at hs2
  obtain ⟨T2, hT⟩ : ∃ T2, T2 = tlA A (k + d) c := ⟨_, rfl⟩
  have RD1 : Hid (Rd w w.heap.size A (ivs (T.take k))) := Lib.hid (by have := hr.hd (k := k); rwa [show (ivs T).take k = ivs (T.take k) by simp [ivs, List.map_take]] at this)
  have RD3 : Hid (Rd w w.heap.size T2 (ivs (T.drop (k + d)))) := Lib.hid (by have := hr.tl (k := k + d) (c := c) (by rw [ivs_len, hl.out]; exact hnc); rwa [show (ivs T).drop (k + d) = ivs (T.drop (k + d)) by simp [ivs, List.map_drop], ← hT] at this)
  have RD2 : Hid (Rd w w.heap.size A' (ivs P)) := Lib.hid hr'
  rw [← hT] at hs2
  have k0 : (0 : Int) ≤ (k : Int) := by omega
  have bA := alloc_a w (Obj.cells #[.slice A k c, .slice A' m c', .slice T2 (n - (k + d)) (c - (k + d))] 24)
  have bx := Bx.made w 24 #[.slice A k c, .slice A' m c', .slice T2 (n - (k + d)) (c - (k + d))]
  have HSS := Lib.hid (three_rd (X := T.take k) (Y := P) (Z := T.drop (k + d)) bx (B := (w.alloc (Obj.cells #[.slice A k c, .slice A' m c', .slice T2 (n - (k + d)) (c - (k + d))] 24)).heap.size) (by simp) ((RD1.out.below bA).more bA.size) ((RD2.out.below bA).more bA.size) ((RD3.out.below bA).more bA.size)
    (by rw [List.length_take, hl.out]; omega) hlp.out (by rw [List.length_drop, hl.out]) (by omega) hmc (by omega) hcm hcm' (by omega))
  have HP := Lib.hid (show psum [T.take k, P, T.drop (k + d)] 3 ≤ 137438953472 by
    have h1 : (T.take k).length = k := by rw [List.length_take, hl.out]; omega
    have h2 : (T.drop (k + d)).length = n - (k + d) := by rw [List.length_drop, hl.out]
    simp [psum, h1, h2, hlp.out]
    omega)
  have HBA := Lib.hid bA
  clear hT bA bx kd hr hr'
  go_enter Try.func79, Try.ntmps79
  go_wp2_with fail
  go_region_law (first
    | (go_simp; go_at_call 93; (with_reducible refine (concat_any (n := 3) (Lib.hid rfl) (by omega) HP (by first | exact HSS.out | exact rdSS_dr HSS.out)).mono ?_); rintro e w9 ⟨v9, rfl, hr9, hb9⟩))
  all_goals
    go_wp2_with fail
    go_ret
    exact ⟨_, rfl, by rw [show T.take k ++ P ++ T.drop (k + d) = [T.take k, P, T.drop (k + d)].flatten by simp]; exact hr9.wide (by first | exact HBA.out.size | simp) (Nat.le_refl _), by first | exact trans_new HBA.out hb9 | exact trans_new HBA.out.drew hb9⟩
set_option maxHeartbeats 1000000 in
theorem amended_any {w : World} {A A' : Option Addr} {n c c' k d : Nat} {T : List Int} {x : Am} (hl : Hid (T.length = n)) (hn : n ≤ 1073741824) (hm : x.put.length ≤ 1073741824) (hnc : n ≤ c) (hcm : c ≤ maxLen) (hmc : x.put.length ≤ c') (hcm' : c' ≤ maxLen) (hk : Hid (x.loc = k)) (hd : Hid (x.drp = d)) (hkd : k + d ≤ n)
    (hr : Rd w w.heap.size A (ivs T)) (hr' : Rd w w.heap.size A' (ivs x.put)) :
    Calls Try.prog 58 #[.agg #[.int .i64 x.loc, .int .i64 x.drp, .slice A' x.put.length c'], .slice A n c] w (Fresh 3 (ivs (amdV T x)) w) := by
  have bx := Bx.made w 26 #[Value.int .i64 x.loc, .int .i64 x.drp, .slice A' x.put.length c']
  have bA := alloc_a w (Obj.cells #[Value.int .i64 x.loc, .int .i64 x.drp, .slice A' x.put.length c'] 26)
  obtain ⟨W1, hW⟩ : ∃ W1, w.alloc (Obj.cells #[Value.int .i64 x.loc, .int .i64 x.drp, .slice A' x.put.length c'] 26) = W1 := ⟨_, rfl⟩
  rw [hW] at bx bA
  have HW := Lib.hid hW
  have HBA := Lib.hid bA
  obtain ⟨c0, c1, c2⟩ := bx.k3
  have HR := Lib.hid ((hr.below bA).more bA.size)
  have HR' := Lib.hid ((hr'.below bA).more bA.size)
  have HV := Lib.hid (amdV_kd (T := T) hk.out hd.out)
  clear hW bx bA hr hr'
  go_enter Try.func58, Try.ntmps58
  go_wp2_with fail
  rw [HW.out]
  try (go_wp2_with fail)
  rw [hk.out, hd.out]
  refine (replaced_any (T := T) (P := x.put) hl hn (Lib.hid rfl) hm hnc hcm hmc hcm' hkd HR.out HR'.out).mono ?_
  rintro e w2 ⟨v, rfl, hr2, b2⟩
  go_wp2_with fail
  go_ret
  exact ⟨_, rfl, by rw [HV.out]; exact hr2.wide HBA.out.size (Nat.le_refl _), trans_new HBA.out b2⟩
set_option maxHeartbeats 1000000 in
theorem impAmended_any {w : World} {A A' : Option Addr} {n c c' : Nat} {T : List Int} {x : Am} (hl : Hid (T.length = n)) (hn : n ≤ 1073741824) (hm : x.put.length ≤ 1073741824) (hnc : n ≤ c) (hcm : c ≤ maxLen) (hmc : x.put.length ≤ c') (hcm' : c' ≤ maxLen)
    (hr : Rd w w.heap.size A (ivs T)) (hr' : Rd w w.heap.size A' (ivs x.put)) :
    Calls Try.prog 17 #[.slice A n c, .agg #[.int .i64 x.loc, .int .i64 x.drp, .slice A' x.put.length c']] w (Amended T x (mayA n x) w) := by
  have bx := Bx.made w 26 #[Value.int .i64 x.loc, .int .i64 x.drp, .slice A' x.put.length c']
  have bA := alloc_a w (Obj.cells #[Value.int .i64 x.loc, .int .i64 x.drp, .slice A' x.put.length c'] 26)
  obtain ⟨W1, hW⟩ : ∃ W1, w.alloc (Obj.cells #[Value.int .i64 x.loc, .int .i64 x.drp, .slice A' x.put.length c'] 26) = W1 := ⟨_, rfl⟩
  rw [hW] at bx bA
  have HW := Lib.hid hW
  have HBX := Lib.hid bx
  have HBA := Lib.hid bA
  obtain ⟨c0, c1, c2⟩ := bx.k3
  have HR := Lib.hid hr
  have HR' := Lib.hid hr'
  clear hW bx bA hr hr'
  cases q : mayA n x with
  | false =>
    have HA := Lib.hid (amdL_no (T := T) (x := x) (by rw [hl.out]; exact q))
    have HQ := Lib.hid q
    clear q
    go_enter Try.func17, Try.ntmps17
    go_wp2_with fail
    rw [HW.out]
    try (go_wp2_with fail)
    refine (impMayAmend_any (by omega) (by omega)).mono ?_
    rintro e w2 ⟨rfl, b2⟩
    rw [HQ.out]
    have HB2 := Lib.hid (trans_new HBA.out b2)
    clear b2 c0 c1 c2
    go_wp2_with fail
    refine (clone_any (xs := T) hl (by omega) ((HR.out.below HB2.out).more HB2.out.size)).mono ?_
    rintro e w3 ⟨v, rfl, hr3, b3⟩
    go_wp2_with fail
    go_ret2
    exact ⟨_, rfl, by rw [HA.out]; exact hr3.wide HB2.out.size (Nat.le_refl _), trans_new HB2.out b3⟩
  | true =>
    have hm2 := mayA_iff.1 q
    obtain ⟨k, hk⟩ := Int.eq_ofNat_of_zero_le hm2.1.1
    obtain ⟨d, hd⟩ := Int.eq_ofNat_of_zero_le hm2.2.1.1
    have hkd : k + d ≤ n := by omega
    have HA := Lib.hid (amdL_ok (T := T) (x := x) (by rw [hl.out]; exact q))
    have HQ := Lib.hid q
    have HK := Lib.hid hk
    have HD := Lib.hid hd
    clear q hm2 hk hd
    go_enter Try.func17, Try.ntmps17
    go_wp2_with fail
    rw [HW.out]
    try (go_wp2_with fail)
    refine (impMayAmend_any (by omega) (by omega)).mono ?_
    rintro e w2 ⟨rfl, b2⟩
    rw [HQ.out]
    have HB2 := Lib.hid (trans_new HBA.out b2)
    obtain ⟨d0, d1, d2⟩ := (HBX.out.new b2).k3
    clear b2 c0 c1 c2
    go_wp2_with fail
    refine (amended_any (x := x) hl hn hm hnc hcm hmc hcm' HK HD hkd ((HR.out.below HB2.out).more HB2.out.size) ((HR'.out.below HB2.out).more HB2.out.size)).mono ?_
    rintro e w3 ⟨v, rfl, hr3, b3⟩
    go_wp2_with fail
    go_ret2
    exact ⟨_, rfl, by rw [HA.out]; exact hr3.wide HB2.out.size (Nat.le_refl _), trans_new HB2.out b3⟩
end Go.Proofs.Yteffhbboeacogaa
