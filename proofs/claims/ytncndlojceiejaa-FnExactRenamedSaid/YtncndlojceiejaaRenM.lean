/- Contract of the model of Renamed. Condition: the slices have at most 2^40 - 1 elements. -/
import Derived.Test.YtncndlojceiejaaRenR
import Derived.Test.YtncndlojceiejaaAddM2
import Derived.Test.YtncndlojceiejaaMg6
import Derived.Test.YtncndlojceiejaaSets
import Derived.Test.YtncndlojceiejaaWoS
import Derived.Deep.RegionHeld3
namespace Go.Proofs.Ytncndlojceiejaa
open Go.ChangeShapes Go.WideShapes Go.ChangeAt Go.RowKit
set_option maxRecDepth 100000
def okT (N : Int) (T : List Int) (i : Nat) : Bool := inr (T.getD i 0) 0 (N - 1) && !(dupB T i)
theorem perB_bad {N : Int} {T : List Int} {i : Nat} (hi : i < T.length) (h : okT N T i = false) : perB N T = false := by
  rw [← Bool.not_eq_true]
  intro hp
  unfold perB at hp
  have := List.all_eq_true.1 hp i (List.mem_range.2 hi)
  unfold okT at h
  rw [this] at h
  cases h
theorem perB_all {N : Int} {T : List Int} (h : ∀ i, i < T.length → okT N T i = true) : perB N T = true := by
  unfold perB
  rw [List.all_eq_true]
  exact fun i hi => h i (List.mem_range.1 hi)
/-- The first pairs with other names. -/
def renT (N : Int) (X : List (List Int)) (T : List Int) (k : Nat) : List (List Int) := renX N (X.take k) T
theorem renT_succ {N : Int} {X : List (List Int)} {T : List Int} {k : Nat} (hk : k < X.length) {p q : Nat} (hx : X[k] = [(p : Int), (q : Int)]) : renT N X T (k + 1) = addL N (renT N X T k) (T.getD p 0) (T.getD q 0) := by
  unfold renT renX
  rw [List.take_succ_eq_append_getElem hk, List.foldl_append, hx]
  simp
theorem ins_two {a b : Int} {Y : List (List Int)} (h : ∀ y ∈ Y, y.length = 2) : ∀ y ∈ ins a b Y, y.length = 2 := fun y hy => by
  rcases ins_mem.1 hy with hy | rfl
  · exact h y hy
  · rfl
theorem addL_two {N a b : Int} {Y : List (List Int)} (h : ∀ y ∈ Y, y.length = 2) : ∀ y ∈ addL N Y a b, y.length = 2 := by
  unfold addL
  split
  · exact ins_two h
  · exact h
theorem addL_len1 (N a b : Int) (Y : List (List Int)) : (addL N Y a b).length ≤ Y.length + 1 := by
  unfold addL
  split
  · rw [ins_len]; exact Nat.le_refl _
  · omega
theorem renX_two (N : Int) (T : List Int) : ∀ (X Y : List (List Int)), (∀ y ∈ Y, y.length = 2) → (∀ y ∈ X.foldl (fun Y x => addL N Y (T.getD (x.getD 0 0).toNat 0) (T.getD (x.getD 1 0).toNat 0)) Y, y.length = 2) ∧ (X.foldl (fun Y x => addL N Y (T.getD (x.getD 0 0).toNat 0) (T.getD (x.getD 1 0).toNat 0)) Y).length ≤ Y.length + X.length
  | [], Y, h => ⟨h, by simp⟩
  | x :: X, Y, h => by
    obtain ⟨h1, h2⟩ := renX_two N T X (addL N Y (T.getD (x.getD 0 0).toNat 0) (T.getD (x.getD 1 0).toNat 0)) (addL_two h)
    refine ⟨h1, Nat.le_trans h2 ?_⟩
    have := addL_len1 N (T.getD (x.getD 0 0).toNat 0) (T.getD (x.getD 1 0).toNat 0) Y
    simp only [List.length_cons]
    omega
theorem renT_two (N : Int) (X : List (List Int)) (T : List Int) (k : Nat) : (∀ y ∈ renT N X T k, y.length = 2) ∧ (renT N X T k).length ≤ k := by
  obtain ⟨h1, h2⟩ := renX_two N T (X.take k) [] (fun y hy => by cases hy)
  refine ⟨h1, Nat.le_trans h2 ?_⟩
  simp
  omega
section
variable {w : World} {A A' : Option Addr} {n c n' c' : Nat} {N : Int} {X : List (List Int)} {T : List Int}
set_option maxHeartbeats 8000000 in
theorem specRen_A (hX : gB N X = false) (hl : Hid (X.length = n)) (hn : n ≤ 1099511627775) (hs : Hid (∀ x ∈ X, x.length ≤ 1099511627776)) (hr : RdSS w w.heap.size A X) :
    Calls Try.prog 26 #[.agg #[.int .i64 N, .slice A n c], .slice A' n' c'] w (FreshGB N (reY N X T) (renB N X T) w) := by
  obtain ⟨W2, hW2, bx1, bx2, hb2, hs2⟩ := two_graphs w #[Value.int IntKind.i64 N, Value.slice A n c] #[Value.int IntKind.i64 0, Value.slice none 0 0] 26
  have HR := Lib.hid (hr.below hb2)
  obtain ⟨C0, C1⟩ := bx1.two
  have hW2' := hW2.symm
  have HS2 := Lib.hid hs2
  have HM := Lib.hid (show w.heap.size + 2 ≤ W2.heap.size by rw [HS2.out]; exact Nat.le_refl _)
  have HCf := Lib.hid (show renB N X T = false by unfold renB; rw [hX]; rfl)
  have HG := Lib.hid hX
  have HLx := Lib.hid (show reY N X T = X by unfold reY; rw [HCf.out]; rfl)
  clear hW2 hr hs2 hX
  go_enter Try.func26, Try.ntmps26
  go_wp2_with fail
  refine (specIsGraph_any (N := N) (X := X) (c := c) hl (by omega) (HR.out.more hb2.size)).mono ?_
  rintro e w3 ⟨rfl, hb3⟩
  rw [HG.out]
  have hb4 := hb2.trans (hb3.mono hb2.size)
  obtain ⟨D0, D1⟩ := (bx1.new hb3).two
  have bx23 := bx2.new hb3
  go_wp2_with fail
  refine (specL4Copy_any hl (by omega) hs ((HR.out.below (hb3.mono hb2.size)).more hb4.size)).mono ?_
  rintro e w6 ⟨v, rfl, hown, hb7⟩
  have bx26 := bx23.new hb7
  have hv1 := hown.one
  have hk := keep_result #[.int .i64 N, v] hown (hb4.trans (hb7.mono hb4.size)) (Nat.le_trans HM.out hb3.size) (Nat.le_trans HM.out (Nat.le_trans hb3.size hb7.size))
  go_wp2_with (first | (refine stGR rfl (.tmp 4) (.tmp 20) rfl bx26 rfl hv1 rfl rfl ?_))
  refine bodyPost_ret (resGB rfl (bx26.setRow _) rfl rfl rfl) rfl ⟨v, by rw [HCf.out]; rfl, by rw [HLx.out]; exact hk.1, hk.2⟩
set_option maxHeartbeats 16000000 in
theorem specRen_B {m : Nat} (hX : gB m X = true) (hl : Hid (X.length = n)) (hn : n ≤ 1099511627775) (hs : Hid (∀ x ∈ X, x.length ≤ 1099511627776)) (hr : RdSS w w.heap.size A X) (hl' : Hid (T.length = n')) (hn' : n' ≤ 1099511627776) (hr' : Rd w w.heap.size A' (ivs T)) (hnc : n' ≤ c') :
    Calls Try.prog 26 #[.agg #[.int .i64 m, .slice A n c], .slice A' n' c'] w (FreshGB m (reY m X T) (renB m X T) w) := by
  obtain ⟨W2, hW2, bx1, bx2, hb2, hs2⟩ := two_graphs w #[Value.int IntKind.i64 m, Value.slice A n c] #[Value.int IntKind.i64 0, Value.slice none 0 0] 26
  have HR := Lib.hid (hr.below hb2)
  have HR' := Lib.hid (hr'.below hb2)
  obtain ⟨C0, C1⟩ := bx1.two
  have hW2' := hW2.symm
  have HS2 := Lib.hid hs2
  have HM := Lib.hid (show w.heap.size + 2 ≤ W2.heap.size by rw [HS2.out]; exact Nat.le_refl _)
  have HG := Lib.hid hX
  obtain ⟨m', e, hm, hP, _⟩ := gB_ok hX
  obtain rfl : m = m' := by omega
  have HP := Lib.hid hP
  clear hW2 hr hr' hs2 hX e hP
  by_cases hlen : n' = m
  case neg =>
    have HCf := Lib.hid (show renB m X T = false by unfold renB; rw [HG.out, hl'.out]; simp; intro h; omega)
    have HLx := Lib.hid (show reY m X T = X by unfold reY; rw [HCf.out]; rfl)
    have hne : ((n' : Int) != (m : Int)) = true := by simp; omega
    clear hlen
    go_enter Try.func26, Try.ntmps26
    go_wp2_with fail
    refine (specIsGraph_any (N := m) (X := X) (c := c) hl (by omega) (HR.out.more hb2.size)).mono ?_
    rintro e w3 ⟨rfl, hb3⟩
    rw [HG.out]
    have hb4 := hb2.trans (hb3.mono hb2.size)
    obtain ⟨D0, D1⟩ := (bx1.new hb3).two
    have bx23 := bx2.new hb3
    go_wp2_with fail
    refine (specL4Copy_any hl (by omega) hs ((HR.out.below (hb3.mono hb2.size)).more hb4.size)).mono ?_
    rintro e w6 ⟨v, rfl, hown, hb7⟩
    have bx26 := bx23.new hb7
    have hv1 := hown.one
    have hk := keep_result #[.int .i64 m, v] hown (hb4.trans (hb7.mono hb4.size)) (Nat.le_trans HM.out hb3.size) (Nat.le_trans HM.out (Nat.le_trans hb3.size hb7.size))
    go_wp2_with (first | (refine stGR rfl (.tmp 4) (.tmp 20) rfl bx26 rfl hv1 rfl rfl ?_))
    refine bodyPost_ret (resGB rfl (bx26.setRow _) rfl rfl rfl) rfl ⟨v, by rw [HCf.out]; rfl, by rw [HLx.out]; exact hk.1, hk.2⟩
  case pos =>
    subst hlen
    have hne : ((n' : Int) != (n' : Int)) = false := by simp
    go_enter Try.func26, Try.ntmps26
    go_wp2_with fail
    refine (specIsGraph_any (N := n') (X := X) (c := c) hl (by omega) (HR.out.more hb2.size)).mono ?_
    rintro e w3 ⟨rfl, hb3⟩
    rw [HG.out]
    have hb4 := hb2.trans (hb3.mono hb2.size)
    have bx13 := bx1.new hb3
    have bx23 := bx2.new hb3
    obtain ⟨D0, D1⟩ := bx13.two
    have hr3 := HR.out.below (hb3.mono hb2.size)
    have hr3' := HR'.out.below (hb3.mono hb2.size)
    obtain ⟨i0, hin, hy0, hy1, hy2⟩ := info_parts IntS_info
    have zz : ∀ w, (Go.sizeOf 3).run Try.prog w = .ok 1 w := fun w => by simp [sizeOf, typeInfo, hin, hy1]
    have HM3 := Lib.hid (Nat.le_trans HM.out hb3.size)
    clear hW2' C0 C1
    go_wp2_with fail
    go_loopw [6] (fun i wr => ∃ k : Nat, k ≤ n' ∧ i = .int .i64 k ∧ Below w3.heap.size w3 wr ∧ Hid (∀ j, j < k → okT n' T j = true)) (fun i _ => n' - (intOf i).toNat)
    case atStart => exact ⟨0, Nat.zero_le _, rfl, Below.refl _ _, Lib.hid (fun j hj => absurd hj (Nat.not_lt_zero _))⟩
    case round =>
      obtain ⟨k, hk, rfl, hbw, hok⟩ := hrel
      clear D0 D1
      have bxa := bx13.new hbw
      have bxb := bx23.new hbw
      have hbz := hb4.trans (hbw.mono hb4.size)
      have hra := hr3.below (hbw.mono hb4.size)
      have hra' := hr3'.below (hbw.mono hb4.size)
      have hsw := hbw.size
      obtain ⟨D0, D1⟩ := bxa.two
      by_cases hlt : k < n'
      · have hkz : k < T.length := by rw [hl'.out]; exact hlt
        obtain ⟨ad, rfl, hab, hc⟩ := ivs_at hra' hkz
        obtain ⟨x, hx⟩ : ∃ x, x = T[k] := ⟨_, rfl⟩
        rw [← hx] at hc
        have HX0 : Hid (T.getD k 0 = x) := Lib.hid (by rw [hx]; simp [List.getD, hkz])
        have i0 : (0 : Int) ≤ (k : Int) := by omega
        have i1 : (k : Int) < (n' : Int) := by omega
        have hw1 : IntKind.i64.wrap ((n' : Int) - 1) = (n' : Int) - 1 := IntWalk.i64_in _ (by omega)
        have hsl := fun (w : World) => run_to w 40 3 Try.underlying40 zz (some ad) (n := n') (c := c') (k := k) (by omega)
        have HTK : Hid (Rd wr w.heap.size (some ad) (ivs (T.take k))) := Lib.hid (by have := Rd.hd (k := k) hra'; rwa [show (ivs T).take k = ivs (T.take k) by simp [ivs, List.map_take]] at this)
        have HTL : Hid ((T.take k).length = k) := Lib.hid (by rw [List.length_take]; omega)
        have KE := fun (u : World) (q : Below wr.heap.size wr u) => show Below wr.heap.size wr u ∧ u.cell? ⟨w.heap.size, 0, none⟩ = some (.int .i64 n') ∧ u.cell? ⟨w.heap.size, 1, none⟩ = some (.slice A n c) ∧ u.cell? (ad.add k) = some (.int .i64 x) from ⟨q, (bxa.new q).two.1, (bxa.new q).two.2, (q.cell (p := ad.add k) (by rw [add_blk]; have := hbz.size; omega)).trans hc⟩
        clear hx
        by_cases h1 : inr x 0 ((n' : Int) - 1) = true
        · have HI := Lib.hid h1
          by_cases h2 : (T.take k).contains x = true
          · have HD := Lib.hid h2
            have HPB := Lib.hid (perB_bad (N := n') hkz (by unfold okT dupB; rw [HX0.out, HD.out]; simp))
            clear h1 h2
            go_wp2_with fail
            refine wp_region_quiet (C := fun u => Below wr.heap.size wr u ∧ u.cell? ⟨w.heap.size, 0, none⟩ = some (.int .i64 n') ∧ u.cell? ⟨w.heap.size, 1, none⟩ = some (.slice A n c) ∧ u.cell? (ad.add k) = some (.int .i64 x)) (by kernel_rfl) (by kernel_rfl) (KE _ (Below.refl _ _).drew) ?_
            rw [List.toList_toArray]
            go_big_quiet_want
            go_big_quiet_op
            go_big_quiet_on
            go_big_quiet_want
            go_big_quiet_op
            go_big_quiet_on
            go_big_quiet_want
            apply Exists.intro
            refine ⟨fun u hu => ?_, ?_⟩
            · obtain ⟨hu0, hu1, hu2, hu3⟩ := hu
              unfold Oper.quietAt
              go_simp
              try rfl
            simp only [Act.put, List.setIfInBounds_toArray, List.set_cons_zero, List.set_cons_succ]
            go_big_quiet_on
            go_big_quiet_want
            apply Exists.intro
            refine ⟨fun u hu => ?_, ?_⟩
            · obtain ⟨hu0, hu1, hu2, hu3⟩ := hu
              unfold Oper.quietAt
              go_simp
              try rfl
            simp only [Act.put, List.setIfInBounds_toArray, List.set_cons_zero, List.set_cons_succ]
            go_big_quiet_on
            go_big_quiet_want
            apply Exists.intro
            refine ⟨fun u hu => ?_, ?_⟩
            · obtain ⟨hu0, hu1, hu2, hu3⟩ := hu
              unfold Oper.quietAt
              go_simp
              try rfl
            simp only [Act.put, List.setIfInBounds_toArray, List.set_cons_zero, List.set_cons_succ]
            go_big_quiet_on
            go_big_quiet_want
            apply Exists.intro
            refine ⟨fun u hu => ?_, ?_⟩
            · obtain ⟨hu0, hu1, hu2, hu3⟩ := hu
              unfold Oper.quietAt
              go_simp
              try rfl
            simp only [Act.put, List.setIfInBounds_toArray, List.set_cons_zero, List.set_cons_succ]
            go_big_quiet_on
            go_big_quiet_want
            apply Exists.intro
            refine ⟨fun u hu => ?_, ?_⟩
            · obtain ⟨hu0, hu1, hu2, hu3⟩ := hu
              unfold Oper.quietAt
              go_simp
              try rfl
            simp only [Act.put, List.setIfInBounds_toArray, List.set_cons_zero, List.set_cons_succ]
            go_big_quiet_on
            go_big_quiet_want
            refine ⟨.bool true, fun u hu => ?_, ?_⟩
            · obtain ⟨hu0, hu1, hu2, hu3⟩ := hu
              unfold Oper.quietAt
              go_simp
              refine (l1In_any _ _ _ _).mono ?_
              rintro e u9 ⟨he, rfl⟩
              rw [HI.out] at he
              exact ⟨he, KE _ hu0⟩
            simp only [Act.put, List.setIfInBounds_toArray, List.set_cons_zero, List.set_cons_succ]
            go_big_quiet_on
            go_big_quiet_want
            apply Exists.intro
            refine ⟨fun u hu => ?_, ?_⟩
            · obtain ⟨hu0, hu1, hu2, hu3⟩ := hu
              unfold Oper.quietAt
              go_simp
              try rfl
            simp only [Act.put, List.setIfInBounds_toArray, List.set_cons_zero, List.set_cons_succ]
            go_big_quiet_on
            go_big_quiet_want
            go_big_quiet_op
            go_big_quiet_on
            go_big_quiet_want
            go_big_quiet_op
            go_big_quiet_on
            go_big_quiet_want
            go_big_quiet_op
            go_big_quiet_on
            go_big_quiet_want
            apply Exists.intro
            refine ⟨fun u hu => ?_, ?_⟩
            · obtain ⟨hu0, hu1, hu2, hu3⟩ := hu
              unfold Oper.quietAt
              go_simp
              try rfl
            simp only [Act.put, List.setIfInBounds_toArray, List.set_cons_zero, List.set_cons_succ]
            go_big_quiet_on
            go_big_quiet_want
            go_big_quiet_op
            go_big_quiet_on
            go_big_quiet_want
            go_big_quiet_op
            go_big_quiet_on
            go_big_quiet_want
            apply Exists.intro
            refine ⟨fun u hu => ?_, ?_⟩
            · obtain ⟨hu0, hu1, hu2, hu3⟩ := hu
              unfold Oper.quietAt
              go_simp
              try rfl
            simp only [Act.put, List.setIfInBounds_toArray, List.set_cons_zero, List.set_cons_succ]
            go_big_quiet_on
            go_big_quiet_want
            apply Exists.intro
            refine ⟨fun u hu => ?_, ?_⟩
            · obtain ⟨hu0, hu1, hu2, hu3⟩ := hu
              unfold Oper.quietAt
              go_simp
              try rfl
            simp only [Act.put, List.setIfInBounds_toArray, List.set_cons_zero, List.set_cons_succ]
            go_big_quiet_on
            go_big_quiet_want
            refine ⟨.bool true, fun u hu => ?_, ?_⟩
            · obtain ⟨hu0, hu1, hu2, hu3⟩ := hu
              unfold Oper.quietAt
              go_simp
              refine (l4Has_any (S := T.take k) HTL (by omega) ((HTK.out.below (hu0.mono (by have := hbz.size; omega))).more (by have := hbz.size; have := hu0.size; omega))).mono ?_
              rintro e u9 ⟨he, rfl⟩
              rw [HD.out] at he
              exact ⟨he, KE _ hu0⟩
            simp only [Act.put, List.setIfInBounds_toArray, List.set_cons_zero, List.set_cons_succ]
            go_big_quiet_on
            go_big_quiet_want
            apply Exists.intro
            refine ⟨fun u hu => ?_, ?_⟩
            · obtain ⟨hu0, hu1, hu2, hu3⟩ := hu
              unfold Oper.quietAt
              go_simp
              try rfl
            simp only [Act.put, List.setIfInBounds_toArray, List.set_cons_zero, List.set_cons_succ]
            go_big_quiet_on
            refine wpQuiet_nil ?_
            rintro u ⟨k9, D0, D1, _⟩
            have HCf := Lib.hid (show renB n' X T = false by unfold renB; rw [HPB.out]; simp)
            have HLx := Lib.hid (show reY n' X T = X by unfold reY; rw [HCf.out]; rfl)
            have hby := hbz.trans (k9.mono hbz.size)
            go_wp2_with fail
            refine (specL4Copy_any hl (by omega) hs ((hra.below (k9.mono hbz.size)).more hby.size)).mono ?_
            rintro e w6 ⟨v, rfl, hown, hb7⟩
            have bx26 := bxb.new (trans_new k9 hb7)
            have hv1 := hown.one
            have hk := keep_result #[.int .i64 n', v] hown (hby.trans (hb7.mono hby.size)) (by have := HM3.out; have := k9.size; omega) (by have := HM3.out; have := k9.size; have := hb7.size; omega)
            go_wp2_with (first | (refine stGR rfl (.tmp 4) (.tmp 47) rfl bx26 rfl hv1 rfl rfl ?_))
            refine bodyPost_ret (resGB rfl (bx26.setRow _) rfl rfl rfl) rfl ⟨v, by rw [HCf.out]; rfl, by rw [HLx.out]; exact hk.1, hk.2⟩
          · have HD : Hid ((T.take k).contains x = false) := Lib.hid (by simpa using h2)
            clear h1 h2
            go_wp2_with fail
            refine wp_region_quiet (C := fun u => Below wr.heap.size wr u ∧ u.cell? ⟨w.heap.size, 0, none⟩ = some (.int .i64 n') ∧ u.cell? ⟨w.heap.size, 1, none⟩ = some (.slice A n c) ∧ u.cell? (ad.add k) = some (.int .i64 x)) (by kernel_rfl) (by kernel_rfl) (KE _ (Below.refl _ _).drew) ?_
            rw [List.toList_toArray]
            go_big_quiet_want
            go_big_quiet_op
            go_big_quiet_on
            go_big_quiet_want
            go_big_quiet_op
            go_big_quiet_on
            go_big_quiet_want
            apply Exists.intro
            refine ⟨fun u hu => ?_, ?_⟩
            · obtain ⟨hu0, hu1, hu2, hu3⟩ := hu
              unfold Oper.quietAt
              go_simp
              try rfl
            simp only [Act.put, List.setIfInBounds_toArray, List.set_cons_zero, List.set_cons_succ]
            go_big_quiet_on
            go_big_quiet_want
            apply Exists.intro
            refine ⟨fun u hu => ?_, ?_⟩
            · obtain ⟨hu0, hu1, hu2, hu3⟩ := hu
              unfold Oper.quietAt
              go_simp
              try rfl
            simp only [Act.put, List.setIfInBounds_toArray, List.set_cons_zero, List.set_cons_succ]
            go_big_quiet_on
            go_big_quiet_want
            apply Exists.intro
            refine ⟨fun u hu => ?_, ?_⟩
            · obtain ⟨hu0, hu1, hu2, hu3⟩ := hu
              unfold Oper.quietAt
              go_simp
              try rfl
            simp only [Act.put, List.setIfInBounds_toArray, List.set_cons_zero, List.set_cons_succ]
            go_big_quiet_on
            go_big_quiet_want
            apply Exists.intro
            refine ⟨fun u hu => ?_, ?_⟩
            · obtain ⟨hu0, hu1, hu2, hu3⟩ := hu
              unfold Oper.quietAt
              go_simp
              try rfl
            simp only [Act.put, List.setIfInBounds_toArray, List.set_cons_zero, List.set_cons_succ]
            go_big_quiet_on
            go_big_quiet_want
            apply Exists.intro
            refine ⟨fun u hu => ?_, ?_⟩
            · obtain ⟨hu0, hu1, hu2, hu3⟩ := hu
              unfold Oper.quietAt
              go_simp
              try rfl
            simp only [Act.put, List.setIfInBounds_toArray, List.set_cons_zero, List.set_cons_succ]
            go_big_quiet_on
            go_big_quiet_want
            refine ⟨.bool true, fun u hu => ?_, ?_⟩
            · obtain ⟨hu0, hu1, hu2, hu3⟩ := hu
              unfold Oper.quietAt
              go_simp
              refine (l1In_any _ _ _ _).mono ?_
              rintro e u9 ⟨he, rfl⟩
              rw [HI.out] at he
              exact ⟨he, KE _ hu0⟩
            simp only [Act.put, List.setIfInBounds_toArray, List.set_cons_zero, List.set_cons_succ]
            go_big_quiet_on
            go_big_quiet_want
            apply Exists.intro
            refine ⟨fun u hu => ?_, ?_⟩
            · obtain ⟨hu0, hu1, hu2, hu3⟩ := hu
              unfold Oper.quietAt
              go_simp
              try rfl
            simp only [Act.put, List.setIfInBounds_toArray, List.set_cons_zero, List.set_cons_succ]
            go_big_quiet_on
            go_big_quiet_want
            go_big_quiet_op
            go_big_quiet_on
            go_big_quiet_want
            go_big_quiet_op
            go_big_quiet_on
            go_big_quiet_want
            go_big_quiet_op
            go_big_quiet_on
            go_big_quiet_want
            apply Exists.intro
            refine ⟨fun u hu => ?_, ?_⟩
            · obtain ⟨hu0, hu1, hu2, hu3⟩ := hu
              unfold Oper.quietAt
              go_simp
              try rfl
            simp only [Act.put, List.setIfInBounds_toArray, List.set_cons_zero, List.set_cons_succ]
            go_big_quiet_on
            go_big_quiet_want
            go_big_quiet_op
            go_big_quiet_on
            go_big_quiet_want
            go_big_quiet_op
            go_big_quiet_on
            go_big_quiet_want
            apply Exists.intro
            refine ⟨fun u hu => ?_, ?_⟩
            · obtain ⟨hu0, hu1, hu2, hu3⟩ := hu
              unfold Oper.quietAt
              go_simp
              try rfl
            simp only [Act.put, List.setIfInBounds_toArray, List.set_cons_zero, List.set_cons_succ]
            go_big_quiet_on
            go_big_quiet_want
            apply Exists.intro
            refine ⟨fun u hu => ?_, ?_⟩
            · obtain ⟨hu0, hu1, hu2, hu3⟩ := hu
              unfold Oper.quietAt
              go_simp
              try rfl
            simp only [Act.put, List.setIfInBounds_toArray, List.set_cons_zero, List.set_cons_succ]
            go_big_quiet_on
            go_big_quiet_want
            refine ⟨.bool false, fun u hu => ?_, ?_⟩
            · obtain ⟨hu0, hu1, hu2, hu3⟩ := hu
              unfold Oper.quietAt
              go_simp
              refine (l4Has_any (S := T.take k) HTL (by omega) ((HTK.out.below (hu0.mono (by have := hbz.size; omega))).more (by have := hbz.size; have := hu0.size; omega))).mono ?_
              rintro e u9 ⟨he, rfl⟩
              rw [HD.out] at he
              exact ⟨he, KE _ hu0⟩
            simp only [Act.put, List.setIfInBounds_toArray, List.set_cons_zero, List.set_cons_succ]
            go_big_quiet_on
            go_big_quiet_want
            apply Exists.intro
            refine ⟨fun u hu => ?_, ?_⟩
            · obtain ⟨hu0, hu1, hu2, hu3⟩ := hu
              unfold Oper.quietAt
              go_simp
              try rfl
            simp only [Act.put, List.setIfInBounds_toArray, List.set_cons_zero, List.set_cons_succ]
            go_big_quiet_on
            refine wpQuiet_nil ?_
            rintro u ⟨k9, D0, D1, _⟩
            have HOK := Lib.hid (show ∀ j, j < k + 1 → okT n' T j = true from fun j hj => by
              rcases Nat.lt_or_ge j k with h | h
              · exact hok.out j h
              · obtain rfl : j = k := by omega
                unfold okT dupB
                rw [HX0.out, HI.out, HD.out]
                rfl)
            have hbv := trans_new hbw k9
            go_wp2_with fail
            go_roundw
            case rel => exact ⟨k + 1, by omega, by go_num, hbv, HOK⟩
            case measure => simp [intOf]; omega
        · have HI : Hid (inr x 0 ((n' : Int) - 1) = false) := Lib.hid (by simpa using h1)
          have HPB := Lib.hid (perB_bad (N := n') hkz (by unfold okT; rw [HX0.out, HI.out]; rfl))
          clear h1
          go_wp2_with fail
          refine wp_region_quiet (C := fun u => Below wr.heap.size wr u ∧ u.cell? ⟨w.heap.size, 0, none⟩ = some (.int .i64 n') ∧ u.cell? ⟨w.heap.size, 1, none⟩ = some (.slice A n c) ∧ u.cell? (ad.add k) = some (.int .i64 x)) (by kernel_rfl) (by kernel_rfl) (KE _ (Below.refl _ _).drew) ?_
          rw [List.toList_toArray]
          go_big_quiet_want
          go_big_quiet_op
          go_big_quiet_on
          go_big_quiet_want
          go_big_quiet_op
          go_big_quiet_on
          go_big_quiet_want
          apply Exists.intro
          refine ⟨fun u hu => ?_, ?_⟩
          · obtain ⟨hu0, hu1, hu2, hu3⟩ := hu
            unfold Oper.quietAt
            go_simp
            try rfl
          simp only [Act.put, List.setIfInBounds_toArray, List.set_cons_zero, List.set_cons_succ]
          go_big_quiet_on
          go_big_quiet_want
          apply Exists.intro
          refine ⟨fun u hu => ?_, ?_⟩
          · obtain ⟨hu0, hu1, hu2, hu3⟩ := hu
            unfold Oper.quietAt
            go_simp
            try rfl
          simp only [Act.put, List.setIfInBounds_toArray, List.set_cons_zero, List.set_cons_succ]
          go_big_quiet_on
          go_big_quiet_want
          apply Exists.intro
          refine ⟨fun u hu => ?_, ?_⟩
          · obtain ⟨hu0, hu1, hu2, hu3⟩ := hu
            unfold Oper.quietAt
            go_simp
            try rfl
          simp only [Act.put, List.setIfInBounds_toArray, List.set_cons_zero, List.set_cons_succ]
          go_big_quiet_on
          go_big_quiet_want
          apply Exists.intro
          refine ⟨fun u hu => ?_, ?_⟩
          · obtain ⟨hu0, hu1, hu2, hu3⟩ := hu
            unfold Oper.quietAt
            go_simp
            try rfl
          simp only [Act.put, List.setIfInBounds_toArray, List.set_cons_zero, List.set_cons_succ]
          go_big_quiet_on
          go_big_quiet_want
          apply Exists.intro
          refine ⟨fun u hu => ?_, ?_⟩
          · obtain ⟨hu0, hu1, hu2, hu3⟩ := hu
            unfold Oper.quietAt
            go_simp
            try rfl
          simp only [Act.put, List.setIfInBounds_toArray, List.set_cons_zero, List.set_cons_succ]
          go_big_quiet_on
          go_big_quiet_want
          refine ⟨.bool false, fun u hu => ?_, ?_⟩
          · obtain ⟨hu0, hu1, hu2, hu3⟩ := hu
            unfold Oper.quietAt
            go_simp
            refine (l1In_any _ _ _ _).mono ?_
            rintro e u9 ⟨he, rfl⟩
            rw [HI.out] at he
            exact ⟨he, KE _ hu0⟩
          simp only [Act.put, List.setIfInBounds_toArray, List.set_cons_zero, List.set_cons_succ]
          go_big_quiet_on
          go_big_quiet_want
          apply Exists.intro
          refine ⟨fun u hu => ?_, ?_⟩
          · obtain ⟨hu0, hu1, hu2, hu3⟩ := hu
            unfold Oper.quietAt
            go_simp
            try rfl
          simp only [Act.put, List.setIfInBounds_toArray, List.set_cons_zero, List.set_cons_succ]
          go_big_quiet_on
          go_big_quiet_want
          go_big_quiet_op
          go_big_quiet_on
          repeat go_big_quiet_skip
          go_big_quiet_want
          apply Exists.intro
          refine ⟨fun u hu => ?_, ?_⟩
          · obtain ⟨hu0, hu1, hu2, hu3⟩ := hu
            unfold Oper.quietAt
            go_simp
            try rfl
          simp only [Act.put, List.setIfInBounds_toArray, List.set_cons_zero, List.set_cons_succ]
          go_big_quiet_on
          refine wpQuiet_nil ?_
          rintro u ⟨k9, D0, D1, _⟩
          have HCf := Lib.hid (show renB n' X T = false by unfold renB; rw [HPB.out]; simp)
          have HLx := Lib.hid (show reY n' X T = X by unfold reY; rw [HCf.out]; rfl)
          have hby := hbz.trans (k9.mono hbz.size)
          go_wp2_with fail
          refine (specL4Copy_any hl (by omega) hs ((hra.below (k9.mono hbz.size)).more hby.size)).mono ?_
          rintro e w6 ⟨v, rfl, hown, hb7⟩
          have bx26 := bxb.new (trans_new k9 hb7)
          have hv1 := hown.one
          have hk := keep_result #[.int .i64 n', v] hown (hby.trans (hb7.mono hby.size)) (by have := HM3.out; have := k9.size; omega) (by have := HM3.out; have := k9.size; have := hb7.size; omega)
          go_wp2_with (first | (refine stGR rfl (.tmp 4) (.tmp 47) rfl bx26 rfl hv1 rfl rfl ?_))
          refine bodyPost_ret (resGB rfl (bx26.setRow _) rfl rfl rfl) rfl ⟨v, by rw [HCf.out]; rfl, by rw [HLx.out]; exact hk.1, hk.2⟩
      · have e : k = n' := by omega
        subst e
        have HPB := Lib.hid (perB_all (N := k) (T := T) (fun i hi => hok.out i (by rw [hl'.out] at hi; exact hi)))
        have HCf := Lib.hid (show renB k X T = true by unfold renB; rw [HG.out, hl'.out, HPB.out]; simp)
        have HLx := Lib.hid (show reY k X T = renT k X T n by unfold reY renT; rw [HCf.out, List.take_of_length_le (by rw [hl.out]; exact Nat.le_refl _)]; rfl)
        have k5 := alloc_new wr (Obj.cells #[Value.int .i64 k, .slice none 0 0] 26)
        have b1 := bxa.new k5
        have b2 := bxb.new k5
        have b3 := Bx.made wr 26 #[Value.int .i64 k, .slice none 0 0]
        have hb5 := hbz.trans (k5.mono hbz.size)
        have hr5 := hra.below (k5.mono hbz.size)
        have hr5' := hra'.below (k5.mono hbz.size)
        obtain ⟨W5, hW5⟩ : ∃ u : World, u = wr.alloc (Obj.cells #[Value.int .i64 k, .slice none 0 0] 26) := ⟨_, rfl⟩
        have hs5 : W5.heap.size = wr.heap.size + 1 := by rw [hW5]; simp
        have hM3 := Lib.hid (show w.heap.size + 2 ≤ wr.heap.size by have := HM3.out; omega)
        rw [← hW5] at b1 b2 b3 hb5 hr5 hr5'
        have HW5 := Lib.hid hW5.symm
        clear hW5 k5 bx13 bx23 bx1 bx2 HR HR' hok hbw hra hra' hr3 hr3' hsw
        go_wp2_with fail
        rw [HW5.out]
        clear HW5 D0 D1 bxa bxb
        have hM := hM3.out
        generalize hG : wr.heap.size = G at *
        go_loopw [8] (fun i wr => ∃ (j : Nat) (v : Value), j ≤ n ∧ i = .int .i64 j ∧ Bx wr G 26 #[Value.int IntKind.i64 k, v] ∧ OwnSS wr (G + 1) wr.heap.size v (renT k X T j) ∧ Below G W5 wr ∧ G + 1 ≤ wr.heap.size) (fun i _ => n - (intOf i).toNat)
        case atStart => exact ⟨0, _, Nat.zero_le _, rfl, b3, OwnSS.nil, Below.refl _ _, by omega⟩
        case round =>
          obtain ⟨j, v, hj, rfl, bxv, hov, hbw, hGs⟩ := hrel
          have bxa : Bx wr w.heap.size 26 #[Value.int IntKind.i64 k, Value.slice A n c] := (hbw.block _ (by omega)).trans b1
          have bxb : Bx wr (w.heap.size + 1) 26 #[Value.int IntKind.i64 0, Value.slice none 0 0] := (hbw.block _ (by omega)).trans b2
          obtain ⟨C0, C1⟩ := bxa.two
          have hrk := hr5.below (hbw.mono (by omega))
          have hrk' := hr5'.below (hbw.mono (by omega))
          by_cases hlt : j < n
          · have hkz : j < X.length := by rw [hl.out]; exact hlt
            obtain ⟨ad, ag, ao, cj, p, q, rfl, hab, hc, hag, e0, e1, hx, hp, hq⟩ := pair_at hrk HP.out hkz
            obtain ⟨ad', rfl, hab', hcp⟩ := ivs_at hrk' (k := p) (by rw [hl'.out]; exact hp)
            obtain ⟨ad'', e'', hab'', hcq⟩ := ivs_at hrk' (k := q) (by rw [hl'.out]; exact hq)
            injection e'' with e''
            subst e''
            obtain ⟨x, hx1⟩ : ∃ x, x = T.getD p 0 := ⟨_, rfl⟩
            obtain ⟨y, hy1'⟩ : ∃ y, y = T.getD q 0 := ⟨_, rfl⟩
            have HS := Lib.hid (renT_succ (N := k) (T := T) hkz hx)
            rw [← hx1, ← hy1'] at HS
            rw [show T[p]'(by rw [hl'.out]; exact hp) = x by rw [hx1]; simp [List.getD, show p < T.length by rw [hl'.out]; exact hp]] at hcp
            rw [show T[q]'(by rw [hl'.out]; exact hq) = y by rw [hy1']; simp [List.getD, show q < T.length by rw [hl'.out]; exact hq]] at hcq
            have h2 := renT_two k X T j
            have HY2 := Lib.hid (show ∀ z ∈ renT k X T j, z.length ≤ 1099511627776 from fun z hz => by rw [h2.1 z hz]; decide)
            have HYl := h2.2
            obtain ⟨Y, hY⟩ : ∃ Y, Y = renT k X T j := ⟨_, rfl⟩
            rw [← hY] at hov HY2 HYl HS
            obtain ⟨Av, cv, rfl, hrv, _, _⟩ := hov.rd (n := Y.length) rfl
            obtain ⟨D0, D1⟩ := bxv.two
            have i0 : (0 : Int) ≤ (j : Int) := by omega
            have i1 : (j : Int) < (n : Int) := by omega
            have p0 : (0 : Int) ≤ (p : Int) := by omega
            have p1 : (p : Int) < (k : Int) := by omega
            have q0 : (0 : Int) ≤ (q : Int) := by omega
            have q1 : (q : Int) < (k : Int) := by omega
            have HBV := Lib.hid bxv
            have HRVd := Lib.hid (show RdSS wr.drew wr.drew.heap.size Av Y from hrv)
            have HBVd := Lib.hid (show Bx wr.drew G 26 #[Value.int IntKind.i64 k, Value.slice Av Y.length cv] from bxv)
            have HYN := Lib.hid (show Y.length ≤ 1099511627775 by omega)
            clear hx hx1 hy1' hY hov bxv hrk hrk' h2 hrv
            go_wp2_with fail
            have KE := fun (u : World) (r : Below G wr u) => show (fun u => Below G wr u ∧ u.cell? ⟨w.heap.size, 0, none⟩ = some (.int .i64 k) ∧ u.cell? ⟨w.heap.size, 1, none⟩ = some (.slice (some ad) n c) ∧ u.cell? (ad.add j) = some (.slice (some ⟨ag, ao, none⟩) 2 cj) ∧ u.cell? ⟨ag, ao, none⟩ = some (.int .i64 p) ∧ u.cell? ⟨ag, ao + 1, none⟩ = some (.int .i64 q) ∧ u.cell? (ad'.add p) = some (.int .i64 x) ∧ u.cell? (ad'.add q) = some (.int .i64 y)) u from ⟨r, (r.cell (p := ⟨w.heap.size, 0, none⟩) (by show w.heap.size < G; omega)).trans C0, (r.cell (p := ⟨w.heap.size, 1, none⟩) (by show w.heap.size < G; omega)).trans C1, (r.cell (p := ad.add j) (by rw [add_blk]; omega)).trans hc, (r.cell (p := ⟨ag, ao, none⟩) (by show ag < G; omega)).trans e0, (r.cell (p := ⟨ag, ao + 1, none⟩) (by show ag < G; omega)).trans e1, (r.cell (p := ad'.add p) (by rw [add_blk]; omega)).trans hcp, (r.cell (p := ad'.add q) (by rw [add_blk]; omega)).trans hcq⟩
            have bw0 : Below G wr wr.drew := (Below.refl G wr).drew
            refine wp_region_held_drew (S := fun u => Below G wr u ∧ u.cell? ⟨w.heap.size, 0, none⟩ = some (.int .i64 k) ∧ u.cell? ⟨w.heap.size, 1, none⟩ = some (.slice (some ad) n c) ∧ u.cell? (ad.add j) = some (.slice (some ⟨ag, ao, none⟩) 2 cj) ∧ u.cell? ⟨ag, ao, none⟩ = some (.int .i64 p) ∧ u.cell? ⟨ag, ao + 1, none⟩ = some (.int .i64 q) ∧ u.cell? (ad'.add p) = some (.int .i64 x) ∧ u.cell? (ad'.add q) = some (.int .i64 y)) (by kernel_rfl) ?_ (fun hHeld => ?_)
            · first | with_reducible exact KE _ bw0 | with_reducible exact KE _ bw7 | exact KE _ ((bw7.setCell (Nat.le_refl _) _).setCell (Nat.le_refl _) _)
            refine wpAnyH_take (i := 1) (v := ?_) rfl (by kernel_rfl) (by kernel_rfl) (by kernel_rfl) (fun _ _ _ h => h) (Or.inl ⟨by rfl, ?_⟩) (by assumption) ?_
            rotate_left
            · intro w hSw
              try dsimp only at hSw
              go_simp
              try with_reducible rfl
            try simp only [Act.put, List.getElem_toArray, List.getElem_cons_succ, List.getElem_cons_zero, List.setIfInBounds_toArray, List.set_cons_zero, List.set_cons_succ]
            refine wpAnyH_take (i := 2) (v := ?_) rfl (by kernel_rfl) (by kernel_rfl) (by kernel_rfl) (fun _ _ _ h => h) (Or.inl ⟨by rfl, ?_⟩) (by assumption) ?_
            rotate_left
            · intro w hSw
              try dsimp only at hSw
              go_simp
              try with_reducible rfl
            try simp only [Act.put, List.getElem_toArray, List.getElem_cons_succ, List.getElem_cons_zero, List.setIfInBounds_toArray, List.set_cons_zero, List.set_cons_succ]
            refine wpAnyH_take (i := 3) (v := ?_) rfl (by kernel_rfl) (by kernel_rfl) (by kernel_rfl) (fun _ _ _ h => h) (Or.inl ⟨by rfl, ?_⟩) (by assumption) ?_
            rotate_left
            · intro w hSw
              try dsimp only at hSw
              go_simp
              try with_reducible rfl
            try simp only [Act.put, List.getElem_toArray, List.getElem_cons_succ, List.getElem_cons_zero, List.setIfInBounds_toArray, List.set_cons_zero, List.set_cons_succ]
            refine wpAnyH_take (i := 4) (v := ?_) rfl (by kernel_rfl) (by kernel_rfl) (by kernel_rfl) (fun _ _ _ h => h) (Or.inl ⟨by rfl, ?_⟩) (by assumption) ?_
            rotate_left
            · intro w hSw
              try dsimp only at hSw
              go_simp
              try with_reducible rfl
            try simp only [Act.put, List.getElem_toArray, List.getElem_cons_succ, List.getElem_cons_zero, List.setIfInBounds_toArray, List.set_cons_zero, List.set_cons_succ]
            refine wpAnyH_take (i := 5) (v := ?_) rfl (by kernel_rfl) (by kernel_rfl) (by kernel_rfl) (fun _ _ _ h => h) (Or.inl ⟨by rfl, ?_⟩) (by assumption) ?_
            rotate_left
            · intro w hSw
              try dsimp only at hSw
              go_simp
              try with_reducible rfl
            try simp only [Act.put, List.getElem_toArray, List.getElem_cons_succ, List.getElem_cons_zero, List.setIfInBounds_toArray, List.set_cons_zero, List.set_cons_succ]
            refine wpAnyH_take (i := 6) (v := ?_) rfl (by kernel_rfl) (by kernel_rfl) (by kernel_rfl) (fun _ _ _ h => h) (Or.inl ⟨by rfl, ?_⟩) (by assumption) ?_
            rotate_left
            · intro w hSw
              try dsimp only at hSw
              go_simp
              try with_reducible rfl
            try simp only [Act.put, List.getElem_toArray, List.getElem_cons_succ, List.getElem_cons_zero, List.setIfInBounds_toArray, List.set_cons_zero, List.set_cons_succ]
            refine wpAnyH_take (i := 7) (v := ?_) rfl (by kernel_rfl) (by kernel_rfl) (by kernel_rfl) (fun _ _ _ h => h) (Or.inl ⟨by rfl, ?_⟩) (by assumption) ?_
            rotate_left
            · intro w hSw
              try dsimp only at hSw
              go_simp
              try with_reducible rfl
            try simp only [Act.put, List.getElem_toArray, List.getElem_cons_succ, List.getElem_cons_zero, List.setIfInBounds_toArray, List.set_cons_zero, List.set_cons_succ]
            refine wpAnyH_take (i := 8) (v := ?_) rfl (by kernel_rfl) (by kernel_rfl) (by kernel_rfl) (fun _ _ _ h => h) (Or.inl ⟨by rfl, ?_⟩) (by assumption) ?_
            rotate_left
            · intro w hSw
              try dsimp only at hSw
              go_simp
              try with_reducible rfl
            try simp only [Act.put, List.getElem_toArray, List.getElem_cons_succ, List.getElem_cons_zero, List.setIfInBounds_toArray, List.set_cons_zero, List.set_cons_succ]
            refine wpAnyH_take (i := 9) (v := ?_) rfl (by kernel_rfl) (by kernel_rfl) (by kernel_rfl) (fun _ _ _ h => h) (Or.inl ⟨by rfl, ?_⟩) (by assumption) ?_
            rotate_left
            · intro w hSw
              try dsimp only at hSw
              go_simp
              try with_reducible rfl
            try simp only [Act.put, List.getElem_toArray, List.getElem_cons_succ, List.getElem_cons_zero, List.setIfInBounds_toArray, List.set_cons_zero, List.set_cons_succ]
            refine wpAnyH_take (i := 10) (v := ?_) rfl (by kernel_rfl) (by kernel_rfl) (by kernel_rfl) (fun _ _ _ h => h) (Or.inl ⟨by rfl, ?_⟩) (by assumption) ?_
            rotate_left
            · intro w hSw
              try dsimp only at hSw
              go_simp
              try with_reducible rfl
            try simp only [Act.put, List.getElem_toArray, List.getElem_cons_succ, List.getElem_cons_zero, List.setIfInBounds_toArray, List.set_cons_zero, List.set_cons_succ]
            refine wpAnyH_take (i := 11) (v := ?_) rfl (by kernel_rfl) (by kernel_rfl) (by kernel_rfl) (fun _ _ _ h => h) (Or.inl ⟨by rfl, ?_⟩) (by assumption) ?_
            rotate_left
            · intro w hSw
              try dsimp only at hSw
              go_simp
              try with_reducible rfl
            try simp only [Act.put, List.getElem_toArray, List.getElem_cons_succ, List.getElem_cons_zero, List.setIfInBounds_toArray, List.set_cons_zero, List.set_cons_succ]
            refine wpAnyH_take (i := 12) (v := ?_) rfl (by kernel_rfl) (by kernel_rfl) (by kernel_rfl) (fun _ _ _ h => h) (Or.inl ⟨by rfl, ?_⟩) (by assumption) ?_
            rotate_left
            · intro w hSw
              try dsimp only at hSw
              go_simp
              try with_reducible rfl
            try simp only [Act.put, List.getElem_toArray, List.getElem_cons_succ, List.getElem_cons_zero, List.setIfInBounds_toArray, List.set_cons_zero, List.set_cons_succ]
            refine wpAnyH_take (i := 13) (v := ?_) rfl (by kernel_rfl) (by kernel_rfl) (by kernel_rfl) (fun _ _ _ h => h) (Or.inl ⟨by rfl, ?_⟩) (by assumption) ?_
            rotate_left
            · intro w hSw
              try dsimp only at hSw
              go_simp
              try with_reducible rfl
            try simp only [Act.put, List.getElem_toArray, List.getElem_cons_succ, List.getElem_cons_zero, List.setIfInBounds_toArray, List.set_cons_zero, List.set_cons_succ]
            refine wpAnyH_take (i := 14) (v := ?_) rfl (by kernel_rfl) (by kernel_rfl) (by kernel_rfl) (fun _ _ _ h => h) (Or.inl ⟨by rfl, ?_⟩) (by assumption) ?_
            rotate_left
            · intro w hSw
              try dsimp only at hSw
              go_simp
              try with_reducible rfl
            try simp only [Act.put, List.getElem_toArray, List.getElem_cons_succ, List.getElem_cons_zero, List.setIfInBounds_toArray, List.set_cons_zero, List.set_cons_succ]
            refine wpAnyH_take (i := 15) (v := ?_) rfl (by kernel_rfl) (by kernel_rfl) (by kernel_rfl) (fun _ _ _ h => h) (Or.inl ⟨by rfl, ?_⟩) (by assumption) ?_
            rotate_left
            · intro w hSw
              try dsimp only at hSw
              go_simp
              try with_reducible rfl
            try simp only [Act.put, List.getElem_toArray, List.getElem_cons_succ, List.getElem_cons_zero, List.setIfInBounds_toArray, List.set_cons_zero, List.set_cons_succ]
            refine wpAnyH_take (i := 16) (v := ?_) rfl (by kernel_rfl) (by kernel_rfl) (by kernel_rfl) (fun _ _ _ h => h) (Or.inl ⟨by rfl, ?_⟩) (by assumption) ?_
            rotate_left
            · intro w hSw
              try dsimp only at hSw
              go_simp
              try with_reducible rfl
            try simp only [Act.put, List.getElem_toArray, List.getElem_cons_succ, List.getElem_cons_zero, List.setIfInBounds_toArray, List.set_cons_zero, List.set_cons_succ]
            refine wpAnyH_take (i := 17) (v := ?_) rfl (by kernel_rfl) (by kernel_rfl) (by kernel_rfl) (fun _ _ _ h => h) (Or.inl ⟨by rfl, ?_⟩) (by assumption) ?_
            rotate_left
            · intro w hSw
              try dsimp only at hSw
              go_simp
              try with_reducible rfl
            try simp only [Act.put, List.getElem_toArray, List.getElem_cons_succ, List.getElem_cons_zero, List.setIfInBounds_toArray, List.set_cons_zero, List.set_cons_succ]
            refine wpAnyH_take (i := 18) (v := ?_) rfl (by kernel_rfl) (by kernel_rfl) (by kernel_rfl) (fun _ _ _ h => h) (Or.inl ⟨by rfl, ?_⟩) (by assumption) ?_
            rotate_left
            · intro w hSw
              try dsimp only at hSw
              go_simp
              try with_reducible rfl
            try simp only [Act.put, List.getElem_toArray, List.getElem_cons_succ, List.getElem_cons_zero, List.setIfInBounds_toArray, List.set_cons_zero, List.set_cons_succ]
            refine wpAnyH_take (i := 19) (v := ?_) rfl (by kernel_rfl) (by kernel_rfl) (by kernel_rfl) (fun _ _ _ h => h) (Or.inl ⟨by rfl, ?_⟩) (by assumption) ?_
            rotate_left
            · intro w hSw
              try dsimp only at hSw
              go_simp
              try with_reducible rfl
            try simp only [Act.put, List.getElem_toArray, List.getElem_cons_succ, List.getElem_cons_zero, List.setIfInBounds_toArray, List.set_cons_zero, List.set_cons_succ]
            refine wpAnyH_take (i := 20) (v := ?_) rfl (by kernel_rfl) (by kernel_rfl) (by kernel_rfl) (fun _ _ _ h => h) (Or.inl ⟨by rfl, ?_⟩) (by assumption) ?_
            rotate_left
            · intro w hSw
              try dsimp only at hSw
              go_simp
              try with_reducible rfl
            try simp only [Act.put, List.getElem_toArray, List.getElem_cons_succ, List.getElem_cons_zero, List.setIfInBounds_toArray, List.set_cons_zero, List.set_cons_succ]
            refine wpAnyH_ready (rs := [0]) (by kernel_rfl) (by simp) ?_
            refine AllReadyH.cons rfl (fun K hK => ?_) AllReadyH.nil
            go_simp
            refine hK.out _ _ ?_ (fun hHeld => ?_)
            · first | with_reducible exact KE _ bw0 | with_reducible exact KE _ bw7 | exact KE _ ((bw7.setCell (Nat.le_refl _) _).setCell (Nat.le_refl _) _)
            clear hK K
            try simp only [Act.put, List.getElem_toArray, List.getElem_cons_succ, List.getElem_cons_zero, List.setIfInBounds_toArray, List.set_cons_zero, List.set_cons_succ]
            refine wpAnyH_ready (rs := [21]) (by kernel_rfl) (by simp) ?_
            refine AllReadyH.cons rfl (fun K hK => ?_) AllReadyH.nil
            rw [if_pos (by rfl)]
            go_simp
            go_at_call 8
            refine (specAddAttack_any (X := Y) (n := Y.length) (Lib.hid rfl) HYN.out HY2 HRVd.out).mono ?_
            rintro e w7 ⟨v7, rfl, hown7, hb7⟩
            obtain ⟨A7, c7, rfl, _, _, _⟩ := hown7.rd (n := (addL k Y x y).length) rfl
            have bg7 := HBVd.out.new hb7
            obtain ⟨G0, G1⟩ := bg7.two
            have f70 := bg7.free 0
            have f71 := bg7.free 1
            have bw7 : Below G wr w7 := bw0.trans (hb7.mono (Nat.le_of_succ_le hGs))
            refine hK.out _ _ ?_ (fun hHeld => ?_)
            · first | with_reducible exact KE _ bw0 | with_reducible exact KE _ bw7 | exact KE _ ((bw7.setCell (Nat.le_refl _) _).setCell (Nat.le_refl _) _)
            clear hK K
            try simp only [Act.put, List.getElem_toArray, List.getElem_cons_succ, List.getElem_cons_zero, List.setIfInBounds_toArray, List.set_cons_zero, List.set_cons_succ]
            refine wpAnyH_take (i := 22) (v := ?_) rfl (by kernel_rfl) (by kernel_rfl) (by kernel_rfl) (fun _ _ _ h => h) (Or.inl ⟨by rfl, ?_⟩) (by assumption) ?_
            rotate_left
            · intro w hSw
              try dsimp only at hSw
              go_simp
              try with_reducible rfl
            try simp only [Act.put, List.getElem_toArray, List.getElem_cons_succ, List.getElem_cons_zero, List.setIfInBounds_toArray, List.set_cons_zero, List.set_cons_succ]
            refine wpAnyH_take (i := 23) (v := ?_) rfl (by kernel_rfl) (by kernel_rfl) (by kernel_rfl) (fun _ _ _ h => h) (Or.inl ⟨by rfl, ?_⟩) (by assumption) ?_
            rotate_left
            · intro w hSw
              try dsimp only at hSw
              go_simp
              try with_reducible rfl
            try simp only [Act.put, List.getElem_toArray, List.getElem_cons_succ, List.getElem_cons_zero, List.setIfInBounds_toArray, List.set_cons_zero, List.set_cons_succ]
            refine wpAnyH_take (i := 24) (v := ?_) rfl (by kernel_rfl) (by kernel_rfl) (by kernel_rfl) (fun _ _ _ h => h) (Or.inl ⟨by rfl, ?_⟩) (by assumption) ?_
            rotate_left
            · intro w hSw
              try dsimp only at hSw
              go_simp
              try with_reducible rfl
            try simp only [Act.put, List.getElem_toArray, List.getElem_cons_succ, List.getElem_cons_zero, List.setIfInBounds_toArray, List.set_cons_zero, List.set_cons_succ]
            refine wpAnyH_ready (rs := [25]) (by kernel_rfl) (by simp) ?_
            refine AllReadyH.cons rfl (fun K hK => ?_) AllReadyH.nil
            go_simp
            refine hK.out _ _ ?_ (fun hHeld => ?_)
            · first | with_reducible exact KE _ bw0 | with_reducible exact KE _ bw7 | exact KE _ ((bw7.setCell (Nat.le_refl _) _).setCell (Nat.le_refl _) _)
            clear hK K
            try simp only [Act.put, List.getElem_toArray, List.getElem_cons_succ, List.getElem_cons_zero, List.setIfInBounds_toArray, List.set_cons_zero, List.set_cons_succ]
            refine wpAnyH_done (by kernel_rfl) ?_ _
            have hz7 := hb7.size
            go_wp2_with fail
            go_roundw
            case rel => exact ⟨j + 1, .slice A7 (addL k Y x y).length c7, by omega, by go_num, (bg7.set 0 _).set 1 _, by rw [HS.out]; exact ((hown7.setFar (.inl (Nat.lt_of_lt_of_le (Nat.lt_succ_self G) hGs)) _).setFar (.inl (Nat.lt_of_lt_of_le (Nat.lt_succ_self G) hGs)) _).wide hGs (by simp), hbw.trans ((bw7.setCell (Nat.le_refl _) _).setCell (Nat.le_refl _) _), by simp; exact Nat.le_trans hGs hz7⟩
            case measure => simp [intOf]; omega
          · have e : j = n := by omega
            subst e
            have HO := Lib.hid hov
            have hv1 := hov.one
            clear hov
            go_wp2_with (first | (refine ldGR rfl (.tmp 7) rfl bxv rfl rfl ?_) | (refine stGR rfl (.tmp 4) (.tmp 83) rfl bxb rfl hv1 rfl rfl ?_))
            have hk := keep_result #[.int .i64 k, v] HO.out (hb5.trans (hbw.mono (by omega))) (by omega) (by omega)
            refine bodyPost_ret (resGB rfl (bxb.setRow _) rfl rfl rfl) rfl ⟨v, by rw [HCf.out]; rfl, by rw [HLx.out]; exact hk.1, hk.2⟩
theorem specRenamed_any (hl : Hid (X.length = n)) (hn : n ≤ 1099511627775) (hs : Hid (∀ x ∈ X, x.length ≤ 1099511627776)) (hr : RdSS w w.heap.size A X) (hl' : Hid (T.length = n')) (hn' : n' ≤ 1099511627776) (hr' : Rd w w.heap.size A' (ivs T)) (hnc : n' ≤ c') :
    Calls Try.prog 26 #[.agg #[.int .i64 N, .slice A n c], .slice A' n' c'] w (FreshGB N (reY N X T) (renB N X T) w) := by
  by_cases hg : gB N X = true
  · obtain ⟨m, rfl, _, _, _⟩ := gB_ok hg
    exact specRen_B hg hl hn hs hr hl' hn' hr' hnc
  · exact specRen_A (by simpa using hg) hl hn hs hr
theorem reY_sizes (h1 : X.length ≤ 1048576) (h2 : psum X X.length ≤ 1048576) : (reY N X T).length ≤ 140000000 ∧ (∀ x ∈ reY N X T, x.length ≤ 1099511627776) ∧ psum (reY N X T) (reY N X T).length ≤ 140000000 := by
  unfold reY
  split
  · have h3 := renT_two N X T X.length
    unfold renT at h3
    rw [List.take_length] at h3
    exact ⟨by omega, fun y hy => by rw [h3.1 y hy]; decide, by rw [psum_two h3.1]; omega⟩
  · exact ⟨by omega, fun x hx => Nat.le_trans (psum_mem X x hx) (by omega), by omega⟩
end
end Go.Proofs.Ytncndlojceiejaa
