/- Contract of the code's Renamed. Condition: the slices have at most 2^40 elements. -/
import Derived.Test.YtjhknafajfpldaaDoorMg28
import Derived.Test.YtjhknafajfpldaaDoorMg22
import Derived.Laws.CopyOwn
import Derived.BigQuiet
import Derived.Deep.Quiet
namespace Go.Proofs.YtjhknafajfpldaaDoor
open Go.ChangeShapes Go.WideShapes Go.ChangeAt Go.RowKit
set_option maxRecDepth 100000
/-- The graph with other names, or as it was. -/
def reY (N : Int) (X : List (List Int)) (T : List Int) : List (List Int) := if renB N X T then renX N X T else X
theorem bx_two_new' {W w' : World} {g : Nat} {t : TypeId} {a b : Value} (k : Bx W g t #[a, b]) (hb : Below W.heap.size W w') : Below W.heap.size W w' ∧ w'.cell? ⟨g, 0, none⟩ = some a ∧ w'.cell? ⟨g, 1, none⟩ = some b := ⟨hb, (k.new hb).two.1, (k.new hb).two.2⟩
theorem Rd.addr {w : World} {B : Nat} {A : Option Addr} {xs : List Value} (h : Rd w B A xs) (h0 : 0 < xs.length) : ∃ ad, A = some ad ∧ ad.block < B ∧ ∀ j v, xs[j]? = some v → w.cell? (ad.add j) = some v := by
  obtain ⟨ad, rfl, hb, _⟩ := h.at_ h0
  refine ⟨ad, rfl, hb, fun j v hv => ?_⟩
  obtain ⟨ad', e, _, hc⟩ := h j v hv
  injection e with e
  exact e ▸ hc
theorem nmC_map (t : Nat → Int) : (nmC t).toList = (List.range 10).map fun k => Value.int .i64 (t k) := rfl
theorem nm_splice {T : List Int} (h : T.length ≤ 10) : (splice (nmC fun _ => 0).toList 0 (ivs T)).toArray = nmC (tN T) := by
  have e : splice (nmC fun _ => 0).toList 0 (ivs T) = (nmC (tN T)).toList := by
    rw [nmC_map, nmC_map]
    unfold splice
    rw [List.take_zero, List.nil_append, Nat.zero_add, ivs_len]
    refine List.ext_getElem (by rw [List.length_append, ivs_len]; simp; omega) fun k h1 h2 => ?_
    have hk : k < 10 := by simpa using h2
    by_cases hl : k < T.length
    · rw [List.getElem_append_left (by rw [ivs_len]; exact hl)]
      simp [ivs, tN, List.getD, hl]
    · rw [List.getElem_append_right (by rw [ivs_len]; omega)]
      simp [tN, List.getD, hl]
  rw [e]
section
variable {w : World} {A A' : Option Addr} {n c n' c' : Nat} {N : Int} {X : List (List Int)} {T : List Int}
set_option maxHeartbeats 8000000 in
/-- No graph. -/
theorem impRen_A (hX : gB N X = false) (hl : Hid (X.length = n)) (hn : n ≤ 1099511627776) (hs : Hid (∀ x ∈ X, x.length ≤ 1099511627776)) (hr : RdSS w w.heap.size A X) :
    Calls Tryd.prog 16 #[.agg #[.int .i64 N, .slice A n c], .slice A' n' c'] w (FreshGB N (reY N X T) (renB N X T) w) := by
  obtain ⟨W2, hW2, bx1, bx2, hb2, hs2⟩ := two_graphs w #[Value.int IntKind.i64 N, Value.slice A n c] #[Value.int IntKind.i64 0, Value.slice none 0 0] 26
  have HR := Lib.hid (hr.below hb2)
  obtain ⟨C0, C1⟩ := bx1.two
  have hW2' := hW2.symm
  have HS2 := Lib.hid hs2
  have HCf := Lib.hid (show renB N X T = false by unfold renB; rw [hX]; rfl)
  have HX := Lib.hid hX
  have HLx := Lib.hid (show reY N X T = X by unfold reY; rw [HCf.out]; rfl)
  clear hW2 hr hs2 hX
  go_enter Tryd.func16, Tryd.ntmps16
  go_wp2_with fail
  refine (rowsOf_any hl hn (HR.out.more hb2.size)).mono ?_
  rintro e w3 ⟨rfl, hb3⟩
  have hb4 := hb2.trans (hb3.mono hb2.size)
  have bx13 := bx1.new hb3
  have bx23 := bx2.new hb3
  have hs3 := hb3.size
  generalize rn N X = rN
  generalize rf N X = f
  obtain ⟨W4, W5, hW4, hW5, bx4, bx5, hb5, hs5⟩ := new_rows w3 rN f
  rw [← arC_lit 0] at hW4
  have HXX := Lib.hid hW5
  have bx15 := bx13.new hb5
  have bx25 := bx23.new hb5
  have hb6 := hb4.trans (hb5.mono hb4.size)
  have hrd5 := (HR.out.below (hb3.mono hb2.size)).below (hb5.mono hb4.size)
  obtain ⟨D0, D1⟩ := bx15.two
  have HM := Lib.hid (show w.heap.size + 2 ≤ W5.heap.size by rw [hs5]; have := HS2.out; omega)
  have KE := fun (w' : World) (k : Below W5.heap.size W5 w') => bx_two_new' bx15 k
  clear hs5 hW5 hW2' C0 C1
  go_wp2_with (first | (refine stAR (n := rN) (f := f) rfl (.tmp 6) (.tmp 9) rfl bx4 rfl rfl rfl ?_; rw [HXX.out]))
  simp only [Act.put]
  refine wp_region_quiet (C := fun w' => Below W5.heap.size W5 w' ∧ w'.cell? ⟨w.heap.size, 0, none⟩ = some (.int .i64 N) ∧ w'.cell? ⟨w.heap.size, 1, none⟩ = some (.slice A n c)) (by kernel_rfl) (by kernel_rfl) (KE _ (Below.refl _ _).drew) ?_
  rw [List.toList_toArray]
  go_big_quiet_want
  apply Exists.intro
  refine ⟨fun u hu => ?_, ?_⟩
  · obtain ⟨hu0, hu1, hu2⟩ := hu
    unfold Oper.quietAt
    go_simp
    try rfl
  simp only [Act.put, List.setIfInBounds_toArray, List.set_cons_zero, List.set_cons_succ]
  go_big_quiet_on
  go_big_quiet_want
  refine ⟨.bool false, fun u hu => ?_, ?_⟩
  · obtain ⟨hu0, hu1, hu2⟩ := hu
    unfold Oper.quietAt
    go_simp
    refine (impIsGraph_any (N := N) (X := X) (c := c) hl hn ((hrd5.below (hu0.mono hb6.size)).more (Nat.le_trans hb6.size hu0.size))).mono ?_
    rintro e u9 ⟨he, hb9⟩
    rw [HX.out] at he
    exact ⟨he, KE _ (trans_new hu0 hb9)⟩
  simp only [Act.put, List.setIfInBounds_toArray, List.set_cons_zero, List.set_cons_succ]
  go_big_quiet_on
  go_big_quiet_want
  apply Exists.intro
  refine ⟨fun u hu => ?_, ?_⟩
  · obtain ⟨hu0, hu1, hu2⟩ := hu
    unfold Oper.quietAt
    go_simp
    try rfl
  simp only [Act.put, List.setIfInBounds_toArray, List.set_cons_zero, List.set_cons_succ]
  go_big_quiet_on
  go_big_quiet_want
  go_big_quiet_op
  go_big_quiet_on
  repeat go_big_quiet_skip
  go_big_quiet_want
  apply Exists.intro
  refine ⟨fun u hu => ?_, ?_⟩
  · obtain ⟨hu0, hu1, hu2⟩ := hu
    unfold Oper.quietAt
    go_simp
    try rfl
  simp only [Act.put, List.setIfInBounds_toArray, List.set_cons_zero, List.set_cons_succ]
  go_big_quiet_on
  go_big_quiet_want
  go_big_quiet_op
  go_big_quiet_on
  repeat go_big_quiet_skip
  go_big_quiet_want
  apply Exists.intro
  refine ⟨fun u hu => ?_, ?_⟩
  · obtain ⟨hu0, hu1, hu2⟩ := hu
    unfold Oper.quietAt
    go_simp
    try rfl
  simp only [Act.put, List.setIfInBounds_toArray, List.set_cons_zero, List.set_cons_succ]
  go_big_quiet_on
  refine wpQuiet_nil ?_
  rintro u ⟨k9, D0, D1⟩
  have hb7 := hb6.trans (k9.mono hb6.size)
  go_wp2_with fail
  refine (impCopy_any hl hn hs ((hrd5.below (k9.mono hb6.size)).more hb7.size)).mono ?_
  rintro e w6 ⟨v, rfl, hown, hb8⟩
  have bx26 := bx25.new (trans_new k9 hb8)
  have hv1 := hown.one
  have hk := keep_result #[.int .i64 N, v] hown (hb7.trans (hb8.mono hb7.size)) (by have := HM.out; have := k9.size; omega) (by have := HM.out; have := k9.size; have := hb8.size; omega)
  go_wp2_with (first | (refine stGR rfl (.tmp 4) (.tmp 28) rfl bx26 rfl hv1 rfl rfl ?_))
  refine bodyPost_ret (resGB rfl (bx26.setRow _) rfl rfl rfl) rfl ⟨v, by rw [HCf.out]; rfl, by rw [HLx.out]; exact hk.1, hk.2⟩
set_option maxHeartbeats 16000000 in
/-- A graph. -/
theorem impRen_B {m : Nat} (hX : gB m X = true) (hl : Hid (X.length = n)) (hn : n ≤ 1099511627776) (hs : Hid (∀ x ∈ X, x.length ≤ 1099511627776)) (hr : RdSS w w.heap.size A X) (hl' : Hid (T.length = n')) (hn' : n' ≤ 1099511627776) (hr' : Rd w w.heap.size A' (ivs T)) :
    Calls Tryd.prog 16 #[.agg #[.int .i64 m, .slice A n c], .slice A' n' c'] w (FreshGB m (reY m X T) (renB m X T) w) := by
  obtain ⟨W2, hW2, bx1, bx2, hb2, hs2⟩ := two_graphs w #[Value.int IntKind.i64 m, Value.slice A n c] #[Value.int IntKind.i64 0, Value.slice none 0 0] 26
  have HR := Lib.hid (hr.below hb2)
  have HR' := Lib.hid (hr'.below hb2)
  obtain ⟨C0, C1⟩ := bx1.two
  have hW2' := hW2.symm
  have HS2 := Lib.hid hs2
  have HX := Lib.hid hX
  obtain ⟨m', e, hm, hP, _⟩ := gB_ok hX
  obtain rfl : m = m' := by omega
  have HP := Lib.hid hP
  clear hW2 hr hr' hs2 hX e hP
  go_enter Tryd.func16, Tryd.ntmps16
  go_wp2_with fail
  refine (rowsOf_any hl hn (HR.out.more hb2.size)).mono ?_
  rintro e w3 ⟨rfl, hb3⟩
  have hb4 := hb2.trans (hb3.mono hb2.size)
  have bx13 := bx1.new hb3
  have bx23 := bx2.new hb3
  have hs3 := hb3.size
  have hfl := rf_lt m X
  rw [rn_eq HX.out]
  have HRC := Lib.hid (fun h => renamed_code (n := m) (X := X) (T := T) h)
  obtain ⟨f, hf⟩ : ∃ f, f = rf m X := ⟨_, rfl⟩
  rw [← hf] at hfl HRC ⊢
  clear hf
  obtain ⟨W4, W5, hW4, hW5, bx4, bx5, hb5, hs5⟩ := new_rows w3 m f
  rw [← arC_lit 0] at hW4
  have HXX := Lib.hid hW5
  have bx15 := bx13.new hb5
  have bx25 := bx23.new hb5
  have hb6 := hb4.trans (hb5.mono hb4.size)
  have hrd5 := (HR.out.below (hb3.mono hb2.size)).below (hb5.mono hb4.size)
  have hrt5 := (HR'.out.below (hb3.mono hb2.size)).below (hb5.mono hb4.size)
  obtain ⟨D0, D1⟩ := bx15.two
  have HM := Lib.hid (show w.heap.size + 2 ≤ W5.heap.size by rw [hs5]; have := HS2.out; omega)
  have HM3 := Lib.hid (show w.heap.size + 2 ≤ w3.heap.size by have := HS2.out; omega)
  have KE := fun (w' : World) (k : Below W5.heap.size W5 w') => show Below W5.heap.size W5 w' ∧ w'.cell? ⟨w.heap.size, 0, none⟩ = some (.int .i64 m) ∧ w'.cell? ⟨w.heap.size, 1, none⟩ = some (.slice A n c) ∧ w'.cell? ⟨w3.heap.size, 0, none⟩ = some (.int .i64 m) ∧ w'.cell? ⟨w3.heap.size, 1, none⟩ = some (.int .u16 (f 0 : Nat)) ∧ w'.cell? ⟨w3.heap.size, 2, none⟩ = some (.int .u16 (f 1 : Nat)) ∧ w'.cell? ⟨w3.heap.size, 3, none⟩ = some (.int .u16 (f 2 : Nat)) ∧ w'.cell? ⟨w3.heap.size, 4, none⟩ = some (.int .u16 (f 3 : Nat)) ∧ w'.cell? ⟨w3.heap.size, 5, none⟩ = some (.int .u16 (f 4 : Nat)) ∧ w'.cell? ⟨w3.heap.size, 6, none⟩ = some (.int .u16 (f 5 : Nat)) ∧ w'.cell? ⟨w3.heap.size, 7, none⟩ = some (.int .u16 (f 6 : Nat)) ∧ w'.cell? ⟨w3.heap.size, 8, none⟩ = some (.int .u16 (f 7 : Nat)) ∧ w'.cell? ⟨w3.heap.size, 9, none⟩ = some (.int .u16 (f 8 : Nat)) ∧ w'.cell? ⟨w3.heap.size, 10, none⟩ = some (.int .u16 (f 9 : Nat)) from by
    obtain ⟨d0, d1, d2, d3, d4, d5, d6, d7, d8, d9, d10⟩ := (bx5.new k).eleven
    exact ⟨k, (bx15.new k).two.1, (bx15.new k).two.2, d0, d1, d2, d3, d4, d5, d6, d7, d8, d9, d10⟩
  clear hs5 hW5 hW2' C0 C1
  go_wp2_with (first | (refine stAR (n := m) (f := f) rfl (.tmp 6) (.tmp 9) rfl bx4 rfl rfl rfl ?_; rw [HXX.out]))
  simp only [Act.put]
  by_cases hlen : n' = m
  case neg =>
    have HCf := Lib.hid (show renB m X T = false by unfold renB; rw [HX.out, hl'.out]; simp; intro h; omega)
    have HLx := Lib.hid (show reY m X T = X by unfold reY; rw [HCf.out]; rfl)
    have hne : ((n' : Int) != (m : Int)) = true := by simp; omega
    clear hlen
    refine wp_region_quiet (C := fun w' => Below W5.heap.size W5 w' ∧ w'.cell? ⟨w.heap.size, 0, none⟩ = some (.int .i64 m) ∧ w'.cell? ⟨w.heap.size, 1, none⟩ = some (.slice A n c) ∧ w'.cell? ⟨w3.heap.size, 0, none⟩ = some (.int .i64 m) ∧ w'.cell? ⟨w3.heap.size, 1, none⟩ = some (.int .u16 (f 0 : Nat)) ∧ w'.cell? ⟨w3.heap.size, 2, none⟩ = some (.int .u16 (f 1 : Nat)) ∧ w'.cell? ⟨w3.heap.size, 3, none⟩ = some (.int .u16 (f 2 : Nat)) ∧ w'.cell? ⟨w3.heap.size, 4, none⟩ = some (.int .u16 (f 3 : Nat)) ∧ w'.cell? ⟨w3.heap.size, 5, none⟩ = some (.int .u16 (f 4 : Nat)) ∧ w'.cell? ⟨w3.heap.size, 6, none⟩ = some (.int .u16 (f 5 : Nat)) ∧ w'.cell? ⟨w3.heap.size, 7, none⟩ = some (.int .u16 (f 6 : Nat)) ∧ w'.cell? ⟨w3.heap.size, 8, none⟩ = some (.int .u16 (f 7 : Nat)) ∧ w'.cell? ⟨w3.heap.size, 9, none⟩ = some (.int .u16 (f 8 : Nat)) ∧ w'.cell? ⟨w3.heap.size, 10, none⟩ = some (.int .u16 (f 9 : Nat))) (by kernel_rfl) (by kernel_rfl) (KE _ (Below.refl _ _).drew) ?_
    rw [List.toList_toArray]
    go_big_quiet_want
    apply Exists.intro
    refine ⟨fun u hu => ?_, ?_⟩
    · obtain ⟨hu0, hu1, hu2, hu3, hu4, hu5, hu6, hu7, hu8, hu9, hu10, hu11, hu12, hu13⟩ := hu
      unfold Oper.quietAt
      go_simp
      try rfl
    simp only [Act.put, List.setIfInBounds_toArray, List.set_cons_zero, List.set_cons_succ]
    go_big_quiet_on
    go_big_quiet_want
    refine ⟨.bool true, fun u hu => ?_, ?_⟩
    · obtain ⟨hu0, hu1, hu2, hu3, hu4, hu5, hu6, hu7, hu8, hu9, hu10, hu11, hu12, hu13⟩ := hu
      unfold Oper.quietAt
      go_simp
      refine (impIsGraph_any (N := m) (X := X) (c := c) hl hn ((hrd5.below (hu0.mono hb6.size)).more (Nat.le_trans hb6.size hu0.size))).mono ?_
      rintro e u9 ⟨he, hb9⟩
      rw [HX.out] at he
      exact ⟨he, KE _ (trans_new hu0 hb9)⟩
    simp only [Act.put, List.setIfInBounds_toArray, List.set_cons_zero, List.set_cons_succ]
    go_big_quiet_on
    go_big_quiet_want
    apply Exists.intro
    refine ⟨fun u hu => ?_, ?_⟩
    · obtain ⟨hu0, hu1, hu2, hu3, hu4, hu5, hu6, hu7, hu8, hu9, hu10, hu11, hu12, hu13⟩ := hu
      unfold Oper.quietAt
      go_simp
      try rfl
    simp only [Act.put, List.setIfInBounds_toArray, List.set_cons_zero, List.set_cons_succ]
    go_big_quiet_on
    go_big_quiet_want
    go_big_quiet_op
    go_big_quiet_on
    go_big_quiet_want
    go_big_quiet_op
    go_big_quiet_on
    go_big_quiet_want
    apply Exists.intro
    refine ⟨fun u hu => ?_, ?_⟩
    · obtain ⟨hu0, hu1, hu2, hu3, hu4, hu5, hu6, hu7, hu8, hu9, hu10, hu11, hu12, hu13⟩ := hu
      unfold Oper.quietAt
      go_simp
      try rfl
    simp only [Act.put, List.setIfInBounds_toArray, List.set_cons_zero, List.set_cons_succ]
    go_big_quiet_on
    go_big_quiet_want
    apply Exists.intro
    refine ⟨fun u hu => ?_, ?_⟩
    · obtain ⟨hu0, hu1, hu2, hu3, hu4, hu5, hu6, hu7, hu8, hu9, hu10, hu11, hu12, hu13⟩ := hu
      unfold Oper.quietAt
      go_simp
      try rfl
    simp only [Act.put, List.setIfInBounds_toArray, List.set_cons_zero, List.set_cons_succ]
    go_big_quiet_on
    go_big_quiet_want
    apply Exists.intro
    refine ⟨fun u hu => ?_, ?_⟩
    · obtain ⟨hu0, hu1, hu2, hu3, hu4, hu5, hu6, hu7, hu8, hu9, hu10, hu11, hu12, hu13⟩ := hu
      unfold Oper.quietAt
      go_simp
      try rfl
    simp only [Act.put, List.setIfInBounds_toArray, List.set_cons_zero, List.set_cons_succ]
    go_big_quiet_on
    go_big_quiet_want
    apply Exists.intro
    refine ⟨fun u hu => ?_, ?_⟩
    · obtain ⟨hu0, hu1, hu2, hu3, hu4, hu5, hu6, hu7, hu8, hu9, hu10, hu11, hu12, hu13⟩ := hu
      unfold Oper.quietAt
      go_simp
      try rfl
    simp only [Act.put, List.setIfInBounds_toArray, List.set_cons_zero, List.set_cons_succ]
    go_big_quiet_on
    go_big_quiet_want
    apply Exists.intro
    refine ⟨fun u hu => ?_, ?_⟩
    · obtain ⟨hu0, hu1, hu2, hu3, hu4, hu5, hu6, hu7, hu8, hu9, hu10, hu11, hu12, hu13⟩ := hu
      unfold Oper.quietAt
      go_simp
      try rfl
    simp only [Act.put, List.setIfInBounds_toArray, List.set_cons_zero, List.set_cons_succ]
    go_big_quiet_on
    go_big_quiet_want
    go_big_quiet_op
    go_big_quiet_on
    repeat go_big_quiet_skip
    go_big_quiet_want
    apply Exists.intro
    refine ⟨fun u hu => ?_, ?_⟩
    · obtain ⟨hu0, hu1, hu2, hu3, hu4, hu5, hu6, hu7, hu8, hu9, hu10, hu11, hu12, hu13⟩ := hu
      unfold Oper.quietAt
      go_simp
      try rfl
    simp only [Act.put, List.setIfInBounds_toArray, List.set_cons_zero, List.set_cons_succ]
    go_big_quiet_on
    refine wpQuiet_nil ?_
    rintro u ⟨k9, D0, D1, _⟩
    have hb7 := hb6.trans (k9.mono hb6.size)
    go_wp2_with fail
    refine (impCopy_any hl hn hs ((hrd5.below (k9.mono hb6.size)).more hb7.size)).mono ?_
    rintro e w6 ⟨v, rfl, hown, hb8⟩
    have bx26 := bx25.new (trans_new k9 hb8)
    have hv1 := hown.one
    have hk := keep_result #[.int .i64 m, v] hown (hb7.trans (hb8.mono hb7.size)) (by have := HM.out; have := k9.size; omega) (by have := HM.out; have := k9.size; have := hb8.size; omega)
    go_wp2_with (first | (refine stGR rfl (.tmp 4) (.tmp 28) rfl bx26 rfl hv1 rfl rfl ?_))
    refine bodyPost_ret (resGB rfl (bx26.setRow _) rfl rfl rfl) rfl ⟨v, by rw [HCf.out]; rfl, by rw [HLx.out]; exact hk.1, hk.2⟩
  case pos =>
    subst hlen
    have hnm : ((n' : Int) != (n' : Int)) = false := by simp
    have hpt := ren_test hm hl'.out
    by_cases hper : perB n' T = true
    case neg =>
      have HCf := Lib.hid (show renB n' X T = false by unfold renB; rw [HX.out, hl'.out]; simpa using hper)
      have HLx := Lib.hid (show reY n' X T = X by unfold reY; rw [HCf.out]; rfl)
      have hbb : ((bS T : Int) != (alB n' : Int)) = true := by
        have : perB n' T = false := by simpa using hper
        rw [this] at hpt
        simp only [beq_eq_false_iff_ne] at hpt
        simp only [bne_iff_ne]
        omega
      clear hpt hper
      refine wp_region_quiet (C := fun w' => Below W5.heap.size W5 w' ∧ w'.cell? ⟨w.heap.size, 0, none⟩ = some (.int .i64 n') ∧ w'.cell? ⟨w.heap.size, 1, none⟩ = some (.slice A n c) ∧ w'.cell? ⟨w3.heap.size, 0, none⟩ = some (.int .i64 n') ∧ w'.cell? ⟨w3.heap.size, 1, none⟩ = some (.int .u16 (f 0 : Nat)) ∧ w'.cell? ⟨w3.heap.size, 2, none⟩ = some (.int .u16 (f 1 : Nat)) ∧ w'.cell? ⟨w3.heap.size, 3, none⟩ = some (.int .u16 (f 2 : Nat)) ∧ w'.cell? ⟨w3.heap.size, 4, none⟩ = some (.int .u16 (f 3 : Nat)) ∧ w'.cell? ⟨w3.heap.size, 5, none⟩ = some (.int .u16 (f 4 : Nat)) ∧ w'.cell? ⟨w3.heap.size, 6, none⟩ = some (.int .u16 (f 5 : Nat)) ∧ w'.cell? ⟨w3.heap.size, 7, none⟩ = some (.int .u16 (f 6 : Nat)) ∧ w'.cell? ⟨w3.heap.size, 8, none⟩ = some (.int .u16 (f 7 : Nat)) ∧ w'.cell? ⟨w3.heap.size, 9, none⟩ = some (.int .u16 (f 8 : Nat)) ∧ w'.cell? ⟨w3.heap.size, 10, none⟩ = some (.int .u16 (f 9 : Nat))) (by kernel_rfl) (by kernel_rfl) (KE _ (Below.refl _ _).drew) ?_
      rw [List.toList_toArray]
      go_big_quiet_want
      apply Exists.intro
      refine ⟨fun u hu => ?_, ?_⟩
      · obtain ⟨hu0, hu1, hu2, hu3, hu4, hu5, hu6, hu7, hu8, hu9, hu10, hu11, hu12, hu13⟩ := hu
        unfold Oper.quietAt
        go_simp
        try rfl
      simp only [Act.put, List.setIfInBounds_toArray, List.set_cons_zero, List.set_cons_succ]
      go_big_quiet_on
      go_big_quiet_want
      refine ⟨.bool true, fun u hu => ?_, ?_⟩
      · obtain ⟨hu0, hu1, hu2, hu3, hu4, hu5, hu6, hu7, hu8, hu9, hu10, hu11, hu12, hu13⟩ := hu
        unfold Oper.quietAt
        go_simp
        refine (impIsGraph_any (N := n') (X := X) (c := c) hl hn ((hrd5.below (hu0.mono hb6.size)).more (Nat.le_trans hb6.size hu0.size))).mono ?_
        rintro e u9 ⟨he, hb9⟩
        rw [HX.out] at he
        exact ⟨he, KE _ (trans_new hu0 hb9)⟩
      simp only [Act.put, List.setIfInBounds_toArray, List.set_cons_zero, List.set_cons_succ]
      go_big_quiet_on
      go_big_quiet_want
      apply Exists.intro
      refine ⟨fun u hu => ?_, ?_⟩
      · obtain ⟨hu0, hu1, hu2, hu3, hu4, hu5, hu6, hu7, hu8, hu9, hu10, hu11, hu12, hu13⟩ := hu
        unfold Oper.quietAt
        go_simp
        try rfl
      simp only [Act.put, List.setIfInBounds_toArray, List.set_cons_zero, List.set_cons_succ]
      go_big_quiet_on
      go_big_quiet_want
      go_big_quiet_op
      go_big_quiet_on
      go_big_quiet_want
      go_big_quiet_op
      go_big_quiet_on
      go_big_quiet_want
      apply Exists.intro
      refine ⟨fun u hu => ?_, ?_⟩
      · obtain ⟨hu0, hu1, hu2, hu3, hu4, hu5, hu6, hu7, hu8, hu9, hu10, hu11, hu12, hu13⟩ := hu
        unfold Oper.quietAt
        go_simp
        try rfl
      simp only [Act.put, List.setIfInBounds_toArray, List.set_cons_zero, List.set_cons_succ]
      go_big_quiet_on
      go_big_quiet_want
      apply Exists.intro
      refine ⟨fun u hu => ?_, ?_⟩
      · obtain ⟨hu0, hu1, hu2, hu3, hu4, hu5, hu6, hu7, hu8, hu9, hu10, hu11, hu12, hu13⟩ := hu
        unfold Oper.quietAt
        go_simp
        try rfl
      simp only [Act.put, List.setIfInBounds_toArray, List.set_cons_zero, List.set_cons_succ]
      go_big_quiet_on
      go_big_quiet_want
      apply Exists.intro
      refine ⟨fun u hu => ?_, ?_⟩
      · obtain ⟨hu0, hu1, hu2, hu3, hu4, hu5, hu6, hu7, hu8, hu9, hu10, hu11, hu12, hu13⟩ := hu
        unfold Oper.quietAt
        go_simp
        try rfl
      simp only [Act.put, List.setIfInBounds_toArray, List.set_cons_zero, List.set_cons_succ]
      go_big_quiet_on
      go_big_quiet_want
      apply Exists.intro
      refine ⟨fun u hu => ?_, ?_⟩
      · obtain ⟨hu0, hu1, hu2, hu3, hu4, hu5, hu6, hu7, hu8, hu9, hu10, hu11, hu12, hu13⟩ := hu
        unfold Oper.quietAt
        go_simp
        try rfl
      simp only [Act.put, List.setIfInBounds_toArray, List.set_cons_zero, List.set_cons_succ]
      go_big_quiet_on
      go_big_quiet_want
      apply Exists.intro
      refine ⟨fun u hu => ?_, ?_⟩
      · obtain ⟨hu0, hu1, hu2, hu3, hu4, hu5, hu6, hu7, hu8, hu9, hu10, hu11, hu12, hu13⟩ := hu
        unfold Oper.quietAt
        go_simp
        try rfl
      simp only [Act.put, List.setIfInBounds_toArray, List.set_cons_zero, List.set_cons_succ]
      go_big_quiet_on
      go_big_quiet_want
      go_big_quiet_op
      go_big_quiet_on
      go_big_quiet_want
      go_big_quiet_op
      go_big_quiet_on
      go_big_quiet_want
      refine ⟨.int .u16 (bS T : Nat), fun u hu => ?_, ?_⟩
      · obtain ⟨hu0, hu1, hu2, hu3, hu4, hu5, hu6, hu7, hu8, hu9, hu10, hu11, hu12, hu13⟩ := hu
        unfold Oper.quietAt
        go_simp
        refine (bitsOf_any hl' hn' (hrt5.below (hu0.mono hb6.size))).mono ?_
        rintro e u9 ⟨he, rfl⟩
        exact ⟨he, KE _ hu0⟩
      simp only [Act.put, List.setIfInBounds_toArray, List.set_cons_zero, List.set_cons_succ]
      go_big_quiet_on
      go_big_quiet_want
      apply Exists.intro
      refine ⟨fun u hu => ?_, ?_⟩
      · obtain ⟨hu0, hu1, hu2, hu3, hu4, hu5, hu6, hu7, hu8, hu9, hu10, hu11, hu12, hu13⟩ := hu
        unfold Oper.quietAt
        go_simp
        try rfl
      simp only [Act.put, List.setIfInBounds_toArray, List.set_cons_zero, List.set_cons_succ]
      go_big_quiet_on
      go_big_quiet_want
      refine ⟨.int .u16 (alB n' : Nat), fun u hu => ?_, ?_⟩
      · obtain ⟨hu0, hu1, hu2, hu3, hu4, hu5, hu6, hu7, hu8, hu9, hu10, hu11, hu12, hu13⟩ := hu
        unfold Oper.quietAt
        go_simp
        refine (all_any (n := n') (f := f) (by omega) (by omega)).mono ?_
        rintro e u9 ⟨he, hb9⟩
        exact ⟨he, KE _ (trans_new hu0 hb9)⟩
      simp only [Act.put, List.setIfInBounds_toArray, List.set_cons_zero, List.set_cons_succ]
      go_big_quiet_on
      go_big_quiet_want
      apply Exists.intro
      refine ⟨fun u hu => ?_, ?_⟩
      · obtain ⟨hu0, hu1, hu2, hu3, hu4, hu5, hu6, hu7, hu8, hu9, hu10, hu11, hu12, hu13⟩ := hu
        unfold Oper.quietAt
        go_simp
        try rfl
      simp only [Act.put, List.setIfInBounds_toArray, List.set_cons_zero, List.set_cons_succ]
      go_big_quiet_on
      go_big_quiet_want
      apply Exists.intro
      refine ⟨fun u hu => ?_, ?_⟩
      · obtain ⟨hu0, hu1, hu2, hu3, hu4, hu5, hu6, hu7, hu8, hu9, hu10, hu11, hu12, hu13⟩ := hu
        unfold Oper.quietAt
        go_simp
        try rfl
      simp only [Act.put, List.setIfInBounds_toArray, List.set_cons_zero, List.set_cons_succ]
      go_big_quiet_on
      refine wpQuiet_nil ?_
      rintro u ⟨k9, D0, D1, _⟩
      have hb7 := hb6.trans (k9.mono hb6.size)
      go_wp2_with fail
      refine (impCopy_any hl hn hs ((hrd5.below (k9.mono hb6.size)).more hb7.size)).mono ?_
      rintro e w6 ⟨v, rfl, hown, hb8⟩
      have bx26 := bx25.new (trans_new k9 hb8)
      have hv1 := hown.one
      have hk := keep_result #[.int .i64 n', v] hown (hb7.trans (hb8.mono hb7.size)) (by have := HM.out; have := k9.size; omega) (by have := HM.out; have := k9.size; have := hb8.size; omega)
      go_wp2_with (first | (refine stGR rfl (.tmp 4) (.tmp 28) rfl bx26 rfl hv1 rfl rfl ?_))
      refine bodyPost_ret (resGB rfl (bx26.setRow _) rfl rfl rfl) rfl ⟨v, by rw [HCf.out]; rfl, by rw [HLx.out]; exact hk.1, hk.2⟩
    case pos =>
      have HPB := Lib.hid hper
      have HCf := Lib.hid (show renB n' X T = true by unfold renB; rw [HX.out, hl'.out]; simpa using hper)
      have HLx := Lib.hid (show reY n' X T = renX n' X T by unfold reY; rw [HCf.out]; rfl)
      have HNM := Lib.hid (tN_nms hm hl'.out hper)
      have HGP := Lib.hid (att_lt16 (mapX_prs HNM.out (glK_prs f n' hm)))
      have hbb : ((bS T : Int) != (alB n' : Int)) = false := by
        rw [hper] at hpt
        simp only [beq_iff_eq] at hpt
        rw [hpt]
        simp
      clear hpt hper
      refine wp_region_quiet (C := fun w' => Below W5.heap.size W5 w' ∧ w'.cell? ⟨w.heap.size, 0, none⟩ = some (.int .i64 n') ∧ w'.cell? ⟨w.heap.size, 1, none⟩ = some (.slice A n c) ∧ w'.cell? ⟨w3.heap.size, 0, none⟩ = some (.int .i64 n') ∧ w'.cell? ⟨w3.heap.size, 1, none⟩ = some (.int .u16 (f 0 : Nat)) ∧ w'.cell? ⟨w3.heap.size, 2, none⟩ = some (.int .u16 (f 1 : Nat)) ∧ w'.cell? ⟨w3.heap.size, 3, none⟩ = some (.int .u16 (f 2 : Nat)) ∧ w'.cell? ⟨w3.heap.size, 4, none⟩ = some (.int .u16 (f 3 : Nat)) ∧ w'.cell? ⟨w3.heap.size, 5, none⟩ = some (.int .u16 (f 4 : Nat)) ∧ w'.cell? ⟨w3.heap.size, 6, none⟩ = some (.int .u16 (f 5 : Nat)) ∧ w'.cell? ⟨w3.heap.size, 7, none⟩ = some (.int .u16 (f 6 : Nat)) ∧ w'.cell? ⟨w3.heap.size, 8, none⟩ = some (.int .u16 (f 7 : Nat)) ∧ w'.cell? ⟨w3.heap.size, 9, none⟩ = some (.int .u16 (f 8 : Nat)) ∧ w'.cell? ⟨w3.heap.size, 10, none⟩ = some (.int .u16 (f 9 : Nat))) (by kernel_rfl) (by kernel_rfl) (KE _ (Below.refl _ _).drew) ?_
      rw [List.toList_toArray]
      go_big_quiet_want
      apply Exists.intro
      refine ⟨fun u hu => ?_, ?_⟩
      · obtain ⟨hu0, hu1, hu2, hu3, hu4, hu5, hu6, hu7, hu8, hu9, hu10, hu11, hu12, hu13⟩ := hu
        unfold Oper.quietAt
        go_simp
        try rfl
      simp only [Act.put, List.setIfInBounds_toArray, List.set_cons_zero, List.set_cons_succ]
      go_big_quiet_on
      go_big_quiet_want
      refine ⟨.bool true, fun u hu => ?_, ?_⟩
      · obtain ⟨hu0, hu1, hu2, hu3, hu4, hu5, hu6, hu7, hu8, hu9, hu10, hu11, hu12, hu13⟩ := hu
        unfold Oper.quietAt
        go_simp
        refine (impIsGraph_any (N := n') (X := X) (c := c) hl hn ((hrd5.below (hu0.mono hb6.size)).more (Nat.le_trans hb6.size hu0.size))).mono ?_
        rintro e u9 ⟨he, hb9⟩
        rw [HX.out] at he
        exact ⟨he, KE _ (trans_new hu0 hb9)⟩
      simp only [Act.put, List.setIfInBounds_toArray, List.set_cons_zero, List.set_cons_succ]
      go_big_quiet_on
      go_big_quiet_want
      apply Exists.intro
      refine ⟨fun u hu => ?_, ?_⟩
      · obtain ⟨hu0, hu1, hu2, hu3, hu4, hu5, hu6, hu7, hu8, hu9, hu10, hu11, hu12, hu13⟩ := hu
        unfold Oper.quietAt
        go_simp
        try rfl
      simp only [Act.put, List.setIfInBounds_toArray, List.set_cons_zero, List.set_cons_succ]
      go_big_quiet_on
      go_big_quiet_want
      go_big_quiet_op
      go_big_quiet_on
      go_big_quiet_want
      go_big_quiet_op
      go_big_quiet_on
      go_big_quiet_want
      apply Exists.intro
      refine ⟨fun u hu => ?_, ?_⟩
      · obtain ⟨hu0, hu1, hu2, hu3, hu4, hu5, hu6, hu7, hu8, hu9, hu10, hu11, hu12, hu13⟩ := hu
        unfold Oper.quietAt
        go_simp
        try rfl
      simp only [Act.put, List.setIfInBounds_toArray, List.set_cons_zero, List.set_cons_succ]
      go_big_quiet_on
      go_big_quiet_want
      apply Exists.intro
      refine ⟨fun u hu => ?_, ?_⟩
      · obtain ⟨hu0, hu1, hu2, hu3, hu4, hu5, hu6, hu7, hu8, hu9, hu10, hu11, hu12, hu13⟩ := hu
        unfold Oper.quietAt
        go_simp
        try rfl
      simp only [Act.put, List.setIfInBounds_toArray, List.set_cons_zero, List.set_cons_succ]
      go_big_quiet_on
      go_big_quiet_want
      apply Exists.intro
      refine ⟨fun u hu => ?_, ?_⟩
      · obtain ⟨hu0, hu1, hu2, hu3, hu4, hu5, hu6, hu7, hu8, hu9, hu10, hu11, hu12, hu13⟩ := hu
        unfold Oper.quietAt
        go_simp
        try rfl
      simp only [Act.put, List.setIfInBounds_toArray, List.set_cons_zero, List.set_cons_succ]
      go_big_quiet_on
      go_big_quiet_want
      apply Exists.intro
      refine ⟨fun u hu => ?_, ?_⟩
      · obtain ⟨hu0, hu1, hu2, hu3, hu4, hu5, hu6, hu7, hu8, hu9, hu10, hu11, hu12, hu13⟩ := hu
        unfold Oper.quietAt
        go_simp
        try rfl
      simp only [Act.put, List.setIfInBounds_toArray, List.set_cons_zero, List.set_cons_succ]
      go_big_quiet_on
      go_big_quiet_want
      apply Exists.intro
      refine ⟨fun u hu => ?_, ?_⟩
      · obtain ⟨hu0, hu1, hu2, hu3, hu4, hu5, hu6, hu7, hu8, hu9, hu10, hu11, hu12, hu13⟩ := hu
        unfold Oper.quietAt
        go_simp
        try rfl
      simp only [Act.put, List.setIfInBounds_toArray, List.set_cons_zero, List.set_cons_succ]
      go_big_quiet_on
      go_big_quiet_want
      go_big_quiet_op
      go_big_quiet_on
      go_big_quiet_want
      go_big_quiet_op
      go_big_quiet_on
      go_big_quiet_want
      refine ⟨.int .u16 (bS T : Nat), fun u hu => ?_, ?_⟩
      · obtain ⟨hu0, hu1, hu2, hu3, hu4, hu5, hu6, hu7, hu8, hu9, hu10, hu11, hu12, hu13⟩ := hu
        unfold Oper.quietAt
        go_simp
        refine (bitsOf_any hl' hn' (hrt5.below (hu0.mono hb6.size))).mono ?_
        rintro e u9 ⟨he, rfl⟩
        exact ⟨he, KE _ hu0⟩
      simp only [Act.put, List.setIfInBounds_toArray, List.set_cons_zero, List.set_cons_succ]
      go_big_quiet_on
      go_big_quiet_want
      apply Exists.intro
      refine ⟨fun u hu => ?_, ?_⟩
      · obtain ⟨hu0, hu1, hu2, hu3, hu4, hu5, hu6, hu7, hu8, hu9, hu10, hu11, hu12, hu13⟩ := hu
        unfold Oper.quietAt
        go_simp
        try rfl
      simp only [Act.put, List.setIfInBounds_toArray, List.set_cons_zero, List.set_cons_succ]
      go_big_quiet_on
      go_big_quiet_want
      refine ⟨.int .u16 (alB n' : Nat), fun u hu => ?_, ?_⟩
      · obtain ⟨hu0, hu1, hu2, hu3, hu4, hu5, hu6, hu7, hu8, hu9, hu10, hu11, hu12, hu13⟩ := hu
        unfold Oper.quietAt
        go_simp
        refine (all_any (n := n') (f := f) (by omega) (by omega)).mono ?_
        rintro e u9 ⟨he, hb9⟩
        exact ⟨he, KE _ (trans_new hu0 hb9)⟩
      simp only [Act.put, List.setIfInBounds_toArray, List.set_cons_zero, List.set_cons_succ]
      go_big_quiet_on
      go_big_quiet_want
      apply Exists.intro
      refine ⟨fun u hu => ?_, ?_⟩
      · obtain ⟨hu0, hu1, hu2, hu3, hu4, hu5, hu6, hu7, hu8, hu9, hu10, hu11, hu12, hu13⟩ := hu
        unfold Oper.quietAt
        go_simp
        try rfl
      simp only [Act.put, List.setIfInBounds_toArray, List.set_cons_zero, List.set_cons_succ]
      go_big_quiet_on
      go_big_quiet_want
      apply Exists.intro
      refine ⟨fun u hu => ?_, ?_⟩
      · obtain ⟨hu0, hu1, hu2, hu3, hu4, hu5, hu6, hu7, hu8, hu9, hu10, hu11, hu12, hu13⟩ := hu
        unfold Oper.quietAt
        go_simp
        try rfl
      simp only [Act.put, List.setIfInBounds_toArray, List.set_cons_zero, List.set_cons_succ]
      go_big_quiet_on
      refine wpQuiet_nil ?_
      rintro u ⟨k9, D0, D1, _⟩
      have hb7 := hb6.trans (k9.mono hb6.size)
      have bx1u := bx15.new k9
      have bx2u := bx25.new k9
      have bx3u := bx5.new k9
      have kn := alloc_new u (Obj.cells (nmC fun _ => 0) 58)
      have bn := Bx.made u 58 (nmC fun _ => 0)
      obtain ⟨Wn, hWn⟩ : ∃ z : World, z = u.alloc (Obj.cells (nmC fun _ => 0) 58) := ⟨_, rfl⟩
      rw [← hWn] at kn bn
      have hWn' := hWn.symm
      rw [← nmC_lit] at hWn'
      clear hWn
      have hrtn := (hrt5.below ((k9.trans (kn.mono k9.size)).mono hb6.size))
      have HSP := Lib.hid (nm_splice (T := T) (by rw [hl'.out]; exact hm))
      have HLT := Lib.hid (show (ivs T).length = n' by rw [ivs_len, hl'.out])
      have HRA := Lib.hid (fun h => hrtn.addr h)
      have HOK := Lib.hid (show ∀ v ∈ ivs T, v.oneCell' = true by intro v hv; simp [ivs] at hv; obtain ⟨a, _, rfl⟩ := hv; rfl)
      go_wp2_with (first
        | (refine wpList_copy_splice rfl (.tmp 29) (.tmp 30) 27 27 rfl 3 Tryd.underlying27 (by kernel_rfl) (some ⟨u.heap.size, 0, none⟩) A' 10 10 n' c' rfl rfl u.heap.size 0 (nmC fun _ => 0).toList 58 bn (ivs T) ?_ ?_ ?_ ?_ u.heap.size u kn (Nat.le_refl _) ?_
           · rw [HLT.out]; exact (Nat.min_eq_left hm).symm
           · exact fun h => ⟨rfl, by obtain ⟨ad, e, _, hx⟩ := HRA.out h; exact ⟨ad, e, hx⟩⟩
           · rw [HLT.out]; simp [nmC]; omega
           · exact HOK.out
           intro w7 hG7 hb8
           have bn7 : Bx w7 u.heap.size 58 (nmC (tN T)) := by have := hG7.out; rw [HSP.out] at this; exact this
           have bx37 := bx3u.new hb8
           have z37 := bx37.at_ (k := 0) (v := .int .i64 n') rfl)
        | (refine ldAR rfl (.tmp 6) rfl bx37 rfl rfl ?_)
        | (refine ldNM rfl (.tmp 7) rfl bn7 rfl rfl ?_))
      refine (renamed_any (n := n') (m := n') hm hfl HNM.out).mono ?_
      rintro e w8 ⟨rfl, hb9⟩
      go_wp2_with fail
      refine (impGraph_any (by omega) HGP.out).mono ?_
      rintro e w9 ⟨v, rfl, hown, hb10⟩
      have k7 := hb8.trans (hb9.mono hb8.size)
      have k10 := k7.trans (hb10.mono k7.size)
      have bx29 := bx2u.new k10
      have hv1 := hown.one
      have hb11 := hb7.trans (k10.mono hb7.size)
      have hk := keep_result #[.int .i64 n', v] hown hb11 (by have := HM.out; have := k9.size; have := k7.size; omega) (by have := HM.out; have := k9.size; have := k10.size; omega)
      go_wp2_with (first | (refine stGR rfl (.tmp 4) (.tmp 37) rfl bx29 rfl hv1 rfl rfl ?_))
      refine bodyPost_ret (resGB rfl (bx29.setRow _) rfl rfl rfl) rfl ⟨v, by rw [HCf.out]; rfl, by rw [HLx.out, ← HRC.out HCf.out]; exact hk.1, hk.2⟩
theorem impRenamed_any (hl : Hid (X.length = n)) (hn : n ≤ 1099511627776) (hs : Hid (∀ x ∈ X, x.length ≤ 1099511627776)) (hr : RdSS w w.heap.size A X) (hl' : Hid (T.length = n')) (hn' : n' ≤ 1099511627776) (hr' : Rd w w.heap.size A' (ivs T)) :
    Calls Tryd.prog 16 #[.agg #[.int .i64 N, .slice A n c], .slice A' n' c'] w (FreshGB N (reY N X T) (renB N X T) w) := by
  by_cases hg : gB N X = true
  · obtain ⟨m, rfl, _, _, _⟩ := gB_ok hg
    exact impRen_B hg hl hn hs hr hl' hn' hr'
  · exact impRen_A (by simpa using hg) hl hn hs hr
end
end Go.Proofs.YtjhknafajfpldaaDoor
