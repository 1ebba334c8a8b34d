/- Contracts of AppendBytes and ReadBytes and of their models. No conditions but that each byte lies in 0 to 255 and that the slices have at most 2^45 elements. -/
import Derived.Test.YtmjnlhejdjkoaaaVarApp
namespace Go.Proofs.Ytmjnlhejdjkoaaa
open Go.ChangeShapes Go.WideShapes Go.ChangeAt Go.RowKit
theorem Rd.cut {w : World} {B : Nat} {ad : Addr} {xs : List Value} (h : Rd w B (some ad) xs) (q m : Nat) : Rd w B (some (ad.add q)) ((xs.drop q).take m) := fun j u hu => by
  have hj : xs[q + j]? = some u := by
    rcases Nat.lt_or_ge j m with hm | hm
    · rw [List.getElem?_take, if_pos hm, List.getElem?_drop] at hu; exact hu
    · rw [List.getElem?_take, if_neg (by omega)] at hu; cases hu
  obtain ⟨ad', e, hb, hc⟩ := h _ u hj
  injection e with e
  subst e
  exact ⟨_, rfl, by rw [add_blk]; exact hb, by rw [add_add_]; exact hc⟩
theorem bvs_cut (zs : List Int) (q m : Nat) : ((bvs zs).drop q).take m = bvs ((zs.drop q).take m) := by simp [bvs]
/-- As Fresh, with two more results. -/
def Fresh3 (t : TypeId) (xs : List Value) (a b : Value) (w : World) (e : Ending) (w' : World) : Prop :=
  ∃ v, e = .returned (.tuple #[v, a, b]) ∧ Row w' w.heap.size w'.heap.size t v xs ∧ Below w.heap.size w w'
theorem impAppendBytes_any {w : World} {A A' : Option Addr} {n c n' c' : Nat} {zs ys : List Int} (hl : Hid (zs.length = n)) (hl' : Hid (ys.length = n')) (hn : n ≤ 35184372088832) (hn' : n' ≤ 35184372088832) (hr : Rd w w.heap.size A (bvs zs)) (hr' : Rd w w.heap.size A' (bvs ys)) :
    Calls Try.prog 20 #[.slice A n c, .slice A' n' c'] w (Fresh 5 (bvs (zs ++ uvr n' ++ ys)) w) := by
  obtain ⟨i0, hi, hz0, hz1, hz2⟩ := info_parts ByteS_info
  have hu := uvr_len n'
  have hle : (bvs (zs ++ uvr n')).length + n' ≤ 140737488355328 := by rw [bvs_len, List.length_append, hl.out]; omega
  have HL := Lib.hid (show (bvs ys).length = n' by rw [bvs_len, hl'.out])
  clear hu
  go_enter Try.func20, Try.ntmps20
  go_wp2_with (first
    | (go_at_call 14; refine (impAppendUvarint_any hl (by omega) hr).mono ?_; rintro e w1 ⟨v1, rfl, hrow1, hb1⟩)
    | (at_builtin; refine wpList_app rfl _ _ 22 rfl 5 i0 _ 1 Try.underlying22 hi hz0 hz1 hz2 rfl rfl rfl hrow1 HL.out (hr'.below hb1) (bvs_one ys) (by unfold maxLen; omega) (by omega) hb1.size ?_; intro v2 w2 hrow2 ho2))
  go_ret
  exact ⟨v2, rfl, by rw [← bvs_app]; exact hrow2, hb1.trans (ho2.below (Nat.le_refl _) hb1.size)⟩
theorem specAppendBytes_any {w : World} {A A' : Option Addr} {n c n' c' : Nat} {zs ys : List Int} (hl : Hid (zs.length = n)) (hl' : Hid (ys.length = n')) (hn : n ≤ 35184372088832) (hn' : n' ≤ 35184372088832) (hr : Rd w w.heap.size A (bvs zs)) (hr' : Rd w w.heap.size A' (bvs ys)) :
    Calls Try.prog 31 #[.slice A n c, .slice A' n' c'] w (Fresh 5 (bvs (zs ++ uvr n' ++ ys)) w) := by
  obtain ⟨i0, hi, hz0, hz1, hz2⟩ := info_parts ByteS_info
  have hu := uvr_len n'
  have hle : (bvs (zs ++ uvr n')).length + n' ≤ 140737488355328 := by rw [bvs_len, List.length_append, hl.out]; omega
  have HL := Lib.hid (show (bvs ys).length = n' by rw [bvs_len, hl'.out])
  clear hu
  go_enter Try.func31, Try.ntmps31
  go_wp2_with (first
    | (go_at_call 26; refine (specAppendUvarint_any hl (by omega) hr).mono ?_; rintro e w1 ⟨v1, rfl, hrow1, hb1⟩)
    | (at_builtin; refine wpList_app rfl _ _ 22 rfl 5 i0 _ 1 Try.underlying22 hi hz0 hz1 hz2 rfl rfl rfl hrow1 HL.out (hr'.below hb1) (bvs_one ys) (by unfold maxLen; omega) (by omega) hb1.size ?_; intro v2 w2 hrow2 ho2))
  go_ret
  exact ⟨v2, rfl, by rw [← bvs_app]; exact hrow2, hb1.trans (ho2.below (Nat.le_refl _) hb1.size)⟩
/-- What ReadBytes answers: the bytes and the offset behind them. -/
def rbAt (zs : List Int) (o most : Int) : Option (List Int × Int) :=
  match rvAt zs o with
  | none => none
  | some (m, j) => if most < m ∨ (zs.length : Int) - (o + j) < m then none else some ((zs.drop (o.toNat + j)).take m.toNat, o + j + m)
theorem rbAt_len {zs ys : List Int} {o most r : Int} (h : rbAt zs o most = some (ys, r)) : ys.length ≤ zs.length := by
  unfold rbAt at h
  split at h
  · cases h
  · split at h
    · cases h
    · injection h with h
      injection h with h _
      rw [← h, List.length_take, List.length_drop]; omega
theorem Fresh3.nil {w w' : World} {t : TypeId} {a b : Value} (hb : Below w.heap.size w w') {cs : Array Value} (hcs : cs = #[]) : Fresh3 t (bvs []) a b w (.returned (.tuple #[.slice (some ⟨w'.heap.size, 0, none⟩) 0 0, a, b])) (w'.alloc (.cells cs t)) := by
  subst hcs
  exact ⟨_, rfl, (Row.made (w := w') w.heap.size #[] 0 t hb.size rfl (Nat.zero_le _)).wide (Nat.le_refl _) (by simp), hb.alloc hb.size _⟩
set_option maxHeartbeats 1600000 in
theorem specReadBytes_none {w : World} {A : Option Addr} {n c : Nat} {zs : List Int} {o most : Int} (hl : Hid (zs.length = n)) (hn : n ≤ 35184372088832) (hr : Rd w w.heap.size A (bvs zs)) (hb : ∀ x ∈ zs, 0 ≤ x ∧ x ≤ 255)
    (hlo : -9223372036854775808 ≤ o) (hhi : o ≤ 9223372036854775807) (h : Hid (rbAt zs o most = none)) :
    Calls Try.prog 32 #[.slice A n c, .int .i64 o, .int .i64 most] w (Fresh3 5 (bvs []) (.int .i64 0) (.bool false) w) := by
  have C := specReadUvarint_any (c := c) hl (by omega) hr hb hlo hhi
  rcases hR : rvAt zs o with _ | ⟨m, j⟩
  · rw [hR] at C
    have C' : Calls Try.prog 18 #[.slice A n c, .int .i64 o] w (fun e w' => e = .returned (.tuple #[.int .i64 0, .int .i64 0, .bool false]) ∧ w = w') := C
    have HC := Lib.hid C'
    clear C C' hR hr hb
    go_enter Try.func32, Try.ntmps32
    go_wp2_with (go_at_call 18; refine HC.out.mono ?_; rintro e w1 ⟨rfl, rfl⟩)
    go_ret3
    exact Fresh3.nil (Below.refl _ _) rfl
  · obtain ⟨q1, q2, q3, q4, q5, _, q6⟩ := uvr_rvAt zs o m j hb hR
    have h2 : most < m ∨ (n : Int) - (o + j) < m := by
      have := h.out
      unfold rbAt at this
      rw [hR] at this
      simp only [hl.out] at this
      by_cases hc : most < m ∨ (n : Int) - (o + j) < m
      · exact hc
      · rw [if_neg hc] at this; cases this
    rw [hl.out] at q3
    rw [hR] at C
    have C' : Calls Try.prog 18 #[.slice A n c, .int .i64 o] w (fun e w' => e = .returned (.tuple #[.int .i64 m, .int .i64 (o + (j : Int)), .bool true]) ∧ w = w') := C
    have HC := Lib.hid C'
    obtain ⟨u, hu⟩ : ∃ u : Int, u = o + (j : Int) := ⟨_, rfl⟩
    rw [← hu] at HC h2
    have hu0 : 0 ≤ u := by omega
    have hu1 : u ≤ n := by omega
    clear C C' hR hr hb hu q3
    by_cases h3 : most < m
    · clear h2
      go_enter Try.func32, Try.ntmps32
      go_wp2_with (go_at_call 18; refine HC.out.mono ?_; rintro e w1 ⟨rfl, rfl⟩)
      go_ret3
      exact Fresh3.nil (Below.refl _ _) rfl
    · have h4 : (n : Int) - u < m := by omega
      have h3' : m ≤ most := by omega
      clear h2 h3
      go_enter Try.func32, Try.ntmps32
      go_wp2_with (go_at_call 18; refine HC.out.mono ?_; rintro e w1 ⟨rfl, rfl⟩)
      go_ret3
      exact Fresh3.nil (Below.refl _ _) rfl
set_option maxHeartbeats 1600000 in
theorem specReadBytes_some {w : World} {A : Option Addr} {n c : Nat} {zs ys : List Int} {o most r : Int} (hl : Hid (zs.length = n)) (hn : n ≤ 35184372088832) (hcap2 : n ≤ c) (hcm : c ≤ maxLen) (hr : Rd w w.heap.size A (bvs zs)) (hb : ∀ x ∈ zs, 0 ≤ x ∧ x ≤ 255)
    (hlo : -9223372036854775808 ≤ o) (hhi : o ≤ 9223372036854775807) (h : Hid (rbAt zs o most = some (ys, r))) :
    Calls Try.prog 32 #[.slice A n c, .int .i64 o, .int .i64 most] w (Fresh3 5 (bvs ys) (.int .i64 r) (.bool true) w) := by
  obtain ⟨i0, hi, hz0, hz1, hz2⟩ := info_parts ByteS_info
  unfold maxLen at hcm
  have C := specReadUvarint_any (c := c) hl (by omega) hr hb hlo hhi
  rcases hR : rvAt zs o with _ | ⟨m, j⟩
  · have := h.out
    unfold rbAt at this
    rw [hR] at this
    cases this
  · obtain ⟨q1, q2, q3, q4, q5, _, q6⟩ := uvr_rvAt zs o m j hb hR
    obtain ⟨p, rfl⟩ := Int.eq_ofNat_of_zero_le q1
    obtain ⟨k, rfl⟩ := Int.eq_ofNat_of_zero_le q4
    obtain ⟨u, hu⟩ : ∃ u : Nat, u = p + j := ⟨_, rfl⟩
    have h2 := h.out
    unfold rbAt at h2
    rw [hR] at h2
    simp only [hl.out, Int.toNat_natCast] at h2
    have hc : ¬ (most < (k : Int) ∨ (n : Int) - ((p : Int) + (j : Int)) < k) := fun hc => by rw [if_pos hc] at h2; cases h2
    rw [if_neg hc] at h2
    have h3 : (zs.drop u).take k = ys ∧ (u : Int) + k = r := by
      injection h2 with h2
      injection h2 with e1 e2
      exact ⟨by rw [hu]; exact e1, by omega⟩
    obtain ⟨h3, rfl⟩ := h3
    rw [hR] at C
    have C' : Calls Try.prog 18 #[.slice A n c, .int .i64 p] w (fun e w' => e = .returned (.tuple #[.int .i64 k, .int .i64 (u : Int), .bool true]) ∧ w = w') := by
      rw [hu]; exact C
    have HC := Lib.hid C'
    have hmost : (k : Int) ≤ most := by omega
    have hend : u + k ≤ n := by omega
    have hu0 : 0 < u := by omega
    have H3 := Lib.hid h3
    have hlu : (ys : List Int).length = k := by rw [← h3, List.length_take, List.length_drop, hl.out]; omega
    have HL := Lib.hid (show (bvs ys).length = k by rw [bvs_len, hlu])
    have hA : ∃ ad, A = some ad := by
      obtain ⟨ad, e, _⟩ := bvs_at hr (k := 0) (by rw [hl.out]; omega)
      exact ⟨ad, e⟩
    obtain ⟨ad, rfl⟩ := hA
    have hr2 : Rd w w.heap.size (some (ad.add u)) (bvs ys) := by
      have := hr.cut u k
      rwa [bvs_cut, h3] at this
    clear C C' hR hb hu q3 h2 h3 hc hlu h hr q1 q4
    have hrow0 := Row.made (w := w) w.heap.size #[] 0 5 (Nat.le_refl _) rfl (Nat.zero_le _)
    have hb0 : Below w.heap.size w (w.alloc (Obj.cells #[] 5)) := (Below.refl _ _).alloc (Nat.le_refl _) _
    have hr3 := hr2.below hb0
    clear hr2
    have hbound : (#[] : Array Value).toList.length + k ≤ maxLen ∧ ((#[] : Array Value).toList.length + k) * 1 ≤ 140737488355328 := by simp; unfold maxLen; omega
    have HB := Lib.hid hbound
    clear hbound
    by_cases hcu : c ≤ u
    · obtain rfl : c = u := by omega
      obtain rfl : k = 0 := by omega
      have hy : Hid (ys = []) := List.eq_nil_of_length_eq_zero (by have := HL.out; rwa [bvs_len] at this)
      have hr4 : Rd (w.alloc (Obj.cells #[] 5)) w.heap.size (some ad) (bvs ys) := by rw [hy.out]; exact Rd.nil
      clear hr3
      go_enter Try.func32, Try.ntmps32
      go_wp2_with (first
        | (go_at_call 18; refine HC.out.mono ?_; rintro e w1 ⟨rfl, rfl⟩)
        | (at_builtin; refine wpList_app rfl _ _ 22 rfl 5 i0 _ 1 Try.underlying22 hi hz0 hz1 hz2 rfl rfl rfl hrow0 HL.out hr4 (bvs_one ys) HB.out.1 HB.out.2 (by simp) ?_; intro v2 w2 hrow2 ho2))
      go_ret3
      exact ⟨v2, rfl, hrow2, hb0.trans (ho2.below (Nat.le_refl _) (by simp))⟩
    · have hcu' : ¬ c - u = 0 := by omega
      go_enter Try.func32, Try.ntmps32
      go_wp2_with (first
        | (go_at_call 18; refine HC.out.mono ?_; rintro e w1 ⟨rfl, rfl⟩)
        | (at_builtin; refine wpList_app rfl _ _ 22 rfl 5 i0 _ 1 Try.underlying22 hi hz0 hz1 hz2 rfl rfl rfl hrow0 (by have := HL.out; omega) hr3 (bvs_one ys) (by have := HB.out.1; omega) (by have := HB.out.2; omega) (by simp) ?_; intro v2 w2 hrow2 ho2))
      go_ret3
      exact ⟨v2, rfl, hrow2, hb0.trans (ho2.below (Nat.le_refl _) (by simp))⟩
set_option maxHeartbeats 1600000 in
theorem impReadBytes_none {w : World} {A : Option Addr} {n c : Nat} {zs : List Int} {o most : Int} (hl : Hid (zs.length = n)) (hn : n ≤ 35184372088832) (hcap : n ≤ c) (hr : Rd w w.heap.size A (bvs zs)) (hb : ∀ x ∈ zs, 0 ≤ x ∧ x ≤ 255)
    (hlo : -9223372036854775808 ≤ o) (hhi : o ≤ 9223372036854775807) (h : Hid (rbAt zs o most = none)) :
    Calls Try.prog 21 #[.slice A n c, .int .i64 o, .int .i64 most] w (Fresh3 5 (bvs []) (.int .i64 0) (.bool false) w) := by
  have C := impReadUvarint_any hl (by omega) hcap hr hb hlo hhi
  rcases hR : rvAt zs o with _ | ⟨m, j⟩
  · rw [hR] at C
    have C' : Calls Try.prog 15 #[.slice A n c, .int .i64 o] w (fun e w' => e = .returned (.tuple #[.int .i64 0, .int .i64 0, .bool false]) ∧ Below w.heap.size w w') := C
    have HC := Lib.hid C'
    clear C C' hR hr hb
    go_enter Try.func21, Try.ntmps21
    go_wp2_with (go_at_call 15; refine HC.out.mono ?_; rintro e w1 ⟨rfl, hb1⟩)
    go_ret3
    exact Fresh3.nil hb1 rfl
  · obtain ⟨q1, q2, q3, q4, q5, _, q6⟩ := uvr_rvAt zs o m j hb hR
    have h2 : most < m ∨ (n : Int) - (o + j) < m := by
      have := h.out
      unfold rbAt at this
      rw [hR] at this
      simp only [hl.out] at this
      by_cases hc : most < m ∨ (n : Int) - (o + j) < m
      · exact hc
      · rw [if_neg hc] at this; cases this
    rw [hl.out] at q3
    rw [hR] at C
    have C' : Calls Try.prog 15 #[.slice A n c, .int .i64 o] w (fun e w' => e = .returned (.tuple #[.int .i64 m, .int .i64 (o + (j : Int)), .bool true]) ∧ Below w.heap.size w w') := C
    have HC := Lib.hid C'
    obtain ⟨u, hu⟩ : ∃ u : Int, u = o + (j : Int) := ⟨_, rfl⟩
    rw [← hu] at HC h2
    have hu0 : 0 ≤ u := by omega
    have hu1 : u ≤ n := by omega
    clear C C' hR hr hb hu q3
    by_cases h3 : most < m
    · clear h2
      go_enter Try.func21, Try.ntmps21
      go_wp2_with (go_at_call 15; refine HC.out.mono ?_; rintro e w1 ⟨rfl, hb1⟩)
      go_ret3
      exact Fresh3.nil hb1 rfl
    · have h4 : (n : Int) - u < m := by omega
      have h3' : m ≤ most := by omega
      clear h2 h3
      go_enter Try.func21, Try.ntmps21
      go_wp2_with (go_at_call 15; refine HC.out.mono ?_; rintro e w1 ⟨rfl, hb1⟩)
      go_ret3
      exact Fresh3.nil hb1 rfl
set_option maxHeartbeats 1600000 in
theorem impReadBytes_some {w : World} {A : Option Addr} {n c : Nat} {zs ys : List Int} {o most r : Int} (hl : Hid (zs.length = n)) (hn : n ≤ 35184372088832) (hcap2 : n ≤ c) (hcm : c ≤ maxLen) (hr : Rd w w.heap.size A (bvs zs)) (hb : ∀ x ∈ zs, 0 ≤ x ∧ x ≤ 255)
    (hlo : -9223372036854775808 ≤ o) (hhi : o ≤ 9223372036854775807) (h : Hid (rbAt zs o most = some (ys, r))) :
    Calls Try.prog 21 #[.slice A n c, .int .i64 o, .int .i64 most] w (Fresh3 5 (bvs ys) (.int .i64 r) (.bool true) w) := by
  obtain ⟨i0, hi, hz0, hz1, hz2⟩ := info_parts ByteS_info
  unfold maxLen at hcm
  have C := impReadUvarint_any hl (by omega) hcap2 hr hb hlo hhi
  rcases hR : rvAt zs o with _ | ⟨m, j⟩
  · have := h.out
    unfold rbAt at this
    rw [hR] at this
    cases this
  · obtain ⟨q1, q2, q3, q4, q5, _, q6⟩ := uvr_rvAt zs o m j hb hR
    obtain ⟨p, rfl⟩ := Int.eq_ofNat_of_zero_le q1
    obtain ⟨k, rfl⟩ := Int.eq_ofNat_of_zero_le q4
    obtain ⟨u, hu⟩ : ∃ u : Nat, u = p + j := ⟨_, rfl⟩
    have h2 := h.out
    unfold rbAt at h2
    rw [hR] at h2
    simp only [hl.out, Int.toNat_natCast] at h2
    have hc : ¬ (most < (k : Int) ∨ (n : Int) - ((p : Int) + (j : Int)) < k) := fun hc => by rw [if_pos hc] at h2; cases h2
    rw [if_neg hc] at h2
    have h3 : (zs.drop u).take k = ys ∧ (u : Int) + k = r := by
      injection h2 with h2
      injection h2 with e1 e2
      exact ⟨by rw [hu]; exact e1, by omega⟩
    obtain ⟨h3, rfl⟩ := h3
    rw [hR] at C
    have C' : Calls Try.prog 15 #[.slice A n c, .int .i64 p] w (fun e w' => e = .returned (.tuple #[.int .i64 k, .int .i64 (u : Int), .bool true]) ∧ Below w.heap.size w w') := by
      rw [hu]; exact C
    have HC := Lib.hid C'
    have hmost : (k : Int) ≤ most := by omega
    have hend : u + k ≤ n := by omega
    have hu0 : 0 < u := by omega
    have H3 := Lib.hid h3
    have hlu : (ys : List Int).length = k := by rw [← h3, List.length_take, List.length_drop, hl.out]; omega
    have HL := Lib.hid (show (bvs ys).length = k by rw [bvs_len, hlu])
    have hA : ∃ ad, A = some ad := by
      obtain ⟨ad, e, _⟩ := bvs_at hr (k := 0) (by rw [hl.out]; omega)
      exact ⟨ad, e⟩
    obtain ⟨ad, rfl⟩ := hA
    have hr2 : Rd w w.heap.size (some (ad.add u)) (bvs ys) := by
      have := hr.cut u k
      rwa [bvs_cut, h3] at this
    clear C C' hR hb hu q3 h2 h3 hc hlu h hr q1 q4
    have HY := Lib.hid (show ys.length = k by have := HL.out; rwa [bvs_len] at this)
    by_cases hk0 : k = 0
    · subst hk0
      have hy : Hid (ys = []) := List.eq_nil_of_length_eq_zero HY.out
      have hr4 : ∀ W : World, Rd W W.heap.size (some ad) (bvs ys) := fun W => by rw [hy.out]; exact Rd.nil
      clear hr2
      go_enter Try.func21, Try.ntmps21
      go_wp2_with (first
        | (go_at_call 15; refine HC.out.mono ?_; rintro e w1 ⟨rfl, hb1⟩)
        | (go_at_call 46; refine (copyOfBytes_any HY (by omega) (hr4 _)).mono ?_; rintro e w2 ⟨v2, rfl, hrow2, hb2⟩))
      go_ret3
      exact ⟨v2, rfl, hrow2.wide hb1.size (Nat.le_refl _), hb1.trans (hb2.mono hb1.size)⟩
    · go_enter Try.func21, Try.ntmps21
      go_wp2_with (first
        | (go_at_call 15; refine HC.out.mono ?_; rintro e w1 ⟨rfl, hb1⟩)
        | (go_at_call 46; refine (copyOfBytes_any HY (by omega) ((hr2.below hb1).more hb1.size)).mono ?_; rintro e w2 ⟨v2, rfl, hrow2, hb2⟩))
      go_ret3
      exact ⟨v2, rfl, hrow2.wide hb1.size (Nat.le_refl _), hb1.trans (hb2.mono hb1.size)⟩
end Go.Proofs.Ytmjnlhejdjkoaaa
