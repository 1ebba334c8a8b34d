/- Contracts of FreeJudges, the model's and the code's. Condition: the slices have at most 10^12 elements. -/
import Derived.Test.YthjlfiaagkekoaaJudgeA
import Derived.Test.YthjlfiaagkekoaaOrdA
import Derived.Test.YthjlfiaagkekoaaInAllC
namespace Go.Proofs.Ythjlfiaagkekoaa
open Go.ChangeShapes Go.WideShapes Go.ChangeAt Go.RowKit
set_option maxRecDepth 100000
def frjL (X : List Jd) (S : List Int) : List Int := (X.filter fun j => !(S.contains j.id)).map Jd.id
theorem frj_yes {X : List Jd} {S : List Int} {k : Nat} (hk : k < X.length) (h : S.contains X[k].id = false) : frjL (X.take (k + 1)) S = frjL (X.take k) S ++ [X[k].id] := by
  unfold frjL
  rw [List.take_succ_eq_append_getElem hk, List.filter_append, List.map_append]
  simp only [List.filter_cons, h, Bool.not_false, if_true, List.filter_nil, List.map_cons, List.map_nil]
theorem frj_no {X : List Jd} {S : List Int} {k : Nat} (hk : k < X.length) (h : S.contains X[k].id = true) : frjL (X.take (k + 1)) S = frjL (X.take k) S := by
  unfold frjL
  rw [List.take_succ_eq_append_getElem hk, List.filter_append, List.map_append]
  simp only [List.filter_cons, h, Bool.not_true, Bool.false_eq_true, if_false, List.filter_nil, List.map_nil, List.append_nil]
theorem frj_len (X : List Jd) (S : List Int) (k : Nat) : (frjL (X.take k) S).length ≤ k := by
  unfold frjL
  rw [List.length_map]
  exact Nat.le_trans (List.length_filter_le _ _) (by simp; omega)
theorem ivs_snoc_l2 (L : List Int) (x : Int) : ivs (L ++ [x]) = ivs L ++ [.int .i64 x] := by simp [ivs]
set_option maxHeartbeats 2000000 in
theorem specFreeJudges_any {w : World} {A A' : Option Addr} {n c n' c' : Nat} {X : List Jd} {S : List Int} (hl : Hid (X.length = n)) (hn : n ≤ 1000000000000) (hl' : Hid (S.length = n')) (hn' : n' ≤ 1000000000000) (hr : RdJ w w.heap.size A X) (hr' : Rd w w.heap.size A' (ivs S)) :
    Calls Try.prog 45 #[.slice A n c, .slice A' n' c'] w (Fresh 3 (ivs (frjL X S)) w) := by
  obtain ⟨i0, hi, hz0, hz1, hz2⟩ := info_parts IntS_info
  have hrow0 := Row.made (w := w) w.heap.size #[] 0 3 (Nat.le_refl _) rfl (Nat.zero_le _)
  have hb0 : Below w.heap.size w (w.alloc (Obj.cells #[] 3)) := (Below.refl _ _).alloc (Nat.le_refl _) _
  go_enter Try.func45, Try.ntmps45
  go_wp2_with fail
  go_loopw [5, 6] (fun b i wr => ∃ k : Nat, k ≤ n ∧ i = .int .i64 k ∧ Row wr w.heap.size wr.heap.size 3 b (ivs (frjL (X.take k) S)) ∧ Below w.heap.size w wr) (fun _ i _ => n - (intOf i).toNat)
  case atStart => exact ⟨0, Nat.zero_le _, rfl, hrow0.wide (Nat.le_refl _) (by simp), hb0⟩
  case round =>
    obtain ⟨k, hk, rfl, hrow, hb⟩ := hrel
    have hsz := hb.size
    clear hrow0 hb0
    by_cases hlt : k < n
    · have hkz : k < X.length := by rw [hl.out]; exact hlt
      obtain ⟨ad, p, rfl, hp, hab, Aj, cj, c0, c1, c2, _, _, _⟩ := ((hr.below hb).more hsz).at_ hkz
      have hrs := (hr'.below hb).more hsz
      have i0' : (0 : Int) ≤ (k : Int) := by omega
      have i1 : (k : Int) < (n : Int) := by omega
      have HY := Lib.hid (fun h => frj_yes (S := S) hkz h)
      have HN := Lib.hid (fun h => frj_no (S := S) hkz h)
      obtain ⟨ys, hys⟩ : ∃ ys, ys = frjL (X.take k) S := ⟨_, rfl⟩
      have hyl : ys.length ≤ k := by rw [hys]; exact frj_len X S k
      obtain ⟨x, hx⟩ : ∃ x, x = X[k] := ⟨_, rfl⟩
      rw [← hx] at c0 c1 c2 HY HN
      rw [← hys] at hrow HY HN
      clear hx hys
      have hbx : Below wr.heap.size wr wr := Below.refl _ _
      obtain ⟨w0, hw0⟩ : ∃ w0, wr = w0 := ⟨_, rfl⟩
      have HW := Lib.hid hw0
      subst hw0
      have hrow1 := hrow.new hbx
      have hrs1 := (hrs.below hbx).more hbx.size
      have hb1 := hb.trans (hbx.mono hsz)
      have hsz1 := hb1.size
      obtain ⟨r, hre⟩ : ∃ r, S.contains x.id = r := ⟨_, rfl⟩
      have HR := Lib.hid hre
      clear hrow hrs hbx  hre
      cases r with
      | false =>
        have HS := Lib.hid (HY.out HR.out)
        have hbl : Below wr.heap.size wr (wr.alloc (Obj.cells #[Value.int .i64 x.id] 3)) := (Below.refl _ _).alloc (Nat.le_refl _) _
        have hrow2 := hrow1.new hbl
        have hmade := Rd.made wr #[Value.int .i64 x.id] 3
        have L : (ivs ys).length + 1 ≤ maxLen ∧ ((ivs ys).length + 1) * 8 ≤ 140737488355328 := by rw [ivs_len]; unfold maxLen; omega
        have L1 := Lib.hid L
        have HROW := Lib.hid hrow2
        have HM := Lib.hid hmade
        have HB1 := Lib.hid hb1
        clear L hrow1 hrow2 hmade
        go_wp2_with fail
        refine (l4h_any hl' (by omega) hrs1).mono ?_
        rintro e u9 ⟨rfl, rfl⟩
        rw [HR.out]
        go_wp2_with (at_builtin; refine wpList_app rfl (.tmp 22) (.tmp 28) 22 rfl 3 i0 _ 8 Try.underlying22 hi hz0 hz1 hz2 rfl rfl rfl HROW.out rfl HM.out (by simp [Value.oneCell']) L1.out.1 L1.out.2 (by simp; omega) ?_; intro v1 w1 hrow9 ho1)
        go_roundw
        case rel => exact ⟨k + 1, by omega, by go_num, by rw [HS.out, ivs_snoc_l2]; exact hrow9, HB1.out.trans ((hbl.mono hsz1).trans (ho1.below (Nat.le_refl _) (by simp; omega)))⟩
        case measure => simp [intOf]; omega
      | true =>
        have HS := Lib.hid (HN.out HR.out)
        have HROW := Lib.hid hrow1
        have HB1 := Lib.hid hb1
        clear hrow1
        go_wp2_with fail
        refine (l4h_any hl' (by omega) hrs1).mono ?_
        rintro e u9 ⟨rfl, rfl⟩
        rw [HR.out]
        go_wp2_with fail
        go_roundw
        case rel => exact ⟨k + 1, by omega, by go_num, by rw [HS.out]; exact HROW.out, HB1.out⟩
        case measure => simp [intOf]; omega
    · have e : k = n := by omega
      subst e
      have HF := Lib.hid hrow
      clear hrow
      go_wp2_with fail
      go_ret
      refine ⟨_, rfl, ?_, hb⟩
      have h := HF.out
      rw [List.take_of_length_le (by rw [hl.out]; exact Nat.le_refl _)] at h
      exact h
set_option maxHeartbeats 2000000 in
theorem impFreeJudges_any {w : World} {A A' : Option Addr} {n c n' c' : Nat} {X : List Jd} {S : List Int} (hl : Hid (X.length = n)) (hn : n ≤ 1000000000000) (hl' : Hid (S.length = n')) (hn' : n' ≤ 1000000000000) (hr : RdJ w w.heap.size A X) (hr' : Rd w w.heap.size A' (ivs S)) :
    Calls Try.prog 47 #[.slice A n c, .slice A' n' c'] w (Fresh 3 (ivs (frjL X S)) w) := by
  obtain ⟨i0, hi, hz0, hz1, hz2⟩ := info_parts IntS_info
  have hrow0 := Row.made (w := w) w.heap.size #[] 0 3 (Nat.le_refl _) rfl (Nat.zero_le _)
  have hb0 : Below w.heap.size w (w.alloc (Obj.cells #[] 3)) := (Below.refl _ _).alloc (Nat.le_refl _) _
  go_enter Try.func47, Try.ntmps47
  go_wp2_with fail
  go_loopw [5, 11] (fun b i wr => ∃ k : Nat, k ≤ n ∧ i = .int .i64 k ∧ Row wr w.heap.size wr.heap.size 3 b (ivs (frjL (X.take k) S)) ∧ Below w.heap.size w wr) (fun _ i _ => n - (intOf i).toNat)
  case atStart => exact ⟨0, Nat.zero_le _, rfl, hrow0.wide (Nat.le_refl _) (by simp), hb0⟩
  case round =>
    obtain ⟨k, hk, rfl, hrow, hb⟩ := hrel
    have hsz := hb.size
    clear hrow0 hb0
    by_cases hlt : k < n
    · have hkz : k < X.length := by rw [hl.out]; exact hlt
      obtain ⟨ad, p, rfl, hp, hab, Aj, cj, c0, c1, c2, _, _, _⟩ := ((hr.below hb).more hsz).at_ hkz
      have hrs := (hr'.below hb).more hsz
      have i0' : (0 : Int) ≤ (k : Int) := by omega
      have i1 : (k : Int) < (n : Int) := by omega
      have HY := Lib.hid (fun h => frj_yes (S := S) hkz h)
      have HN := Lib.hid (fun h => frj_no (S := S) hkz h)
      obtain ⟨ys, hys⟩ : ∃ ys, ys = frjL (X.take k) S := ⟨_, rfl⟩
      have hyl : ys.length ≤ k := by rw [hys]; exact frj_len X S k
      obtain ⟨x, hx⟩ : ∃ x, x = X[k] := ⟨_, rfl⟩
      rw [← hx] at c0 c1 c2 HY HN
      rw [← hys] at hrow HY HN
      clear hx hys
      have hbx : Below wr.heap.size wr (wr.alloc (Obj.cells #[Value.int .i64 x.id, .int .i64 x.club, .slice Aj x.seen.length cj] 92)) := (Below.refl _ _).alloc (Nat.le_refl _) _
      obtain ⟨w0, hw0⟩ : ∃ w0, wr.alloc (Obj.cells #[Value.int .i64 x.id, .int .i64 x.club, .slice Aj x.seen.length cj] 92) = w0 := ⟨_, rfl⟩
      have bx := Bx.made wr 92 #[Value.int .i64 x.id, .int .i64 x.club, .slice Aj x.seen.length cj]
      rw [hw0] at hbx bx
      have b0 : w0.cell? ⟨wr.heap.size, 0, none⟩ = some (.int .i64 x.id) := by rw [cell_of_row _ _ _ _ _ _ bx]; rfl
      have HW := Lib.hid hw0
      have hrow1 := hrow.new hbx
      have hrs1 := (hrs.below hbx).more hbx.size
      have hb1 := hb.trans (hbx.mono hsz)
      have hsz1 := hb1.size
      obtain ⟨r, hre⟩ : ∃ r, S.contains x.id = r := ⟨_, rfl⟩
      have HR := Lib.hid hre
      clear hrow hrs hbx hw0 bx hre
      cases r with
      | false =>
        have HS := Lib.hid (HY.out HR.out)
        have hbl : Below w0.heap.size w0 (w0.alloc (Obj.cells #[Value.int .i64 x.id] 3)) := (Below.refl _ _).alloc (Nat.le_refl _) _
        have hrow2 := hrow1.new hbl
        have hmade := Rd.made w0 #[Value.int .i64 x.id] 3
        have L : (ivs ys).length + 1 ≤ maxLen ∧ ((ivs ys).length + 1) * 8 ≤ 140737488355328 := by rw [ivs_len]; unfold maxLen; omega
        have L1 := Lib.hid L
        have HROW := Lib.hid hrow2
        have HM := Lib.hid hmade
        have HB1 := Lib.hid hb1
        clear L hrow1 hrow2 hmade
        go_wp2_with fail
        rw [HW.out]
        try (go_wp2_with fail)
        refine (contains_any' hl' (by omega) hrs1).mono ?_
        rintro e u9 ⟨rfl, rfl⟩
        rw [HR.out]
        go_wp2_with (at_builtin; refine wpList_app rfl (.tmp 20) (.tmp 23) 22 rfl 3 i0 _ 8 Try.underlying22 hi hz0 hz1 hz2 rfl rfl rfl HROW.out rfl HM.out (by simp [Value.oneCell']) L1.out.1 L1.out.2 (by simp; omega) ?_; intro v1 w1 hrow9 ho1)
        go_roundw
        case rel => exact ⟨k + 1, by omega, by go_num, by rw [HS.out, ivs_snoc_l2]; exact hrow9, HB1.out.trans ((hbl.mono hsz1).trans (ho1.below (Nat.le_refl _) (by simp; omega)))⟩
        case measure => simp [intOf]; omega
      | true =>
        have HS := Lib.hid (HN.out HR.out)
        have HROW := Lib.hid hrow1
        have HB1 := Lib.hid hb1
        clear hrow1
        go_wp2_with fail
        rw [HW.out]
        try (go_wp2_with fail)
        refine (contains_any' hl' (by omega) hrs1).mono ?_
        rintro e u9 ⟨rfl, rfl⟩
        rw [HR.out]
        go_wp2_with fail
        go_roundw
        case rel => exact ⟨k + 1, by omega, by go_num, by rw [HS.out]; exact HROW.out.wide (Nat.le_refl _) (by have := HB1.out.size; first | exact Nat.le_refl _ | (rw [← HW.out]; simp)), HB1.out⟩
        case measure => simp [intOf]; omega
    · have e : k = n := by omega
      subst e
      have HF := Lib.hid hrow
      clear hrow
      go_wp2_with fail
      go_ret
      refine ⟨_, rfl, ?_, hb⟩
      have h := HF.out
      rw [List.take_of_length_le (by rw [hl.out]; exact Nat.le_refl _)] at h
      exact h
end Go.Proofs.Ythjlfiaagkekoaa
