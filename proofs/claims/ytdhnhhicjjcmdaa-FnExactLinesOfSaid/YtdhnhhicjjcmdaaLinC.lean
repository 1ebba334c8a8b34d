/- Contracts of LastSeal and LinesOf, the models' and the code's (chapter 27), and of the code's lastLine. Condition: the slice has at most 2^40 elements. -/
import Derived.Test.YtdhnhhicjjcmdaaLineA
import Derived.Test.YtdhnhhicjjcmdaaBxK
import Derived.Deep.DeepCutAuto
import Derived.Test.YtdhnhhicjjcmdaaFrjI
import Derived.Test.YtdhnhhicjjcmdaaInts
namespace Go.Proofs.Ytdhnhhicjjcmdaa
open Go.ChangeShapes Go.WideShapes Go.ChangeAt Go.RowKit
set_option maxRecDepth 100000
theorem alloc_l (w : World) (o : Obj) : Below w.heap.size w (w.alloc o) := (Below.refl _ _).alloc (Nat.le_refl _) _
/-- The last line, or the zero line. -/
def lastV (X : List Lin) : Lin := X.getLast?.getD (0, 0, 0, 0)
theorem lastV_nil : lastV [] = (0, 0, 0, 0) := rfl
theorem lastV_at {X : List Lin} {k : Nat} (h : X.length = k + 1) : lastV X = X[k]'(by omega) := by
  unfold lastV
  rw [List.getLast?_eq_getElem?]
  simp [h]
def linN (X : List Lin) (a : Int) : List Int := (X.filter fun x => x.2.2.1 == a).map (·.1)
theorem linN_succ {X : List Lin} {a : Int} {k : Nat} (hk : k < X.length) : linN (X.take (k + 1)) a = linN (X.take k) a ++ (if X[k].2.2.1 == a then [X[k].1] else []) := by
  unfold linN
  rw [List.take_succ_eq_append_getElem hk, List.filter_append, List.map_append]
  congr 1
  by_cases h : X[k].2.2.1 == a <;> simp [h]
theorem linN_len (X : List Lin) (a : Int) (k : Nat) : (linN (X.take k) a).length ≤ k := by
  unfold linN
  rw [List.length_map]
  exact Nat.le_trans (List.length_filter_le _ _) (by rw [List.length_take]; exact Nat.min_le_left _ _)
section
variable {w : World} {A : Option Addr} {n c : Nat} {X : List Lin}
set_option maxHeartbeats 1000000 in
theorem lastLine_any (hl : Hid (X.length = n)) (hn : n ≤ 1099511627776) (hr : Rd w w.heap.size A (flE linE X)) :
    Calls Try.prog 48 #[.slice A n c] w (fun e w' => e = .returned (linV (lastV X)) ∧ Below w.heap.size w w') := by
  cases n with
  | zero =>
    have hX : X = [] := List.eq_nil_of_length_eq_zero hl.out
    subst hX
    go_enter Try.func48, Try.ntmps48
    go_wp2_with fail
    refine bodyPost_ret (v := .agg #[.int .i64 0, .int .i64 0, .int .i64 0, .int .i64 0]) (by simp [results, Try.results48, go_sem]) rfl ⟨rfl, ?_⟩
    exact alloc_l _ _
  | succ k =>
    have HV := Lib.hid (lastV_at hl.out)
    have hkz : k < X.length := by rw [hl.out]; omega
    obtain ⟨ad, p, rfl, hp, hab, h0, h1, h2, h3⟩ := lin_cells hr hkz
    obtain ⟨x, hx⟩ : ∃ x, x = X[k] := ⟨_, rfl⟩
    rw [← hx] at h0 h1 h2 h3 HV
    have ww := IntWalk.i64_in ((k : Int) + 1) (by omega)
    have i0 : (0 : Int) ≤ (k : Int) := by omega
    have hne : ((k : Int) + 1 == 0) = false := by simpa using (show ¬ (k : Int) + 1 = 0 by omega)
    have w1 := IntWalk.i64_in (k : Int) (by omega)
    have e1 : ((k : Int) + 1) - 1 = (k : Int) := by omega
    clear hx
    go_enter Try.func48, Try.ntmps48
    go_wp2_with fail
    refine bodyPost_ret (v := linV x) (by simp [results, Try.results48, go_sem]) rfl ⟨by rw [HV.out], ?_⟩
    exact alloc_l _ _
theorem impLastSeal_any (hl : Hid (X.length = n)) (hn : n ≤ 1099511627776) (hr : Rd w w.heap.size A (flE linE X)) :
    Calls Try.prog 35 #[.slice A n c] w (fun e w' => e = .returned (.int .i64 (lastV X).2.2.2) ∧ Below w.heap.size w w') := by
  obtain ⟨x, hx⟩ : ∃ x, lastV X = x := ⟨_, rfl⟩
  have HX := Lib.hid hx
  rw [hx]
  clear hx
  have i3 : ∀ W, (Instr.field 67 (linV x) 3).run Try.prog W = .ok (.int .i64 x.2.2.2) W := fun _ => by kernel_rfl
  go_enter Try.func35, Try.ntmps35
  go_wp2_with fail
  refine (lastLine_any hl hn hr).mono ?_
  rintro e w1 ⟨rfl, b1⟩
  rw [HX.out]
  go_wp2_with fail
  go_ret
  exact ⟨rfl, b1⟩
theorem specLastSeal_any (hl : Hid (X.length = n)) (hn : n ≤ 1099511627776) (hr : Rd w w.heap.size A (flE linE X)) :
    Calls Try.prog 33 #[.slice A n c] w (fun e w' => e = .returned (.int .i64 (lastV X).2.2.2) ∧ Below w.heap.size w w') := by
  cases n with
  | zero =>
    have hX : X = [] := List.eq_nil_of_length_eq_zero hl.out
    subst hX
    go_enter Try.func33, Try.ntmps33
    go_wp2_with fail
    go_ret
    exact ⟨rfl, Below.refl _ _⟩
  | succ k =>
    have HV := Lib.hid (lastV_at hl.out)
    have hkz : k < X.length := by rw [hl.out]; omega
    obtain ⟨ad, p, rfl, hp, hab, h0, h1, h2, h3⟩ := lin_cells hr hkz
    obtain ⟨x, hx⟩ : ∃ x, x = X[k] := ⟨_, rfl⟩
    rw [← hx] at h0 h1 h2 h3 HV
    have ww := IntWalk.i64_in ((k : Int) + 1) (by omega)
    have i0 : (0 : Int) ≤ (k : Int) := by omega
    have hne : ((k : Int) + 1 == 0) = false := by simpa using (show ¬ (k : Int) + 1 = 0 by omega)
    have w1 := IntWalk.i64_in (k : Int) (by omega)
    clear hx
    go_enter Try.func33, Try.ntmps33
    go_wp2_with fail
    go_ret
    exact ⟨by rw [HV.out]; rfl, Below.refl _ _⟩
set_option maxHeartbeats 2000000 in
theorem specLinesOf_any {a : Int} (hl : Hid (X.length = n)) (hn : n ≤ 1099511627776) (hr : Rd w w.heap.size A (flE linE X)) :
    Calls Try.prog 37 #[.slice A n c, .int .i64 a] w (fun e w' => ∃ v, e = .returned v ∧ Row w' w.heap.size w'.heap.size 3 v (ivs (linN X a)) ∧ Below w.heap.size w w') := by
  obtain ⟨i0, hi, hz0, hz1, hz2⟩ := info_parts IntS_info
  have HROW0 := Lib.hid ((Row.made (w := w) w.heap.size #[] 0 3 (Nat.le_refl _) rfl (Nat.zero_le _)).wide (Nat.le_refl _) (hi' := (w.alloc (Obj.cells #[] 3)).heap.size) (by simp))
  have hb0 := alloc_l w (Obj.cells #[] 3)
  go_enter Try.func37, Try.ntmps37
  go_wp2_with fail
  go_loopw [5, 6] (fun v i wr => ∃ k : Nat, k ≤ n ∧ i = .int .i64 k ∧ Hid (Row wr w.heap.size wr.heap.size 3 v (ivs (linN (X.take k) a))) ∧ Below w.heap.size w wr) (fun _ i _ => n - (intOf i).toNat)
  case atStart => exact ⟨0, Nat.zero_le _, rfl, Lib.hid HROW0.out, hb0⟩
  case round =>
    obtain ⟨k, hk, rfl, hrow, hb⟩ := hrel
    clear hb0 HROW0
    by_cases hlt : k < n
    · have hkz : k < X.length := by rw [hl.out]; exact hlt
      obtain ⟨ad, p, rfl, hp, hab, h0, h1, h2, h3⟩ := lin_cells ((hr.below hb).more hb.size) hkz
      have i0' : (0 : Int) ≤ (k : Int) := by omega
      have i1 : (k : Int) < (n : Int) := by omega
      have HS := Lib.hid (linN_succ (a := a) hkz)
      obtain ⟨x, hx⟩ : ∃ x, x = X[k] := ⟨_, rfl⟩
      rw [← hx] at h0 h1 h2 h3 HS
      clear hx
      by_cases q : x.2.2.1 = a
      · have q' : (x.2.2.1 == a) = true := by simpa using q
        have HN := Lib.hid (show linN (X.take (k + 1)) a = linN (X.take k) a ++ [x.1] by rw [HS.out, if_pos q'])
        have hsz := hb.size
        have b1 := alloc_l wr (Obj.cells #[.int .i64 x.1] 3)
        have HRW := Lib.hid ((hrow.out.new b1))
        have HMADE := Lib.hid (show Rd _ _ _ (ivs [x.1]) from Rd.made wr #[.int .i64 x.1] 3)
        have HB1 := Lib.hid (hb.trans (b1.mono hsz))
        have L1 := Lib.hid (show (ivs (linN (X.take k) a)).length + 1 ≤ maxLen ∧ ((ivs (linN (X.take k) a)).length + 1) * 8 ≤ 140737488355328 by have := linN_len X a k; rw [ivs_len]; unfold maxLen; omega)
        clear q b1
        go_wp2_with (at_builtin; (refine wpList_app rfl (.tmp 21) (.tmp 27) 32 rfl 3 i0 _ 8 Try.underlying32 hi hz0 hz1 hz2 rfl rfl rfl HRW.out rfl HMADE.out int_one L1.out.1 L1.out.2 (by simp; omega) ?_; intro v1 w1 hrow1 ho1))
        rw [show ivs (linN (X.take k) a) ++ ivs [x.1] = ivs (linN (X.take k) a ++ [x.1]) from (ivs_sn _ _).symm, ← HN.out] at hrow1
        have hb1 := HB1.out.trans (ho1.below (Nat.le_refl _) (by simp; omega))
        go_roundw
        case rel => exact ⟨k + 1, by omega, by go_num, Lib.hid hrow1, hb1⟩
        case measure => simp [intOf]; omega
      · have q' : (x.2.2.1 == a) = false := by simpa using q
        have HN := Lib.hid (show linN (X.take (k + 1)) a = linN (X.take k) a by rw [HS.out, q']; simp)
        clear q
        go_wp2_with fail
        go_roundw
        case rel => exact ⟨k + 1, by omega, by go_num, by rw [HN.out]; exact hrow, hb⟩
        case measure => simp [intOf]; omega
    · have e : k = n := by omega
      subst e
      have HT := Lib.hid (show X.take k = X from List.take_of_length_le (by rw [hl.out]; exact Nat.le_refl _))
      rw [HT.out] at hrow
      go_wp2_with fail
      go_ret
      exact ⟨_, rfl, hrow.out, hb⟩
set_option maxHeartbeats 2000000 in
theorem impLinesOf_any {a : Int} (hl : Hid (X.length = n)) (hn : n ≤ 1099511627776) (hr : Rd w w.heap.size A (flE linE X)) :
    Calls Try.prog 38 #[.slice A n c, .int .i64 a] w (fun e w' => ∃ v, e = .returned v ∧ Row w' w.heap.size w'.heap.size 3 v (ivs (linN X a)) ∧ Below w.heap.size w w') := by
  obtain ⟨i0, hi, hz0, hz1, hz2⟩ := info_parts IntS_info
  have HROW0 := Lib.hid ((Row.made (w := w) w.heap.size #[] 0 3 (Nat.le_refl _) rfl (Nat.zero_le _)).wide (Nat.le_refl _) (hi' := (w.alloc (Obj.cells #[] 3)).heap.size) (by simp))
  have hb0 := alloc_l w (Obj.cells #[] 3)
  go_enter Try.func38, Try.ntmps38
  go_wp2_with fail
  go_loopw [5, 11] (fun v i wr => ∃ k : Nat, k ≤ n ∧ i = .int .i64 k ∧ Hid (Row wr w.heap.size wr.heap.size 3 v (ivs (linN (X.take k) a))) ∧ Below w.heap.size w wr) (fun _ i _ => n - (intOf i).toNat)
  case atStart => exact ⟨0, Nat.zero_le _, rfl, Lib.hid HROW0.out, hb0⟩
  case round =>
    obtain ⟨k, hk, rfl, hrow, hb⟩ := hrel
    clear hb0 HROW0
    by_cases hlt : k < n
    · have hkz : k < X.length := by rw [hl.out]; exact hlt
      obtain ⟨ad, p, rfl, hp, hab, h0, h1, h2, h3⟩ := lin_cells ((hr.below hb).more hb.size) hkz
      have i0' : (0 : Int) ≤ (k : Int) := by omega
      have i1 : (k : Int) < (n : Int) := by omega
      have HS := Lib.hid (linN_succ (a := a) hkz)
      obtain ⟨x, hx⟩ : ∃ x, x = X[k] := ⟨_, rfl⟩
      rw [← hx] at h0 h1 h2 h3 HS
      have hsz := hb.size
      have bx := Bx.made wr 67 #[.int .i64 x.1, .int .i64 x.2.1, .int .i64 x.2.2.1, .int .i64 x.2.2.2]
      have bA := alloc_l wr (Obj.cells #[.int .i64 x.1, .int .i64 x.2.1, .int .i64 x.2.2.1, .int .i64 x.2.2.2] 67)
      obtain ⟨W1, hW⟩ : ∃ W1, wr.alloc (Obj.cells #[.int .i64 x.1, .int .i64 x.2.1, .int .i64 x.2.2.1, .int .i64 x.2.2.2] 67) = W1 := ⟨_, rfl⟩
      rw [hW] at bx bA
      obtain ⟨b0, b1, b2, b3⟩ := bx.k4
      have HW := Lib.hid hW
      have sA := bA.size
      have HBA := Lib.hid (hb.trans (bA.mono hsz))
      have HRA := Lib.hid ((hrow.out.new bA).wide (Nat.le_refl _) sA)
      clear hx hW bx bA
      by_cases q : x.2.2.1 = a
      · have q' : (x.2.2.1 == a) = true := by simpa using q
        have HN := Lib.hid (show linN (X.take (k + 1)) a = linN (X.take k) a ++ [x.1] by rw [HS.out, if_pos q'])
        have b9 := alloc_l W1 (Obj.cells #[.int .i64 x.1] 3)
        have HRW := Lib.hid ((HRA.out.new b9))
        have HMADE := Lib.hid (show Rd _ _ _ (ivs [x.1]) from Rd.made W1 #[.int .i64 x.1] 3)
        have HB1 := Lib.hid (HBA.out.trans (b9.mono (by omega)))
        have L1 := Lib.hid (show (ivs (linN (X.take k) a)).length + 1 ≤ maxLen ∧ ((ivs (linN (X.take k) a)).length + 1) * 8 ≤ 140737488355328 by have := linN_len X a k; rw [ivs_len]; unfold maxLen; omega)
        clear q b9
        go_upto_region 5 with fail
        rw [HW.out]
        go_wp2_with (at_builtin; (refine wpList_app rfl (.tmp 19) (.tmp 22) 32 rfl 3 i0 _ 8 Try.underlying32 hi hz0 hz1 hz2 rfl rfl rfl HRW.out rfl HMADE.out int_one L1.out.1 L1.out.2 (by simp; omega) ?_; intro v1 w1 hrow1 ho1))
        rw [show ivs (linN (X.take k) a) ++ ivs [x.1] = ivs (linN (X.take k) a ++ [x.1]) from (ivs_sn _ _).symm, ← HN.out] at hrow1
        have hb1 := HB1.out.trans (ho1.below (Nat.le_refl _) (by simp; omega))
        go_roundw
        case rel => exact ⟨k + 1, by omega, by go_num, Lib.hid hrow1, hb1⟩
        case measure => simp [intOf]; omega
      · have q' : (x.2.2.1 == a) = false := by simpa using q
        have HN := Lib.hid (show linN (X.take (k + 1)) a = linN (X.take k) a by rw [HS.out, q']; simp)
        clear q
        go_upto_region 5 with fail
        rw [HW.out]
        go_wp2_with fail
        go_roundw
        case rel => exact ⟨k + 1, by omega, by go_num, by rw [HN.out]; exact Lib.hid HRA.out, HBA.out⟩
        case measure => simp [intOf]; omega
    · have e : k = n := by omega
      subst e
      have HT := Lib.hid (show X.take k = X from List.take_of_length_le (by rw [hl.out]; exact Nat.le_refl _))
      rw [HT.out] at hrow
      go_wp2_with fail
      go_ret
      exact ⟨_, rfl, hrow.out, hb⟩
end
end Go.Proofs.Ytdhnhhicjjcmdaa
