/- Contracts of AmendAll, the model's and the code's (chapter 30). Condition: the slices have at most 2^29 elements. -/
import Derived.Test.YteffhbboeacogaaAmdC
namespace Go.Proofs.Yteffhbboeacogaa
open Go.ChangeShapes Go.WideShapes Go.ChangeAt Go.RowKit
set_option maxRecDepth 100000
theorem amdL_le {T : List Int} {x : Am} {B : Nat} (h : T.length ≤ B) (hB : 60 ≤ B) : (amdL T x).length ≤ B := by
  cases q : mayA T.length x with
  | false => rw [amdL_no q]; exact h
  | true =>
    rw [amdL_ok q]
    have := mayA_iff.1 q
    unfold amdV
    rw [List.length_append, List.length_append, List.length_take, List.length_drop]
    omega
/-- The text behind all amendments, and how many were made. -/
def amaP (T : List Int) (L : List Am) : List Int × Nat := L.foldl (fun p x => (amdL p.1 x, if mayA p.1.length x then p.2 + 1 else p.2)) (T, 0)
theorem amaP_succ {T : List Int} {L : List Am} {k : Nat} (hk : k < L.length) : amaP T (L.take (k + 1)) = (amdL (amaP T (L.take k)).1 L[k], if mayA (amaP T (L.take k)).1.length L[k] then (amaP T (L.take k)).2 + 1 else (amaP T (L.take k)).2) := by
  unfold amaP
  rw [List.take_succ_eq_append_getElem hk, List.foldl_append]
  rfl
theorem amaP_le {T : List Int} {L : List Am} {B : Nat} (h : T.length ≤ B) (hB : 60 ≤ B) : ∀ k, k ≤ L.length → (amaP T (L.take k)).1.length ≤ B ∧ (amaP T (L.take k)).2 ≤ k
  | 0, _ => ⟨by simpa [amaP] using h, by simp [amaP]⟩
  | k + 1, hk => by
    rw [amaP_succ (by omega)]
    obtain ⟨h1, h2⟩ := amaP_le (L := L) h hB k (by omega)
    refine ⟨amdL_le h1 hB, ?_⟩
    show (if _ then _ else _) ≤ k + 1
    split
    · exact Nat.succ_le_succ h2
    · exact Nat.le_succ_of_le h2
def AllAmended (T : List Int) (L : List Am) (w : World) (e : Ending) (w' : World) : Prop := ∃ v, e = .returned (.tuple #[v, .int .i64 ((amaP T L).2 : Nat)]) ∧ Row w' w.heap.size w'.heap.size 3 v (ivs (amaP T L).1) ∧ Below w.heap.size w w'
section
variable {w : World} {A A' : Option Addr} {n c n' c' : Nat} {T : List Int} {L : List Am}
set_option maxHeartbeats 4000000 in
theorem specAmendAll_any (hl : Hid (T.length = n)) (hn : n ≤ 536870912) (hr : Rd w w.heap.size A (ivs T)) (hl' : Hid (L.length = n')) (hn' : n' ≤ 536870912) (hs : Hid (∀ x ∈ L, x.put.length ≤ 536870912)) (hr' : RdA w w.heap.size A' L) :
    Calls Try.prog 50 #[.slice A n c, .slice A' n' c'] w (AllAmended T L w) := by
  obtain ⟨ti, hti, hz0, hz1, hz2⟩ := info_parts IntS_info
  have b3 := alloc_a w (Obj.cells #[] 3)
  have HROW := Lib.hid (Row.made (w := w) w.heap.size #[] 0 3 (Nat.le_refl _) rfl (Nat.zero_le _))
  have HR := Lib.hid ((hr.below b3).more b3.size)
  have HB3 := Lib.hid b3
  have L1 := Lib.hid (show ([] : List Value).length + n ≤ maxLen ∧ (([] : List Value).length + n) * 8 ≤ 140737488355328 by unfold maxLen; simp; omega)
  have LN := Lib.hid (show (ivs T).length = n by rw [ivs_len]; exact hl.out)
  have HB := Lib.hid (fun (k : Nat) (hk : k ≤ L.length) => amaP_le (T := T) (L := L) (B := 1073741824) (by rw [hl.out]; omega) (by omega) k hk)
  clear b3
  go_enter Try.func50, Try.ntmps50
  go_wp2_with (at_builtin; (refine wpList_app rfl (.tmp 11) (.tmp 12) 24 rfl 3 ti _ 8 Try.underlying24 hti hz0 hz1 hz2 rfl rfl rfl HROW.out LN.out HR.out int_one L1.out.1 L1.out.2 (by simp) ?_; intro v1 w1 hrow1 ho1))
  have hb1 : Below w.heap.size w w1 := HB3.out.trans (ho1.below (Nat.le_refl _) (by simp))
  rw [List.nil_append] at hrow1
  have HROW1 := Lib.hid hrow1
  clear HROW HR HB3 L1 LN ho1 hrow1
  go_loopw [6, 7, 8] (fun v m i wr => ∃ k q : Nat, k ≤ n' ∧ i = .int .i64 k ∧ m = .int .i64 q ∧ q ≤ k ∧ Hid ((amaP T (L.take k)).2 = q) ∧ Hid (Row wr w.heap.size wr.heap.size 3 v (ivs (amaP T (L.take k)).1)) ∧ Below w.heap.size w wr) (fun _ _ i _ => n' - (intOf i).toNat)
  case atStart => exact ⟨0, 0, Nat.zero_le _, rfl, rfl, Nat.le_refl _, Lib.hid rfl, HROW1, hb1⟩
  case round =>
    obtain ⟨k, q, hk, rfl, rfl, hqk, hq, hrow, hb⟩ := hrel
    clear hb1 HROW1
    by_cases hlt : k < n'
    · have hkz : k < L.length := by rw [hl'.out]; exact hlt
      have hbk := (HB.out k (by omega)).1
      have HS := Lib.hid (amaP_succ (T := T) hkz)
      obtain ⟨ad, p, rfl, hp, hab, Aj, cj, h0, h1, h2, hle, hcm, hrd⟩ := ((hr'.below hb).more hb.size).at_ hkz
      have hxs := hs.out L[k] (List.getElem_mem hkz)
      obtain ⟨x, hx⟩ : ∃ x, x = L[k] := ⟨_, rfl⟩
      rw [← hx] at h0 h1 h2 hle hrd hxs HS
      obtain ⟨Z, hZ⟩ : ∃ Z, (amaP T (L.take k)).1 = Z := ⟨_, rfl⟩
      rw [hZ] at HS hbk hrow
      rw [hq.out] at HS
      obtain ⟨z, hz⟩ : ∃ z, Z.length = z := ⟨_, rfl⟩
      have HZL := Lib.hid hz
      rw [hz] at hbk HS
      obtain ⟨Av, cv, rfl, hrdv, hcv, hcvm⟩ := hrow.out.rd (n := z) (by rw [ivs_len]; exact hz)
      have i0 : (0 : Int) ≤ (k : Int) := by omega
      have i1 : (k : Int) < (n' : Int) := by omega
      have hsz := hb.size
      obtain ⟨m, hm⟩ : ∃ m, x.put.length = m := ⟨_, rfl⟩
      have HRV := Lib.hid hrdv
      have HRP := Lib.hid hrd
      cases b : mayA z x with
      | true =>
        have HN := Lib.hid (show amaP T (L.take (k + 1)) = (amdL Z x, q + 1) by rw [HS.out, b]; rfl)
        have HBQ := Lib.hid b
        clear b hx hZ hz hrow hrdv hrd hm
        go_wp2_with fail
        refine (specAmended_any (T := Z) (x := x) HZL (by omega) (by omega) hcv HRV.out HRP.out).mono ?_
        rintro e w2 ⟨v2, rfl, hr2, b2⟩
        rw [HBQ.out]
        have HR2 := Lib.hid (show Row w2 w.heap.size w2.heap.size 3 v2 (ivs (amaP T (L.take (k + 1))).1) by rw [HN.out]; exact hr2.wide hsz (Nat.le_refl _))
        have hb2 := hb.trans (b2.mono hsz)
        clear hr2 b2
        go_wp2_with fail
        go_roundw
        case rel => exact ⟨k + 1, q + 1, by omega, by go_num, by go_num, by omega, Lib.hid (by rw [HN.out]), HR2, hb2⟩
        case measure => simp [intOf]; omega
      | false =>
        have HN := Lib.hid (show amaP T (L.take (k + 1)) = (amdL Z x, q) by rw [HS.out, b]; rfl)
        have HBQ := Lib.hid b
        clear b hx hZ hz hrow hrdv hrd hm
        go_wp2_with fail
        refine (specAmended_any (T := Z) (x := x) HZL (by omega) (by omega) hcv HRV.out HRP.out).mono ?_
        rintro e w2 ⟨v2, rfl, hr2, b2⟩
        rw [HBQ.out]
        have HR2 := Lib.hid (show Row w2 w.heap.size w2.heap.size 3 v2 (ivs (amaP T (L.take (k + 1))).1) by rw [HN.out]; exact hr2.wide hsz (Nat.le_refl _))
        have hb2 := hb.trans (b2.mono hsz)
        clear hr2 b2
        go_wp2_with fail
        go_roundw
        case rel => exact ⟨k + 1, q, by omega, by go_num, by go_num, by omega, Lib.hid (by rw [HN.out]), HR2, hb2⟩
        case measure => simp [intOf]; omega
    · have e : k = n' := by omega
      subst e
      have HT := Lib.hid (show L.take k = L from List.take_of_length_le (by rw [hl'.out]; exact Nat.le_refl _))
      rw [HT.out] at hrow hq
      go_wp2_with fail
      go_ret2
      exact ⟨_, by rw [hq.out]; rfl, hrow.out, hb⟩
set_option maxHeartbeats 4000000 in
theorem impAmendAll_any (hl : Hid (T.length = n)) (hn : n ≤ 536870912) (hr : Rd w w.heap.size A (ivs T)) (hl' : Hid (L.length = n')) (hn' : n' ≤ 536870912) (hs : Hid (∀ x ∈ L, x.put.length ≤ 536870912)) (hr' : RdA w w.heap.size A' L) :
    Calls Try.prog 24 #[.slice A n c, .slice A' n' c'] w (AllAmended T L w) := by
  have HB := Lib.hid (fun (k : Nat) (hk : k ≤ L.length) => amaP_le (T := T) (L := L) (B := 1073741824) (by rw [hl.out]; omega) (by omega) k hk)
  go_enter Try.func24, Try.ntmps24
  go_wp2_with fail
  refine (clone_any (xs := T) hl (by omega) hr).mono ?_
  rintro e w1 ⟨v1, rfl, hrow1, hb1⟩
  have HROW1 := Lib.hid hrow1
  clear hrow1
  go_wp2_with fail
  go_loopw [6, 7, 14] (fun v m i wr => ∃ k q : Nat, k ≤ n' ∧ i = .int .i64 k ∧ m = .int .i64 q ∧ q ≤ k ∧ Hid ((amaP T (L.take k)).2 = q) ∧ Hid (Row wr w.heap.size wr.heap.size 3 v (ivs (amaP T (L.take k)).1)) ∧ Below w.heap.size w wr) (fun _ _ i _ => n' - (intOf i).toNat)
  case atStart => exact ⟨0, 0, Nat.zero_le _, rfl, rfl, Nat.le_refl _, Lib.hid rfl, HROW1, hb1⟩
  case round =>
    obtain ⟨k, q, hk, rfl, rfl, hqk, hq, hrow, hb⟩ := hrel
    clear hb1 HROW1
    by_cases hlt : k < n'
    · have hkz : k < L.length := by rw [hl'.out]; exact hlt
      have hbk := (HB.out k (by omega)).1
      have HS := Lib.hid (amaP_succ (T := T) hkz)
      obtain ⟨ad, p, rfl, hp, hab, Aj, cj, h0, h1, h2, hle, hcm, hrd⟩ := ((hr'.below hb).more hb.size).at_ hkz
      have hxs := hs.out L[k] (List.getElem_mem hkz)
      obtain ⟨x, hx⟩ : ∃ x, x = L[k] := ⟨_, rfl⟩
      rw [← hx] at h0 h1 h2 hle hrd hxs HS
      obtain ⟨Z, hZ⟩ : ∃ Z, (amaP T (L.take k)).1 = Z := ⟨_, rfl⟩
      rw [hZ] at HS hbk hrow
      rw [hq.out] at HS
      obtain ⟨z, hz⟩ : ∃ z, Z.length = z := ⟨_, rfl⟩
      have HZL := Lib.hid hz
      rw [hz] at hbk HS
      obtain ⟨Av, cv, rfl, hrdv, hcv, hcvm⟩ := hrow.out.rd (n := z) (by rw [ivs_len]; exact hz)
      have i0 : (0 : Int) ≤ (k : Int) := by omega
      have i1 : (k : Int) < (n' : Int) := by omega
      have hsz := hb.size
      have bx := Bx.made wr 26 #[Value.int .i64 x.loc, .int .i64 x.drp, .slice Aj x.put.length cj]
      have bA := alloc_a wr (Obj.cells #[Value.int .i64 x.loc, .int .i64 x.drp, .slice Aj x.put.length cj] 26)
      obtain ⟨W1, hW⟩ : ∃ W1, wr.alloc (Obj.cells #[Value.int .i64 x.loc, .int .i64 x.drp, .slice Aj x.put.length cj] 26) = W1 := ⟨_, rfl⟩
      rw [hW] at bx bA
      have HW := Lib.hid hW
      have HBX := Lib.hid bx
      have hb1 := hb.trans (bA.mono hsz)
      have sA := bA.size
      have HRV := Lib.hid ((hrdv.below bA).more sA)
      have HRP := Lib.hid ((hrd.below bA).more sA)
      have HRW := Lib.hid ((hrow.out.new bA).wide (Nat.le_refl _) sA)
      obtain ⟨b0, b1, b2⟩ := bx.k3
      cases b : mayA z x with
      | true =>
        have HN := Lib.hid (show amaP T (L.take (k + 1)) = (amdL Z x, q + 1) by rw [HS.out, b]; rfl)
        have HBQ := Lib.hid b
        have hm2 := mayA_iff.1 b
        obtain ⟨k2, hk2⟩ := Int.eq_ofNat_of_zero_le hm2.1.1
        obtain ⟨d, hd⟩ := Int.eq_ofNat_of_zero_le hm2.2.1.1
        have hkd : k2 + d ≤ z := by omega
        have HK := Lib.hid hk2
        have HD := Lib.hid hd
        have HA := Lib.hid (amdL_ok (T := Z) (x := x) (by rw [HZL.out]; exact b))
        clear b hx hZ hz hrow hrdv hrd hm2 hk2 hd hW bx bA
        go_upto_region 5 with fail
        rw [HW.out]
        go_wp2_with fail
        refine (impMayAmend_any (by omega) (by omega)).mono ?_
        rintro e w2 ⟨rfl, r2⟩
        rw [HBQ.out]
        obtain ⟨d0, d1, d2⟩ := (HBX.out.new r2).k3
        have hb2 := hb1.trans (r2.mono (by omega))
        have s2 := r2.size
        have HRV2 := Lib.hid ((HRV.out.below r2).more s2)
        have HRP2 := Lib.hid ((HRP.out.below r2).more s2)
        clear r2 b0 b1 b2
        go_wp2_with fail
        refine (amended_any (T := Z) (x := x) HZL (by omega) (by omega) hcv hcvm hle hcm HK HD hkd HRV2.out HRP2.out).mono ?_
        rintro e w3 ⟨v2, rfl, hr3, r3⟩
        have HR3 := Lib.hid (show Row w3 w.heap.size w3.heap.size 3 v2 (ivs (amaP T (L.take (k + 1))).1) by rw [HN.out, HA.out]; exact hr3.wide (by omega) (Nat.le_refl _))
        have hb3 := hb2.trans (r3.mono (by omega))
        clear hr3 r3
        go_wp2_with fail
        go_roundw
        case rel => exact ⟨k + 1, q + 1, by omega, by go_num, by go_num, by omega, Lib.hid (by rw [HN.out]), HR3, hb3⟩
        case measure => simp [intOf]; omega
      | false =>
        have HN := Lib.hid (show amaP T (L.take (k + 1)) = (Z, q) by rw [HS.out, b]; rw [amdL_no (by rw [HZL.out]; exact b)]; rfl)
        have HBQ := Lib.hid b
        clear b hx hZ hz hrow hrdv hrd hW bx bA
        go_upto_region 5 with fail
        rw [HW.out]
        go_wp2_with fail
        refine (impMayAmend_any (by omega) (by omega)).mono ?_
        rintro e w2 ⟨rfl, r2⟩
        rw [HBQ.out]
        have hb2 := hb1.trans (r2.mono (by omega))
        have HR3 := Lib.hid (show Row w2 w.heap.size w2.heap.size 3 (.slice Av z cv) (ivs (amaP T (L.take (k + 1))).1) by rw [HN.out]; exact (HRW.out.new r2).wide (Nat.le_refl _) r2.size)
        clear r2 b0 b1 b2
        go_wp2_with fail
        go_roundw
        case rel => exact ⟨k + 1, q, by omega, by go_num, by go_num, by omega, Lib.hid (by rw [HN.out]), HR3, hb2⟩
        case measure => simp [intOf]; omega
    · have e : k = n' := by omega
      subst e
      have HT := Lib.hid (show L.take k = L from List.take_of_length_le (by rw [hl'.out]; exact Nat.le_refl _))
      rw [HT.out] at hrow hq
      go_wp2_with fail
      go_ret2
      exact ⟨_, by rw [hq.out]; rfl, hrow.out, hb⟩
end
end Go.Proofs.Yteffhbboeacogaa
