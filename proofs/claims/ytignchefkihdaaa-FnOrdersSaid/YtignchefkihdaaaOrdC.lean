/- Contracts of CountOf and IsFairOrder, the models' and the code's (chapter 15). Conditions: ints of 64 bits; the slices have at most 2^40 elements. -/
import Derived.Test.YtignchefkihdaaaSpk
namespace Go.Proofs.Ytignchefkihdaaa
open Go.ChangeShapes Go.WideShapes Go.ChangeAt Go.RowKit
set_option maxRecDepth 100000
theorem cnt_snoc (o s : List Int) {k : Nat} (hk : k < o.length) : cntO (o.take (k + 1)) s = cntO (o.take k) s + if s.contains o[k] then 1 else 0 := by
  unfold cntO
  rw [List.take_succ_eq_append_getElem hk, List.filter_append, List.length_append]
  cases h : s.contains o[k]
  · rw [List.filter_cons, h]; simp
  · rw [List.filter_cons, h]; simp
theorem sumO_snoc (a o : List Int) {k : Nat} (hk : k < o.length) : sumO a o (k + 1) = sumO a o k + if a.contains o[k] then 1 else -1 := by
  unfold sumO
  rw [List.take_succ_eq_append_getElem hk, List.foldl_append]
  rfl
theorem fair_no {o a : List Int} {k : Nat} (hk : k < o.length) (h : inr (sumO a o (k + 1)) (-1) 1 = false) : fairB o a = false := by
  unfold fairB
  rw [List.all_eq_false]
  exact ⟨k, List.mem_range.2 hk, by simp [h]⟩
theorem fair_snoc {o a : List Int} {k : Nat} (h : (List.range k).all (fun k => inr (sumO a o (k + 1)) (-1) 1) = true) (h2 : inr (sumO a o (k + 1)) (-1) 1 = true) : (List.range (k + 1)).all (fun k => inr (sumO a o (k + 1)) (-1) 1) = true := by
  rw [List.range_succ, List.all_append, h, List.all_cons, h2]
  rfl
theorem inr_one {t : Int} (h : inr t (-1) 1 = true) : -1 ≤ t ∧ t ≤ 1 := by
  unfold inr at h
  simpa using h
theorem rdSS_one {w : World} {x : List Int} {A1 : Option Addr} {c1 : Nat} (h1 : Rd w w.heap.size A1 (ivs x)) (m1 : x.length ≤ c1) (k1 : c1 ≤ maxLen) :
    RdSS (w.alloc (Obj.cells #[.slice A1 x.length c1] 25)) (w.heap.size + 1) (some ⟨w.heap.size, 0, none⟩) [x] := by
  have hb : Below w.heap.size w (w.alloc (Obj.cells #[.slice A1 x.length c1] 25)) := (Below.refl _ _).alloc (Nat.le_refl _) _
  have hm := Rd.made w #[.slice A1 x.length c1] 25
  intro k z hz
  match k, hz with
  | 0, hz =>
    simp at hz
    subst hz
    obtain ⟨ad, e, hl, hc⟩ := hm 0 _ rfl
    exact ⟨ad, A1, c1, e, hl, hc, m1, k1, (h1.below hb).more (Nat.le_succ _)⟩
  | k + 1, hz => simp at hz
set_option maxHeartbeats 4000000 in
theorem impCountOf_any {w : World} {A A' : Option Addr} {n c c' : Nat} {S Z : List Int} (hl : Hid (S.length = n)) (hn : n ≤ 1099511627776) (hn' : Z.length ≤ 1099511627776) (hr : Rd w w.heap.size A (ivs S)) (hr' : Rd w w.heap.size A' (ivs Z)) (hI : Hid (∀ a ∈ S, InI a)) (hJ : Hid (∀ a ∈ Z, InI a)) (hc : Z.length ≤ c') (hm : c' ≤ maxLen) :
    Calls Try.prog 48 #[.slice A n c, .slice A' Z.length c'] w (fun e w' => e = .returned (.int .i64 (cntO S Z)) ∧ Below w.heap.size w w') := by
  have hb1 : Below w.heap.size w (w.alloc (Obj.cells #[.slice A' Z.length c'] 25)) := (Below.refl _ _).alloc (Nat.le_refl _) _
  have hr2 := rdSS_one hr' hc hm
  obtain ⟨W1, hW⟩ : ∃ v : World, v = w.alloc (Obj.cells #[.slice A' Z.length c'] 25) := ⟨_, rfl⟩
  have hsz : W1.heap.size = w.heap.size + 1 := by rw [hW]; simp
  rw [← hW] at hb1 hr2
  rw [← hsz] at hr2
  have HW := Lib.hid hW.symm
  have HR2 := Lib.hid hr2
  clear hW hr2 hsz hr' hc hm
  go_enter Try.func48, Try.ntmps48
  go_wp2_with fail
  rw [HW.out]
  refine (speakersOf_any (X := [Z]) (n := 1) (Lib.hid rfl) (by omega) (Lib.hid (by intro x hx; rw [List.mem_singleton] at hx; subst hx; exact hJ.out)) (Lib.hid (by simpa using hn')) HR2.out).mono ?_
  rintro e w2 ⟨rfl, hmm, r⟩
  rw [List.flatten_singleton] at hmm
  have hb2 := hb1.trans (r.mono hb1.size)
  have hrw := hr.below hb2
  go_wp2_with fail
  go_loopw [6, 14] (fun s i wr => ∃ (k : Nat) (t : Int), k ≤ n ∧ i = .int .i64 k ∧ s = .int .i64 t ∧ Hid (t = cntO (S.take k) Z) ∧ (0 ≤ t ∧ t ≤ (k : Int)) ∧ wr = w2) (fun _ i _ => n - (intOf i).toNat)
  case atStart => exact ⟨0, 0, Nat.zero_le _, rfl, rfl, Lib.hid rfl, by omega, rfl⟩
  case round =>
    obtain ⟨k, t, hk, rfl, rfl, ht, htb, rfl⟩ := hrel
    by_cases hlt : k < n
    · have hkz : k < S.length := by rw [hl.out]; exact hlt
      obtain ⟨ad, rfl, hab, hc0⟩ := ivs_at hrw hkz
      have HS := Lib.hid (cnt_snoc S Z hkz)
      have ha := hI.out S[k] (List.getElem_mem _)
      obtain ⟨x, hx⟩ : ∃ x, x = S[k] := ⟨_, rfl⟩
      have i0 : (0 : Int) ≤ (k : Int) := by omega
      have i1 : (k : Int) < (n : Int) := by omega
      rw [← hx] at hc0 HS ha
      have w1 := IntWalk.i64_in (t + 1) (by omega)
      clear hx
      have hlk := hmm.look ha
      cases hz : Z.contains x with
      | true =>
        rw [hz] at hlk
        rw [hz] at HS
        have HV := Lib.hid (show cntO (S.take (k + 1)) Z = t + 1 by rw [HS.out, ht.out]; simp)
        clear hz
        go_wp2_with fail
        go_roundw
        case rel => exact ⟨k + 1, t + 1, by omega, by go_num, by first | rfl | go_num, Lib.hid HV.out.symm, by omega, trivial⟩
        case measure => simp [intOf]; omega
      | false =>
        rw [hz] at hlk
        rw [hz] at HS
        have HV := Lib.hid (show cntO (S.take (k + 1)) Z = t by rw [HS.out, ht.out]; simp)
        clear hz
        go_wp2_with fail
        go_roundw
        case rel => exact ⟨k + 1, t, by omega, by go_num, by first | rfl | go_num, Lib.hid HV.out.symm, by omega, trivial⟩
        case measure => simp [intOf]; omega
    · have e : k = n := by omega
      subst e
      have HT := Lib.hid (show t = cntO S Z by rw [ht.out, List.take_of_length_le (by rw [hl.out]; exact Nat.le_refl _)])
      go_wp2_with fail
      go_ret
      exact ⟨ret_i HT.out, hb2⟩
set_option maxHeartbeats 4000000 in
theorem impIsFairOrder_any {w : World} {A A' : Option Addr} {n c c' : Nat} {S Z : List Int} (hl : Hid (S.length = n)) (hn : n ≤ 1099511627776) (hn' : Z.length ≤ 1099511627776) (hr : Rd w w.heap.size A (ivs S)) (hr' : Rd w w.heap.size A' (ivs Z)) (hI : Hid (∀ a ∈ S, InI a)) (hJ : Hid (∀ a ∈ Z, InI a)) (hc : Z.length ≤ c') (hm : c' ≤ maxLen) :
    Calls Try.prog 49 #[.slice A n c, .slice A' Z.length c'] w (fun e w' => e = .returned (.bool (fairB S Z)) ∧ Below w.heap.size w w') := by
  have hb1 : Below w.heap.size w (w.alloc (Obj.cells #[.slice A' Z.length c'] 25)) := (Below.refl _ _).alloc (Nat.le_refl _) _
  have hr2 := rdSS_one hr' hc hm
  obtain ⟨W1, hW⟩ : ∃ v : World, v = w.alloc (Obj.cells #[.slice A' Z.length c'] 25) := ⟨_, rfl⟩
  have hsz : W1.heap.size = w.heap.size + 1 := by rw [hW]; simp
  rw [← hW] at hb1 hr2
  rw [← hsz] at hr2
  have HW := Lib.hid hW.symm
  have HR2 := Lib.hid hr2
  clear hW hr2 hsz hr' hc hm
  go_enter Try.func49, Try.ntmps49
  go_wp2_with fail
  rw [HW.out]
  refine (speakersOf_any (X := [Z]) (n := 1) (Lib.hid rfl) (by omega) (Lib.hid (by intro x hx; rw [List.mem_singleton] at hx; subst hx; exact hJ.out)) (Lib.hid (by simpa using hn')) HR2.out).mono ?_
  rintro e w2 ⟨rfl, hmm, r⟩
  rw [List.flatten_singleton] at hmm
  have hb2 := hb1.trans (r.mono hb1.size)
  have hrw := hr.below hb2
  go_wp2_with fail
  go_loopw [6, 14] (fun s i wr => ∃ (k : Nat) (t : Int), k ≤ n ∧ i = .int .i64 k ∧ s = .int .i64 t ∧ Hid (t = sumO Z S k ∧ (List.range k).all (fun k => inr (sumO Z S (k + 1)) (-1) 1) = true) ∧ (-1 ≤ t ∧ t ≤ 1) ∧ wr = w2) (fun _ i _ => n - (intOf i).toNat)
  case atStart => exact ⟨0, 0, Nat.zero_le _, rfl, rfl, Lib.hid ⟨rfl, rfl⟩, by omega, rfl⟩
  case round =>
    obtain ⟨k, t, hk, rfl, rfl, ht, htb, rfl⟩ := hrel
    by_cases hlt : k < n
    · have hkz : k < S.length := by rw [hl.out]; exact hlt
      obtain ⟨ad, rfl, hab, hc0⟩ := ivs_at hrw hkz
      have HS := Lib.hid (sumO_snoc Z S hkz)
      have HNO := Lib.hid (fun h => fair_no (a := Z) hkz h)
      have ha := hI.out S[k] (List.getElem_mem _)
      obtain ⟨x, hx⟩ : ∃ x, x = S[k] := ⟨_, rfl⟩
      have i0 : (0 : Int) ≤ (k : Int) := by omega
      have i1 : (k : Int) < (n : Int) := by omega
      rw [← hx] at hc0 HS ha
      have w1 := IntWalk.i64_in (t + 1) (by omega)
      have w3 := IntWalk.i64_in (t - 1) (by omega)
      clear hx
      have hlk := hmm.look ha
      cases hz : Z.contains x with
      | true =>
        rw [hz] at hlk
        rw [hz] at HS
        have HV := Lib.hid (show sumO Z S (k + 1) = t + 1 by rw [HS.out, ht.out.1]; rfl)
        clear hz
        cases hq : inr (t + 1) (-1) 1 with
        | true =>
          have HP := Lib.hid (fair_snoc ht.out.2 (by rw [HV.out]; exact hq))
          have hqb := inr_one hq
          have HQ := Lib.hid hq
          clear hq
          go_wp2_with fail
          refine (inRange_any _ _ _ _).mono ?_
          rintro e u ⟨rfl, rfl⟩
          rw [HQ.out]
          go_wp2_with fail
          go_roundw
          case rel => exact ⟨k + 1, t + 1, by omega, by go_num, by first | rfl | go_num, Lib.hid ⟨HV.out.symm, HP.out⟩, by omega, trivial⟩
          case measure => simp [intOf]; omega
        | false =>
          have HF := Lib.hid (HNO.out (by rw [HV.out]; exact hq))
          have HQ := Lib.hid hq
          clear hq
          go_wp2_with fail
          refine (inRange_any _ _ _ _).mono ?_
          rintro e u ⟨rfl, rfl⟩
          rw [HQ.out]
          go_wp2_with fail
          go_ret
          exact ⟨ret_b HF.out.symm, hb2⟩
      | false =>
        rw [hz] at hlk
        rw [hz] at HS
        have HV := Lib.hid (show sumO Z S (k + 1) = t - 1 by rw [HS.out, ht.out.1]; simp; omega)
        clear hz
        cases hq : inr (t - 1) (-1) 1 with
        | true =>
          have HP := Lib.hid (fair_snoc ht.out.2 (by rw [HV.out]; exact hq))
          have hqb := inr_one hq
          have HQ := Lib.hid hq
          clear hq
          go_wp2_with fail
          refine (inRange_any _ _ _ _).mono ?_
          rintro e u ⟨rfl, rfl⟩
          rw [HQ.out]
          go_wp2_with fail
          go_roundw
          case rel => exact ⟨k + 1, t - 1, by omega, by go_num, by first | rfl | go_num, Lib.hid ⟨HV.out.symm, HP.out⟩, by omega, trivial⟩
          case measure => simp [intOf]; omega
        | false =>
          have HF := Lib.hid (HNO.out (by rw [HV.out]; exact hq))
          have HQ := Lib.hid hq
          clear hq
          go_wp2_with fail
          refine (inRange_any _ _ _ _).mono ?_
          rintro e u ⟨rfl, rfl⟩
          rw [HQ.out]
          go_wp2_with fail
          go_ret
          exact ⟨ret_b HF.out.symm, hb2⟩
    · have e : k = n := by omega
      subst e
      have HT := Lib.hid (show fairB S Z = true by unfold fairB; rw [hl.out]; exact ht.out.2)
      go_wp2_with fail
      go_ret
      exact ⟨ret_b HT.out.symm, hb2⟩
end Go.Proofs.Ytignchefkihdaaa
