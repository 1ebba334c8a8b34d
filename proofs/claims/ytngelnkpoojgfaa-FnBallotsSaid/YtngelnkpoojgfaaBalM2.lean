/- Contracts of the models of chapter 16: VotesFor, SumFor, Decision, IsSplit. Condition: the slice has at most 2^40 elements. -/
import Derived.Test.YtngelnkpoojgfaaBalM
namespace Go.Proofs.Ytngelnkpoojgfaa
open Go.ChangeShapes Go.WideShapes Go.ChangeAt Go.RowKit
set_option maxRecDepth 100000
def cntO (l : List T3) (q : Int) : Int := ((l.filter fun b => ofB b == q).length : Int)
theorem cntO_snoc (X : List T3) (q : Int) {k : Nat} (hk : k < X.length) : cntO (X.take (k + 1)) q = cntO (X.take k) q + if ofB X[k] = q then 1 else 0 := by
  unfold cntO
  rw [List.take_succ_eq_append_getElem hk, List.filter_append, List.length_append]
  by_cases h : ofB X[k] = q
  · rw [if_pos h, List.filter_cons, if_pos (by simpa using h)]; simp
  · rw [if_neg h, List.filter_cons, if_neg (by simpa using h)]; simp
theorem sumF_snoc (X : List T3) (q : Int) {k : Nat} (hk : k < X.length) : sumF (X.take (k + 1)) q = sumF (X.take k) q + sumP q X[k] := by
  unfold sumF
  rw [List.take_succ_eq_append_getElem hk, List.foldl_append]
  rfl
theorem votN_pos (X : List T3) (q : Int) : 0 ≤ votN X q ∧ votN X q ≤ (X.length : Int) := by
  unfold votN
  split
  · have := List.length_filter_le (fun b => ofB b == q) X
    omega
  · omega
theorem sumN_pos (X : List T3) (q : Int) : 0 ≤ sumN X q ∧ sumN X q ≤ 900 := by
  unfold sumN
  split
  · rename_i h
    have h1 := sum_from q (bs_mem h) 0
    have := bs_len h
    unfold sumF
    omega
  · omega
set_option maxHeartbeats 4000000 in
theorem specVotesFor_any {w : World} {A : Option Addr} {n c : Nat} {q : Int} {X : List T3} (hl : Hid (X.length = n)) (hn : n ≤ 1099511627776) (hr : Rd w w.heap.size A (t3s X)) :
    Calls Try.prog 79 #[.slice A n c, .int .i64 q] w (fun e w' => e = .returned (.int .i64 (votN X q)) ∧ Below w.heap.size w w') := by
  have HR := Lib.hid hr
  clear hr
  by_cases hB : bsB X = true
  · have HB := Lib.hid hB
    clear hB
    go_enter Try.func79, Try.ntmps79
    go_wp2_with fail
    go_loopw [5, 6] (fun s i wr => ∃ (k : Nat) (t : Int), k ≤ n ∧ i = .int .i64 k ∧ s = .int .i64 t ∧ Hid (t = cntO (X.take k) q) ∧ (0 ≤ t ∧ t ≤ (k : Int)) ∧ Below w.heap.size w wr) (fun _ i _ => n - (intOf i).toNat)
    case atStart => exact ⟨0, 0, Nat.zero_le _, rfl, rfl, Lib.hid rfl, by omega, Below.refl _ _⟩
    case round =>
      obtain ⟨k, t, hk, rfl, rfl, ht, htb, hb⟩ := hrel
      have hsz := hb.size
      by_cases hlt : k < n
      · have hkz : k < X.length := by rw [hl.out]; exact hlt
        have i0 : (0 : Int) ≤ (k : Int) := by omega
        have i1 : (k : Int) < (n : Int) := by omega
        go_wp2_with fail
        refine (specAreBallots_any hl hn ((HR.out.below hb).more hsz)).mono ?_
        rintro e w1 ⟨rfl, hb1⟩
        rw [HB.out]
        have hb2 := hb.trans (hb1.mono hsz)
        have hsz2 := hb2.size
        obtain ⟨ad, p, rfl, hp, hab, h0, h1, h2⟩ := t3_cells ((HR.out.below hb2).more hsz2) hkz
        have HS := Lib.hid (cntO_snoc X q hkz)
        obtain ⟨x, hx⟩ : ∃ x, x = X[k] := ⟨_, rfl⟩
        rw [← hx] at h0 h1 h2 HS
        clear hx
        go_wp2_with fail
        refine (specOf_any).mono ?_
        rintro e w2 ⟨rfl, hb3⟩
        have hb4 := hb2.trans (hb3.mono hsz2)
        clear hb1 hb3 h0 h1 h2
        obtain ⟨O, hO⟩ : ∃ O, O = ofB (x.1, x.2.1, x.2.2) := ⟨_, rfl⟩
        have HS2 := Lib.hid (show cntO (X.take (k + 1)) q = cntO (X.take k) q + if O = q then 1 else 0 by rw [hO]; exact HS.out)
        rw [← hO]
        clear hO
        by_cases hq : O = q
        · have hq' : (O == q) = true := by simpa using hq
          have HV := Lib.hid (show cntO (X.take (k + 1)) q = t + 1 by rw [HS2.out, if_pos hq, ht.out])
          clear hq
          go_wp2_with fail
          go_roundw
          case rel => exact ⟨k + 1, t + 1, by omega, by go_num, by go_num, Lib.hid HV.out.symm, by omega, hb4⟩
          case measure => simp [intOf]; omega
        · have hq' : (O == q) = false := by simpa using hq
          have HV := Lib.hid (show cntO (X.take (k + 1)) q = t by rw [HS2.out, if_neg hq, ht.out]; omega)
          clear hq
          go_wp2_with fail
          go_roundw
          case rel => exact ⟨k + 1, t, by omega, by go_num, rfl, Lib.hid HV.out.symm, by omega, hb4⟩
          case measure => simp [intOf]; omega
      · have e : k = n := by omega
        subst e
        have HT := Lib.hid (show t = votN X q by rw [ht.out, List.take_of_length_le (by rw [hl.out]; exact Nat.le_refl _)]; unfold votN; rw [if_pos HB.out]; rfl)
        go_wp2_with fail
        go_ret
        exact ⟨ret_i HT.out, hb⟩
  · have hB : bsB X = false := by simpa using hB
    have HV := Lib.hid (show votN X q = 0 by unfold votN; rw [hB]; rfl)
    have HB := Lib.hid hB
    clear hB
    go_enter Try.func79, Try.ntmps79
    go_wp2_with fail
    go_loopw [5, 6] (fun s i wr => i = .int .i64 0 ∧ s = .int .i64 0 ∧ Below w.heap.size w wr) (fun _ i _ => n - (intOf i).toNat)
    case atStart => exact ⟨rfl, rfl, Below.refl _ _⟩
    case round =>
      obtain ⟨rfl, rfl, hb⟩ := hrel
      have hsz := hb.size
      by_cases hlt : 0 < n
      · have i1 : (0 : Int) < (n : Int) := by omega
        go_wp2_with fail
        refine (specAreBallots_any hl hn ((HR.out.below hb).more hsz)).mono ?_
        rintro e w1 ⟨rfl, hb1⟩
        rw [HB.out]
        have hb2 := hb.trans (hb1.mono hsz)
        go_wp2_with fail
        go_ret
        exact ⟨ret_i HV.out.symm, hb2⟩
      · have e : n = 0 := by omega
        subst e
        go_wp2_with fail
        go_ret
        exact ⟨ret_i HV.out.symm, hb⟩
set_option maxHeartbeats 4000000 in
theorem specSumFor_any {w : World} {A : Option Addr} {n c : Nat} {q : Int} {X : List T3} (hl : Hid (X.length = n)) (hn : n ≤ 1099511627776) (hr : Rd w w.heap.size A (t3s X)) :
    Calls Try.prog 80 #[.slice A n c, .int .i64 q] w (fun e w' => e = .returned (.int .i64 (sumN X q)) ∧ Below w.heap.size w w') := by
  have HR := Lib.hid hr
  clear hr
  by_cases hB : bsB X = true
  · have HB := Lib.hid hB
    clear hB
    go_enter Try.func80, Try.ntmps80
    go_wp2_with fail
    go_loopw [5, 6] (fun s i wr => ∃ (k : Nat) (t : Int), k ≤ n ∧ i = .int .i64 k ∧ s = .int .i64 t ∧ Hid (t = sumF (X.take k) q) ∧ (0 ≤ t ∧ t ≤ 100 * (k : Int)) ∧ Below w.heap.size w wr) (fun _ i _ => n - (intOf i).toNat)
    case atStart => exact ⟨0, 0, Nat.zero_le _, rfl, rfl, Lib.hid rfl, by omega, Below.refl _ _⟩
    case round =>
      obtain ⟨k, t, hk, rfl, rfl, ht, htb, hb⟩ := hrel
      have hsz := hb.size
      by_cases hlt : k < n
      · have hkz : k < X.length := by rw [hl.out]; exact hlt
        have i0 : (0 : Int) ≤ (k : Int) := by omega
        have i1 : (k : Int) < (n : Int) := by omega
        go_wp2_with fail
        refine (specAreBallots_any hl hn ((HR.out.below hb).more hsz)).mono ?_
        rintro e w1 ⟨rfl, hb1⟩
        rw [HB.out]
        have hb2 := hb.trans (hb1.mono hsz)
        have hsz2 := hb2.size
        obtain ⟨ad, p, rfl, hp, hab, h0, h1, h2⟩ := t3_cells ((HR.out.below hb2).more hsz2) hkz
        have HS := Lib.hid (sumF_snoc X q hkz)
        obtain ⟨⟨x1, x2⟩, ⟨x3, x4⟩, _⟩ := bl_parts (bs_mem HB.out X[k] (List.getElem_mem _))
        obtain ⟨x, hx⟩ : ∃ x, x = X[k] := ⟨_, rfl⟩
        rw [← hx] at h0 h1 h2 HS x1 x2 x3 x4
        clear hx hb1
        by_cases hq1 : q = 1
        · subst hq1
          have HV := Lib.hid (show sumF (X.take (k + 1)) 1 = t + x.2.1 by rw [HS.out, ht.out]; rfl)
          have hws := IntWalk.i64_in (t + x.2.1) (by omega)
          go_wp2_with fail
          go_roundw
          case rel => exact ⟨k + 1, t + x.2.1, by omega, by go_num, rfl, Lib.hid HV.out.symm, by omega, hb2⟩
          case measure => simp [intOf]; omega
        · by_cases hq2 : q = 2
          · subst hq2
            have HV := Lib.hid (show sumF (X.take (k + 1)) 2 = t + x.2.2 by rw [HS.out, ht.out]; rfl)
            have hws := IntWalk.i64_in (t + x.2.2) (by omega)
            go_wp2_with fail
            go_roundw
            case rel => exact ⟨k + 1, t + x.2.2, by omega, by go_num, rfl, Lib.hid HV.out.symm, by omega, hb2⟩
            case measure => simp [intOf]; omega
          · have HV := Lib.hid (show sumF (X.take (k + 1)) q = t by rw [HS.out, ht.out]; unfold sumP; rw [if_neg hq1, if_neg hq2]; omega)
            have d1 : (q == 1) = false := by simpa using hq1
            have d2 : (q == 2) = false := by simpa using hq2
            go_wp2_with fail
            go_roundw
            case rel => exact ⟨k + 1, t, by omega, by go_num, rfl, Lib.hid HV.out.symm, by omega, hb2⟩
            case measure => simp [intOf]; omega
      · have e : k = n := by omega
        subst e
        have HT := Lib.hid (show t = sumN X q by rw [ht.out, List.take_of_length_le (by rw [hl.out]; exact Nat.le_refl _)]; unfold sumN; rw [if_pos HB.out])
        go_wp2_with fail
        go_ret
        exact ⟨ret_i HT.out, hb⟩
  · have hB : bsB X = false := by simpa using hB
    have HV := Lib.hid (show sumN X q = 0 by unfold sumN; rw [hB]; rfl)
    have HB := Lib.hid hB
    clear hB
    go_enter Try.func80, Try.ntmps80
    go_wp2_with fail
    go_loopw [5, 6] (fun s i wr => i = .int .i64 0 ∧ s = .int .i64 0 ∧ Below w.heap.size w wr) (fun _ i _ => n - (intOf i).toNat)
    case atStart => exact ⟨rfl, rfl, Below.refl _ _⟩
    case round =>
      obtain ⟨rfl, rfl, hb⟩ := hrel
      have hsz := hb.size
      by_cases hlt : 0 < n
      · have i1 : (0 : Int) < (n : Int) := by omega
        go_wp2_with fail
        refine (specAreBallots_any hl hn ((HR.out.below hb).more hsz)).mono ?_
        rintro e w1 ⟨rfl, hb1⟩
        rw [HB.out]
        have hb2 := hb.trans (hb1.mono hsz)
        go_wp2_with fail
        go_ret
        exact ⟨ret_i HV.out.symm, hb2⟩
      · have e : n = 0 := by omega
        subst e
        go_wp2_with fail
        go_ret
        exact ⟨ret_i HV.out.symm, hb⟩
theorem dec_of {X : List T3} (h0 : X.length ≠ 0) (h : bsB X = true) : decN X = sgnD X (decD X) := by
  unfold decN
  rw [if_neg h0, if_pos h]
/-- The end of Decision, walked from d on. -/
theorem sgn_pos {X : List T3} {d : Int} (h : 0 < d) : sgnD X d = 1 := if_pos h
theorem sgn_neg {X : List T3} {d : Int} (h : d < 0) : sgnD X d = 2 := by unfold sgnD; rw [if_neg (by omega), if_pos h]
theorem sgn_zero {X : List T3} {d : Int} (h : d = 0) (hk : 0 < X.length) : sgnD X d = ofB X[0] := by unfold sgnD; rw [if_neg (by omega), if_neg (by omega), getT hk]
set_option maxHeartbeats 8000000 in
theorem specDecision_any {w : World} {A : Option Addr} {n c : Nat} {X : List T3} (hl : Hid (X.length = n)) (hn : n ≤ 1099511627776) (hr : Rd w w.heap.size A (t3s X)) :
    Calls Try.prog 49 #[.slice A n c] w (fun e w' => e = .returned (.int .i64 (decN X)) ∧ Below w.heap.size w w') := by
  by_cases h0 : n = 0
  · have HV := Lib.hid (show decN X = 0 by unfold decN; rw [if_pos (hl.out.trans h0)])
    subst h0
    go_enter Try.func49, Try.ntmps49
    go_wp2_with fail
    go_ret
    exact ⟨ret_i HV.out.symm, Below.refl _ _⟩
  have hxl : X.length ≠ 0 := by rw [hl.out]; exact h0
  have hX0 : 0 < X.length := by omega
  have hn0 : 0 < n := by omega
  have i1 : (0 : Int) < (n : Int) := by omega
  have hz0 : ((n : Int) == 0) = false := by simp; omega
  by_cases hB : bsB X = true
  · have HD := Lib.hid (dec_of hxl hB)
    have HB := Lib.hid hB
    have v1 := votN_pos X 1
    have v2 := votN_pos X 2
    rw [hl.out] at v1 v2
    have s1 := sumN_pos X 1
    have s2 := sumN_pos X 2
    have HDD := Lib.hid (show decD X = if votN X 1 - votN X 2 = 0 then sumN X 1 - sumN X 2 else votN X 1 - votN X 2 from rfl)
    have HR := Lib.hid hr
    clear hr hB hxl
    obtain ⟨V1, hV1⟩ : ∃ V, votN X 1 = V := ⟨_, rfl⟩
    obtain ⟨V2, hV2⟩ : ∃ V, votN X 2 = V := ⟨_, rfl⟩
    obtain ⟨S1, hS1⟩ : ∃ V, sumN X 1 = V := ⟨_, rfl⟩
    obtain ⟨S2, hS2⟩ : ∃ V, sumN X 2 = V := ⟨_, rfl⟩
    rw [hV1] at v1
    rw [hV2] at v2
    rw [hS1] at s1
    rw [hS2] at s2
    rw [hV1, hV2, hS1, hS2] at HDD
    have HV1 := Lib.hid hV1
    have HV2 := Lib.hid hV2
    have HS1 := Lib.hid hS1
    have HS2 := Lib.hid hS2
    have hwv := IntWalk.i64_in (V1 - V2) (by omega)
    have hws := IntWalk.i64_in (S1 - S2) (by omega)
    clear hV1 hV2 hS1 hS2
    go_enter Try.func49, Try.ntmps49
    go_wp2_with fail
    refine (specAreBallots_any hl hn HR.out).mono ?_
    rintro e w1 ⟨rfl, b1⟩
    rw [HB.out]
    go_wp2_with fail
    refine (specVotesFor_any hl hn ((HR.out.below b1).more b1.size)).mono ?_
    rintro e w2 ⟨rfl, r⟩
    have b2 := b1.trans (r.mono b1.size)
    rw [HV1.out]
    clear r
    go_wp2_with fail
    refine (specVotesFor_any hl hn ((HR.out.below b2).more b2.size)).mono ?_
    rintro e w3 ⟨rfl, r⟩
    have b3 := b2.trans (r.mono b2.size)
    rw [HV2.out]
    clear r b1 b2
    by_cases hv : V1 - V2 = 0
    · have HE := Lib.hid (show decD X = S1 - S2 by rw [HDD.out, if_pos hv])
      have dv : (V1 - V2 == 0) = true := by simpa using hv
      go_wp2_with fail
      refine (specSumFor_any hl hn ((HR.out.below b3).more b3.size)).mono ?_
      rintro e w4 ⟨rfl, r⟩
      have b4 := b3.trans (r.mono b3.size)
      rw [HS1.out]
      clear r
      go_wp2_with fail
      refine (specSumFor_any hl hn ((HR.out.below b4).more b4.size)).mono ?_
      rintro e w5 ⟨rfl, r⟩
      have b5 := b4.trans (r.mono b4.size)
      rw [HS2.out]
      clear r b3 b4 hv dv
      by_cases g1 : 0 < S1 - S2
      · have HF := Lib.hid (show decN X = 1 by rw [HD.out, HE.out, sgn_pos g1])
        go_wp2_with fail
        go_ret
        exact ⟨ret_i HF.out.symm, b5⟩
      · by_cases g2 : S1 - S2 < 0
        · have HF := Lib.hid (show decN X = 2 by rw [HD.out, HE.out, sgn_neg g2])
          go_wp2_with fail
          go_ret
          exact ⟨ret_i HF.out.symm, b5⟩
        · have HF := Lib.hid (show decN X = ofB X[0] by rw [HD.out, HE.out, sgn_zero (by omega) hX0])
          obtain ⟨ad, p, rfl, hp, hab, h0, h1, h2⟩ := t3_cells ((HR.out.below b5).more b5.size) hX0
          obtain ⟨x, hx⟩ : ∃ x, x = X[0] := ⟨_, rfl⟩
          rw [← hx] at h0 h1 h2 HF
          rw [Nat.zero_mul] at hp
          rw [show ad.add 0 = ad by simp [Addr.add]] at hp
          subst hp
          clear hx
          go_wp2_with fail
          refine (specOf_any).mono ?_
          rintro e w6 ⟨rfl, r⟩
          go_wp2_with fail
          go_ret
          exact ⟨ret_i HF.out.symm, b5.trans (r.mono b5.size)⟩
    · have HE := Lib.hid (show decD X = V1 - V2 by rw [HDD.out, if_neg hv])
      have dv : (V1 - V2 == 0) = false := by simpa using hv
      by_cases g1 : 0 < V1 - V2
      · have HF := Lib.hid (show decN X = 1 by rw [HD.out, HE.out, sgn_pos g1])
        go_wp2_with fail
        go_ret
        exact ⟨ret_i HF.out.symm, b3⟩
      · have g2 : V1 - V2 < 0 := by omega
        have HF := Lib.hid (show decN X = 2 by rw [HD.out, HE.out, sgn_neg g2])
        go_wp2_with fail
        go_ret
        exact ⟨ret_i HF.out.symm, b3⟩
  · have hB : bsB X = false := by simpa using hB
    have HV := Lib.hid (show decN X = 0 by unfold decN; rw [if_neg hxl, hB]; rfl)
    have HB := Lib.hid hB
    clear hB
    go_enter Try.func49, Try.ntmps49
    go_wp2_with fail
    refine (specAreBallots_any hl hn hr).mono ?_
    rintro e w1 ⟨rfl, b1⟩
    rw [HB.out]
    go_wp2_with fail
    go_ret
    exact ⟨ret_i HV.out.symm, b1⟩
end Go.Proofs.Ytngelnkpoojgfaa
