/- What the law of chapter 5 says of the sums: without code. -/
import Derived.Test.YtncndlojceiejaaDoorMg7
import Derived.Test.YtncndlojceiejaaDoorMg4
namespace Go.Proofs.YtncndlojceiejaaDoor
theorem free_iff {n : Nat} {X : List (List Int)} {S : List Int} : freeB n X S = true ↔ setB n X S = true ∧ ∀ z ∈ S, z ∉ hit n X S := by
  unfold freeB
  rw [Bool.and_eq_true, Bool.not_eq_true', List.any_eq_false]
  constructor
  · rintro ⟨h1, h2⟩
    exact ⟨h2, fun z hz h => h1 z hz (List.contains_iff_mem.2 h)⟩
  · rintro ⟨h1, h2⟩
    exact ⟨fun z hz h => h2 z hz (List.contains_iff_mem.1 h), h1⟩
theorem adm_iff {N : Int} {X : List (List Int)} {S : List Int} : admB N X S = true ↔ freeB N X S = true ∧ ∀ z ∈ S, defB N X S z = true := by
  unfold admB
  rw [Bool.and_eq_true, Bool.not_eq_true', List.any_eq_false]
  constructor
  · rintro ⟨h1, h2⟩
    exact ⟨h2, fun z hz => by simpa using h1 z hz⟩
  · rintro ⟨h1, h2⟩
    exact ⟨fun z hz => by simp [h2 z hz], h1⟩
theorem adm_free {N : Int} {X : List (List Int)} {S : List Int} (h : admB N X S = true) : freeB N X S = true := (adm_iff.1 h).1
theorem stab_adm {N : Int} {X : List (List Int)} {S : List Int} (h : stabB N X S = true) : admB N X S = true := by
  unfold stabB at h
  rw [Bool.and_eq_true, Bool.not_eq_true'] at h
  obtain ⟨h1, hf⟩ := h
  have hs := free_set hf
  have hg := setB_g hs
  obtain ⟨n, rfl, _, hp, _⟩ := gB_ok hg
  rw [hs, Bool.true_and, List.any_eq_false] at h1
  obtain ⟨_, hq⟩ := free_iff.1 hf
  refine adm_iff.2 ⟨hf, fun z hz => (defB_iff hg hp z).2 ⟨hs, ((setB_iff hg).1 hs).2 z hz, fun y hy => ?_⟩⟩
  obtain ⟨p, q, e, hpn, hqn⟩ := hp _ hy
  injection e with e1 e2
  subst e1
  have h3 := h1 p (List.mem_range.2 (by simpa using hpn))
  unfold outP at h3
  by_cases hS : (p : Int) ∈ S
  · exact absurd ((hit_mem hg hp z).2 ⟨p, hS, hy⟩) (hq z hz)
  · rw [Bool.and_eq_true, Bool.not_eq_true', Bool.not_eq_true'] at h3
    by_cases hH : (p : Int) ∈ hit n X S
    · exact hH
    · exact absurd ⟨by simpa using hS, by simpa using hH⟩ h3
theorem adm_within {N : Int} {X : List (List Int)} {S : List Int} (h : admB N X S = true) : ∀ z ∈ S, z ∈ defL N X S := fun z hz => by
  obtain ⟨hf, hd⟩ := adm_iff.1 h
  have hg := setB_g (free_set hf)
  obtain ⟨n, rfl, _, hp, _⟩ := gB_ok hg
  exact (defL_mem hg hp z).2 (hd z hz)
theorem all_within {S T : List Int} (h : ∀ z ∈ S, z ∈ T) : (S.all fun z => T.contains z) = true := List.all_eq_true.2 fun z hz => List.contains_iff_mem.2 (h z hz)
theorem defL_contains (N : Int) (X : List (List Int)) {S : List Int} (hs : setB N X S = true) (c : Int) : (defL N X S).contains c = defB N X S c := by
  have hg := setB_g hs
  obtain ⟨n, rfl, _, hp, _⟩ := gB_ok hg
  rw [Bool.eq_iff_iff, List.contains_iff_mem]
  exact defL_mem hg hp c
theorem defL_less {N : Int} {X : List (List Int)} {S S' : List Int} (h' : setB N X S' = true) (h : ∀ z ∈ S, z ∈ S') : ((defL N X S).all fun z => (defL N X S').contains z) = true := by
  have hg := setB_g h'
  obtain ⟨n, rfl, _, hp, _⟩ := gB_ok hg
  exact all_within (defL_mono hg hp h h')
/-- What a set defends that defends itself is free of quarrels too. -/
theorem adm_next {N : Int} {X : List (List Int)} {S : List Int} (h : admB N X S = true) : freeB N X (defL N X S) = true := by
  obtain ⟨hf, hd⟩ := adm_iff.1 h
  have hg := setB_g (free_set hf)
  obtain ⟨n, rfl, _, hp, _⟩ := gB_ok hg
  obtain ⟨_, hq⟩ := free_iff.1 hf
  refine free_iff.2 ⟨defL_set hg hp, fun z hz hh => ?_⟩
  obtain ⟨c, hc, hx⟩ := (hit_mem hg hp z).1 hh
  have h1 := ((defB_iff hg hp z).1 ((defL_mem hg hp z).1 hz)).2.2 c hx
  obtain ⟨s, hs, hx1⟩ := (hit_mem hg hp c).1 h1
  have h2 := ((defB_iff hg hp c).1 ((defL_mem hg hp c).1 hc)).2.2 s hx1
  exact hq s hs h2
theorem adm_step {N : Int} {X : List (List Int)} {S : List Int} (h : admB N X S = true) : admB N X (defL N X S) = true := by
  have hw := adm_within h
  have hg := setB_g (free_set (adm_free h))
  obtain ⟨n, rfl, _, hp, _⟩ := gB_ok hg
  exact adm_iff.2 ⟨adm_next h, fun z hz => (defL_mem hg hp z).1 (defL_mono hg hp hw (defL_set hg hp) z hz)⟩
end Go.Proofs.YtncndlojceiejaaDoor

/- Contracts of slices.Compare on slices of integers of one length, and of IsGraph's code. No conditions but that the slices have at most 2^40 elements. -/
namespace Go.Proofs.YtncndlojceiejaaDoor
open Go.ChangeShapes Go.WideShapes Go.ChangeAt Go.RowKit
def cmp1 (a b : Int) : Int := if a < b then -1 else if b < a then 1 else 0
theorem cmpNaN_any (a : Int) (w : World) : Calls Tryd.prog 80 #[.int .i64 a] w (fun e w' => e = .returned (.bool false) ∧ w = w') := by
  go_enter Tryd.func80, Tryd.ntmps80
  go_wp2
  go_ret
  exact ⟨ret_b (by simp), rfl⟩
theorem cmpInt_any (a b : Int) (w : World) : Calls Tryd.prog 68 #[.int .i64 a, .int .i64 b] w (fun e w' => e = .returned (.int .i64 (cmp1 a b)) ∧ w = w') := by
  by_cases h1 : a < b
  · have H := Lib.hid (show cmp1 a b = -1 by unfold cmp1; rw [if_pos h1])
    go_enter Tryd.func68, Tryd.ntmps68
    go_wp2_with (go_at_call 80; refine (cmpNaN_any _ _).mono ?_; rintro e w1 ⟨rfl, rfl⟩)
    go_ret
    exact ⟨by rw [H.out]; rfl, rfl⟩
  · by_cases h2 : b < a
    · have H := Lib.hid (show cmp1 a b = 1 by unfold cmp1; rw [if_neg h1, if_pos h2])
      go_enter Tryd.func68, Tryd.ntmps68
      go_wp2_with (go_at_call 80; refine (cmpNaN_any _ _).mono ?_; rintro e w1 ⟨rfl, rfl⟩)
      go_ret
      exact ⟨by rw [H.out]; rfl, rfl⟩
    · have H := Lib.hid (show cmp1 a b = 0 by unfold cmp1; rw [if_neg h1, if_neg h2])
      go_enter Tryd.func68, Tryd.ntmps68
      go_wp2_with (go_at_call 80; refine (cmpNaN_any _ _).mono ?_; rintro e w1 ⟨rfl, rfl⟩)
      go_ret
      exact ⟨by rw [H.out]; rfl, rfl⟩
def cmpL : List Int → List Int → Int
  | x :: xs, y :: ys => if cmp1 x y = 0 then cmpL xs ys else cmp1 x y
  | _, _ => 0
theorem cmpL_drop {xs ys : List Int} {k : Nat} (hx : k < xs.length) (hy : k < ys.length) : cmpL (xs.drop k) (ys.drop k) = if cmp1 xs[k] ys[k] = 0 then cmpL (xs.drop (k + 1)) (ys.drop (k + 1)) else cmp1 xs[k] ys[k] := by
  rw [List.drop_eq_getElem_cons hx, List.drop_eq_getElem_cons hy]; rfl
set_option maxRecDepth 100000 in
set_option maxHeartbeats 1600000 in
theorem compare_any {w : World} {A A' : Option Addr} {n c c' : Nat} {xs ys : List Int} (hx : Hid (xs.length = n)) (hy : Hid (ys.length = n)) (hn : n ≤ 1099511627776) (hr : Rd w w.heap.size A (ivs xs)) (hr' : Rd w w.heap.size A' (ivs ys)) :
    Calls Tryd.prog 48 #[.slice A n c, .slice A' n c'] w (fun e w' => e = .returned (.int .i64 (cmpL xs ys)) ∧ w = w') := by
  go_enter Tryd.func48, Tryd.ntmps48
  go_wp2
  go_loop [11] (fun i => ∃ k : Nat, k ≤ n ∧ i = .int .i64 k ∧ Hid (cmpL xs ys = cmpL (xs.drop k) (ys.drop k))) (fun i => n - (intOf i).toNat)
  case atStart => exact ⟨0, Nat.zero_le _, rfl, rfl⟩
  case round =>
    obtain ⟨k, hk, rfl, heq⟩ := hrel
    by_cases hlt : k < n
    · have hkx : k < xs.length := by rw [hx.out]; exact hlt
      have hky : k < ys.length := by rw [hy.out]; exact hlt
      obtain ⟨ad, rfl, hab, hc⟩ := ivs_at hr hkx
      obtain ⟨ad', rfl, hab', hc'⟩ := ivs_at hr' hky
      have hd := cmpL_drop hkx hky
      obtain ⟨x, hxx⟩ : ∃ x, x = xs[k] := ⟨_, rfl⟩
      obtain ⟨y, hyy⟩ : ∃ y, y = ys[k] := ⟨_, rfl⟩
      rw [← hxx] at hc hd
      rw [← hyy] at hc' hd
      clear hxx hyy
      by_cases hz : cmp1 x y = 0
      · rw [if_pos hz] at hd
        have HD := Lib.hid (heq.out.trans hd)
        have HZ := Lib.hid hz
        clear hd hz
        go_wp2_with (go_at_call 68; refine (cmpInt_any _ _ _).mono ?_; rintro e w1 ⟨he, rfl⟩; rw [HZ.out] at he; subst he)
        go_round
        case rel => exact ⟨k + 1, by omega, by go_num, HD.out⟩
        case measure => simp [intOf]; omega
      · rw [if_neg hz] at hd
        have HD := Lib.hid (heq.out.trans hd)
        obtain ⟨z, hzz⟩ : ∃ z, z = cmp1 x y := ⟨_, rfl⟩
        rw [← hzz] at hz
        have HZ := Lib.hid hzz
        clear hd hzz
        go_wp2_with (go_at_call 68; refine (cmpInt_any _ _ _).mono ?_; rintro e w1 ⟨he, rfl⟩; rw [← HZ.out] at he; subst he)
        go_ret
        exact ⟨ret_i (by rw [HD.out, HZ.out]), rfl⟩
    · have e : k = n := by omega
      subst e
      have HE := Lib.hid (show cmpL xs ys = 0 by rw [heq.out, List.drop_of_length_le (by rw [hx.out]; omega)]; rfl)
      go_wp2
      go_ret
      exact ⟨ret_i (by rw [HE.out]), rfl⟩
theorem cmp_lt (p' q' p q : Int) : decide (0 ≤ cmpL [p', q'] [p, q]) = !(ltP [p', q'] [p, q]) := by
  simp only [cmpL, cmp1, ltP, List.getD_cons_zero, List.getD_cons_succ, Bool.not_not]
  by_cases h1 : p' < p
  · have h2 : ¬ p < p' := by omega
    have h3 : ¬ p' = p := by omega
    simp [h1, h2, h3]
  · by_cases h2 : p < p'
    · simp [h1, h2]
    · have h3 : p' = p := by omega
      subst h3
      by_cases h4 : q' < q
      · have h5 : ¬ q ≤ q' := by omega
        simp [h4, h5]
      · by_cases h5 : q < q'
        · have h6 : q ≤ q' := by omega
          simp [h4, h5, h6]
        · have h6 : q ≤ q' := by omega
          simp [h4, h5, h6]
end Go.Proofs.YtncndlojceiejaaDoor
