/- Contracts of Clash, the model's and the code's (chapter 30). No conditions. -/
import Derived.Test.YteffhbboeacogaaMayA
namespace Go.Proofs.Yteffhbboeacogaa
open Go.ChangeShapes Go.WideShapes Go.ChangeAt Go.RowKit
set_option maxRecDepth 100000
/-- Whether two amendments clash, of their places and what they drop. -/
def claI (a p b q : Int) : Bool := if a = b then true else if p ≤ 0 ∨ q ≤ 0 then false else if a < b then inr a 0 1000 && inr b 0 1000 && decide (b - a < p) else inr a 0 1000 && inr b 0 1000 && decide (a - b < q)
theorem cla_eq {a p q : Int} : claI a p a q = true := by simp [claI]
theorem cla_p {a p b q : Int} (h : a ≠ b) (hp : p ≤ 0 ∨ q ≤ 0) : claI a p b q = false := by unfold claI; rw [if_neg h, if_pos hp]
theorem cla_lt {a p b q : Int} (h : a < b) (hp : 0 < p) (hq : 0 < q) : claI a p b q = (inr a 0 1000 && inr b 0 1000 && decide (b - a < p)) := by
  unfold claI; rw [if_neg (by omega), if_neg (by omega), if_pos h]
theorem cla_gt {a p b q : Int} (h : b < a) (hp : 0 < p) (hq : 0 < q) : claI a p b q = (inr a 0 1000 && inr b 0 1000 && decide (a - b < q)) := by
  unfold claI; rw [if_neg (by omega), if_neg (by omega), if_neg (by omega)]
/-- The code's way: the first place is the smaller one. -/
theorem cla_i {a p b q : Int} (h : a < b) : claI a p b q = (decide (0 ≤ a) && decide (b ≤ 1000) && decide (0 < q) && decide (b - a < p)) := by
  by_cases hp : 0 < p
  · by_cases hq : 0 < q
    · rw [cla_lt h hp hq, Bool.eq_iff_iff]
      simp [inr]
      omega
    · rw [cla_p (by omega) (by omega)]
      simp [hq]
  · rw [cla_p (by omega) (by omega)]
    symm
    simp
    omega
theorem cla_sym (a p b q : Int) : claI a p b q = claI b q a p := by
  rcases Int.lt_trichotomy a b with h | h | h
  · by_cases hp : 0 < p
    · by_cases hq : 0 < q
      · rw [cla_lt h hp hq, cla_gt h hq hp, Bool.and_comm (inr a 0 1000)]
      · rw [cla_p (by omega) (by omega), cla_p (by omega) (by omega)]
    · rw [cla_p (by omega) (by omega), cla_p (by omega) (by omega)]
  · subst h; rw [cla_eq, cla_eq]
  · by_cases hp : 0 < p
    · by_cases hq : 0 < q
      · rw [cla_gt h hp hq, cla_lt h hq hp, Bool.and_comm (inr a 0 1000)]
      · rw [cla_p (by omega) (by omega), cla_p (by omega) (by omega)]
    · rw [cla_p (by omega) (by omega), cla_p (by omega) (by omega)]

set_option maxHeartbeats 2000000 in
theorem specClash_any {w : World} {A A' : Option Addr} {n c n' c' : Nat} {a p b q : Int} :
    Calls Try.prog 55 #[.agg #[.int .i64 a, .int .i64 p, .slice A n c], .agg #[.int .i64 b, .int .i64 q, .slice A' n' c']] w (Tells (claI a p b q) w) := by
  have hb : Below w.heap.size w ((w.alloc (Obj.cells #[Value.int .i64 a, .int .i64 p, .slice A n c] 26)).alloc (Obj.cells #[Value.int .i64 b, .int .i64 q, .slice A' n' c'] 26)) := ((Below.refl _ _).alloc (Nat.le_refl _) _).alloc (by simp) _
  by_cases h : a = b
  · subst h
    have HV := Lib.hid (cla_eq (a := a) (p := p) (q := q))
    go_enter Try.func55, Try.ntmps55
    go_wp2_with fail
    go_ret
    exact ⟨ret_b HV.out.symm, hb⟩
  · have h0 : (a == b) = false := by simpa using h
    by_cases hp : p ≤ 0
    · have d1 : decide (p ≤ 0) = true := decide_eq_true hp
      have HV := Lib.hid (cla_p (a := a) (b := b) (p := p) (q := q) h (.inl hp))
      go_enter Try.func55, Try.ntmps55
      go_wp2_with fail
      go_ret
      exact ⟨ret_b HV.out.symm, hb⟩
    · have d1 : decide (p ≤ 0) = false := decide_eq_false hp
      by_cases hq : q ≤ 0
      · have d2 : decide (q ≤ 0) = true := decide_eq_true hq
        have HV := Lib.hid (cla_p (a := a) (b := b) (p := p) (q := q) h (.inr hq))
        go_enter Try.func55, Try.ntmps55
        go_wp2_with fail
        go_ret
        exact ⟨ret_b HV.out.symm, hb⟩
      · have d2 : decide (q ≤ 0) = false := decide_eq_false hq
        by_cases hl : a < b
        · have d3 : decide (a < b) = true := decide_eq_true hl
          have HV0 := Lib.hid (cla_lt (a := a) (b := b) hl (show 0 < p by omega) (show 0 < q by omega))
          cases q1 : inr a 0 1000 with
          | false =>
            have HV := Lib.hid (show claI a p b q = false by rw [HV0.out, q1]; rfl)
            have HQ := Lib.hid q1
            clear q1
            go_enter Try.func55, Try.ntmps55
            go_wp2_with fail
            refine (l1In_any _ _ _ _).mono ?_
            rintro e u ⟨rfl, rfl⟩
            rw [HQ.out]
            go_wp2_with fail
            go_ret
            exact ⟨ret_b HV.out.symm, hb⟩
          | true =>
            have h1 := inr_of.1 q1
            cases q2 : inr b 0 1000 with
            | false =>
              have HV := Lib.hid (show claI a p b q = false by rw [HV0.out, q1, q2]; rfl)
              have HQ := Lib.hid q1
              have HR := Lib.hid q2
              clear q1 q2
              go_enter Try.func55, Try.ntmps55
              go_wp2_with fail
              refine (l1In_any _ _ _ _).mono ?_
              rintro e u ⟨rfl, rfl⟩
              rw [HQ.out]
              go_wp2_with fail
              refine (l1In_any _ _ _ _).mono ?_
              rintro e u ⟨rfl, rfl⟩
              rw [HR.out]
              go_wp2_with fail
              go_ret
              exact ⟨ret_b HV.out.symm, hb⟩
            | true =>
              have h2 := inr_of.1 q2
              have ww := IntWalk.i64_in (b - a) (by omega)
              have HV := Lib.hid (show claI a p b q = decide (b - a < p) by rw [HV0.out, q1, q2]; rfl)
              have HQ := Lib.hid q1
              have HR := Lib.hid q2
              clear q1 q2
              go_enter Try.func55, Try.ntmps55
              go_wp2_with fail
              refine (l1In_any _ _ _ _).mono ?_
              rintro e u ⟨rfl, rfl⟩
              rw [HQ.out]
              go_wp2_with fail
              refine (l1In_any _ _ _ _).mono ?_
              rintro e u ⟨rfl, rfl⟩
              rw [HR.out]
              go_wp2_with fail
              go_ret
              exact ⟨ret_b HV.out.symm, hb⟩
        · have d3 : decide (a < b) = false := decide_eq_false hl
          have HV0 := Lib.hid (cla_gt (a := a) (b := b) (show b < a by omega) (show 0 < p by omega) (show 0 < q by omega))
          cases q1 : inr a 0 1000 with
          | false =>
            have HV := Lib.hid (show claI a p b q = false by rw [HV0.out, q1]; rfl)
            have HQ := Lib.hid q1
            clear q1
            go_enter Try.func55, Try.ntmps55
            go_wp2_with fail
            refine (l1In_any _ _ _ _).mono ?_
            rintro e u ⟨rfl, rfl⟩
            rw [HQ.out]
            go_wp2_with fail
            go_ret
            exact ⟨ret_b HV.out.symm, hb⟩
          | true =>
            have h1 := inr_of.1 q1
            cases q2 : inr b 0 1000 with
            | false =>
              have HV := Lib.hid (show claI a p b q = false by rw [HV0.out, q1, q2]; rfl)
              have HQ := Lib.hid q1
              have HR := Lib.hid q2
              clear q1 q2
              go_enter Try.func55, Try.ntmps55
              go_wp2_with fail
              refine (l1In_any _ _ _ _).mono ?_
              rintro e u ⟨rfl, rfl⟩
              rw [HQ.out]
              go_wp2_with fail
              refine (l1In_any _ _ _ _).mono ?_
              rintro e u ⟨rfl, rfl⟩
              rw [HR.out]
              go_wp2_with fail
              go_ret
              exact ⟨ret_b HV.out.symm, hb⟩
            | true =>
              have h2 := inr_of.1 q2
              have ww := IntWalk.i64_in (a - b) (by omega)
              have HV := Lib.hid (show claI a p b q = decide (a - b < q) by rw [HV0.out, q1, q2]; rfl)
              have HQ := Lib.hid q1
              have HR := Lib.hid q2
              clear q1 q2
              go_enter Try.func55, Try.ntmps55
              go_wp2_with fail
              refine (l1In_any _ _ _ _).mono ?_
              rintro e u ⟨rfl, rfl⟩
              rw [HQ.out]
              go_wp2_with fail
              refine (l1In_any _ _ _ _).mono ?_
              rintro e u ⟨rfl, rfl⟩
              rw [HR.out]
              go_wp2_with fail
              go_ret
              exact ⟨ret_b HV.out.symm, hb⟩
set_option maxHeartbeats 2000000 in
theorem impClash_any {w : World} {A A' : Option Addr} {n c n' c' : Nat} {a p b q : Int} :
    Calls Try.prog 26 #[.agg #[.int .i64 a, .int .i64 p, .slice A n c], .agg #[.int .i64 b, .int .i64 q, .slice A' n' c']] w (Tells (claI a p b q) w) := by
  have hb : Below w.heap.size w ((w.alloc (Obj.cells #[Value.int .i64 a, .int .i64 p, .slice A n c] 26)).alloc (Obj.cells #[Value.int .i64 b, .int .i64 q, .slice A' n' c'] 26)) := ((Below.refl _ _).alloc (Nat.le_refl _) _).alloc (by simp) _
  by_cases h : a = b
  · subst h
    have HV := Lib.hid (cla_eq (a := a) (p := p) (q := q))
    go_enter Try.func26, Try.ntmps26
    go_wp2_with fail
    go_ret
    exact ⟨ret_b HV.out.symm, hb⟩
  · have h0 : (a == b) = false := by simpa using h
    by_cases hl : a < b
    · have d0 : decide (b < a) = false := decide_eq_false (by omega)
      have HV0 := Lib.hid (cla_i (a := a) (p := p) (b := b) (q := q) hl)
      by_cases k1 : 0 ≤ a
      · have e1 : decide (0 ≤ a) = true := decide_eq_true k1
        by_cases k2 : b ≤ 1000
        · have e2 : decide (b ≤ 1000) = true := decide_eq_true k2
          by_cases k3 : 0 < q
          · have e3 : decide (0 < q) = true := decide_eq_true k3
            have HV := Lib.hid (show claI a p b q = decide (b - a < p) by rw [HV0.out, e1, e2, e3]; rfl)
            have ww := IntWalk.i64_in (b - a) (by omega)
            go_enter Try.func26, Try.ntmps26
            go_wp2_with fail
            go_ret
            exact ⟨ret_b HV.out.symm, hb⟩
          · have e3 : decide (0 < q) = false := decide_eq_false k3
            have HV := Lib.hid (show claI a p b q = false by rw [HV0.out, e3]; simp)
            go_enter Try.func26, Try.ntmps26
            go_wp2_with fail
            go_ret
            exact ⟨ret_b HV.out.symm, hb⟩
        · have e2 : decide (b ≤ 1000) = false := decide_eq_false k2
          have HV := Lib.hid (show claI a p b q = false by rw [HV0.out, e2]; simp)
          go_enter Try.func26, Try.ntmps26
          go_wp2_with fail
          go_ret
          exact ⟨ret_b HV.out.symm, hb⟩
      · have e1 : decide (0 ≤ a) = false := decide_eq_false k1
        have HV := Lib.hid (show claI a p b q = false by rw [HV0.out, e1]; simp)
        go_enter Try.func26, Try.ntmps26
        go_wp2_with fail
        go_ret
        exact ⟨ret_b HV.out.symm, hb⟩
    · have hg : b < a := by omega
      have d0 : decide (b < a) = true := decide_eq_true hg
      have HV0 := Lib.hid (show claI a p b q = _ from (cla_sym a p b q).trans (cla_i (a := b) (p := q) (b := a) (q := p) hg))
      by_cases k1 : 0 ≤ b
      · have e1 : decide (0 ≤ b) = true := decide_eq_true k1
        by_cases k2 : a ≤ 1000
        · have e2 : decide (a ≤ 1000) = true := decide_eq_true k2
          by_cases k3 : 0 < p
          · have e3 : decide (0 < p) = true := decide_eq_true k3
            have HV := Lib.hid (show claI a p b q = decide (a - b < q) by rw [HV0.out, e1, e2, e3]; rfl)
            have ww := IntWalk.i64_in (a - b) (by omega)
            go_enter Try.func26, Try.ntmps26
            go_wp2_with fail
            go_ret
            refine ⟨ret_b HV.out.symm, ?_⟩
            first | exact hb | (repeat (first | exact hb | refine Below.setCell ?_ (by simp) _ | refine Below.alloc ?_ (by simp) _ | exact Below.refl _ _))
          · have e3 : decide (0 < p) = false := decide_eq_false k3
            have HV := Lib.hid (show claI a p b q = false by rw [HV0.out, e3]; simp)
            go_enter Try.func26, Try.ntmps26
            go_wp2_with fail
            go_ret
            refine ⟨ret_b HV.out.symm, ?_⟩
            first | exact hb | (repeat (first | exact hb | refine Below.setCell ?_ (by simp) _ | refine Below.alloc ?_ (by simp) _ | exact Below.refl _ _))
        · have e2 : decide (a ≤ 1000) = false := decide_eq_false k2
          have HV := Lib.hid (show claI a p b q = false by rw [HV0.out, e2]; simp)
          go_enter Try.func26, Try.ntmps26
          go_wp2_with fail
          go_ret
          refine ⟨ret_b HV.out.symm, ?_⟩
          first | exact hb | (repeat (first | exact hb | refine Below.setCell ?_ (by simp) _ | refine Below.alloc ?_ (by simp) _ | exact Below.refl _ _))
      · have e1 : decide (0 ≤ b) = false := decide_eq_false k1
        have HV := Lib.hid (show claI a p b q = false by rw [HV0.out, e1]; simp)
        go_enter Try.func26, Try.ntmps26
        go_wp2_with fail
        go_ret
        refine ⟨ret_b HV.out.symm, ?_⟩
        first | exact hb | (repeat (first | exact hb | refine Below.setCell ?_ (by simp) _ | refine Below.alloc ?_ (by simp) _ | exact Below.refl _ _))
end Go.Proofs.Yteffhbboeacogaa
