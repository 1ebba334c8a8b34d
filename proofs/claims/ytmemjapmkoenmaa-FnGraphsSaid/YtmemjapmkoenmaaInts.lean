/- Contracts of the smallest functions of chapter 1 (InRange, Min, Max, CeilDiv, Mod) and of their models: each returns the integer or truth value that a plain Lean function names, for every input. No conditions. -/
import Derived.Test.YtmemjapmkoenmaaRows
import Derived.WalkKit
import Derived.ProofKit
import Derived.OpenShut
import Derived.LoopN
import Derived.Handy
import Derived.Lib.Hide
import Derived.IntWalk
import Derived.Test.YtmemjapmkoenmaaBase
namespace Go.Proofs.Ytmemjapmkoenmaa
open Go.ChangeShapes Go.WideShapes Go.ChangeAt Go.RowKit
def mn (a b : Int) : Int := if b < a then b else a
def mx (a b : Int) : Int := if b > a then b else a
theorem mn_t {a b : Int} (h : b < a) : mn a b = b := if_pos h
theorem mn_f {a b : Int} (h : ¬ b < a) : mn a b = a := if_neg h
theorem mx_t {a b : Int} (h : b < a) : mx a b = a := if_neg (by omega)
theorem mx_f {a b : Int} (h : ¬ b < a) : mx a b = b := by unfold mx; split <;> omega
theorem smin_any (a b : Int) (w : World) :
    Calls Try.prog 98 #[.int .i64 a, .int .i64 b] w fun e w' => e = .returned (.int .i64 (mn a b)) ∧ w = w' := by
  by_cases h : b < a
  all_goals
    first | (have H := mn_t h) | (have H := mn_f h)
    have HH := Lib.hid H
    clear H
    go_enter Try.func98, Try.ntmps98
    go_wp2
    go_ret
    exact ⟨ret_i (HH.out).symm, rfl⟩
theorem smax_any (a b : Int) (w : World) :
    Calls Try.prog 83 #[.int .i64 a, .int .i64 b] w fun e w' => e = .returned (.int .i64 (mx a b)) ∧ w = w' := by
  rcases Int.lt_trichotomy a b with h | h | h
  all_goals
    first | (have H : mx a b = a := by unfold mx; split <;> omega) | (have H : mx a b = b := by unfold mx; split <;> omega)
    have HH := Lib.hid H
    clear H
    have h1 : a < b ∨ b ≤ a := by omega
    clear h
    rcases h1 with h1 | h1
    all_goals
      go_enter Try.func83, Try.ntmps83
      go_wp2
      go_ret
      exact ⟨ret_i (by have := HH.out; unfold mx at this ⊢; split <;> omega), rfl⟩
def inr (n lo hi : Int) : Bool := decide (lo ≤ n) && decide (n ≤ hi)
theorem inr_t {n lo hi : Int} (h1 : lo ≤ n) (h2 : n ≤ hi) : inr n lo hi = true := by simp [inr, h1, h2]
theorem inr_f {n lo hi : Int} (h : n < lo ∨ hi < n) : inr n lo hi = false := by
  rcases h with h | h <;> simp [inr] <;> omega
theorem inRange_any (n lo hi : Int) (w : World) :
    Calls Try.prog 70 #[.int .i64 n, .int .i64 lo, .int .i64 hi] w fun e w' => e = .returned (.bool (inr n lo hi)) ∧ w = w' := by
  by_cases h1 : lo ≤ n
  · have d1 : decide (lo ≤ n) = true := by simpa using h1
    go_enter Try.func70, Try.ntmps70
    go_wp2
    all_goals go_ret
    all_goals exact ⟨ret_b (by simp [inr, h1]), rfl⟩
  · have d1 : decide (lo ≤ n) = false := by simpa using h1
    go_enter Try.func70, Try.ntmps70
    go_wp2
    all_goals go_ret
    all_goals exact ⟨ret_b (by simp [inr]; omega), rfl⟩
theorem l1In_any (n lo hi : Int) (w : World) :
    Calls Try.prog 68 #[.int .i64 n, .int .i64 lo, .int .i64 hi] w fun e w' => e = .returned (.bool (inr n lo hi)) ∧ w = w' := by
  by_cases h1 : lo ≤ n
  · have d1 : decide (lo ≤ n) = true := by simpa using h1
    go_enter Try.func68, Try.ntmps68
    go_wp2
    all_goals go_ret
    all_goals exact ⟨ret_b (by simp [inr, h1]), rfl⟩
  · have d1 : decide (lo ≤ n) = false := by simpa using h1
    go_enter Try.func68, Try.ntmps68
    go_wp2
    all_goals go_ret
    all_goals exact ⟨ret_b (by simp [inr]; omega), rfl⟩
def cdiv (a b : Int) : Int := if inr a 0 1000000000000 && inr b 1 1000000000000 then (a + b - 1) / b else 0
def md (p q : Int) : Int := if inr q 1 1000000000000 then p % q else 0
theorem tmod_fix {p q : Int} (hq : 0 < q) : (p.tmod q < 0 → p.tmod q + q = p % q) ∧ (0 ≤ p.tmod q → p.tmod q = p % q) := by
  have h1 := Int.emod_nonneg p (show q ≠ 0 by omega)
  have h2 := Int.emod_lt_of_pos p hq
  rw [Int.tmod_eq_emod]
  split <;> constructor <;> intro h <;> omega
theorem mod_any (p q : Int) (w : World) :
    Calls Try.prog 92 #[.int .i64 p, .int .i64 q] w fun e w' => e = .returned (.int .i64 (md p q)) ∧ w = w' := by
  by_cases h3 : 1 ≤ q ∧ q ≤ 1000000000000
  · obtain ⟨h3, h4⟩ := h3
    have e2 := inr_t h3 h4
    obtain ⟨f1, f2⟩ := tmod_fix (p := p) (q := q) (by omega)
    have g1 := Int.lt_tmod_of_pos p (show 0 < q by omega)
    have g2 := Int.tmod_lt_of_pos p (show 0 < q by omega)
    have E2 := Lib.hid e2
    by_cases hs : p.tmod q < 0
    · have H := Lib.hid (f1 hs)
      clear f1 f2
      go_enter Try.func92, Try.ntmps92
      go_wp2_with (go_at_call 70; refine (inRange_any _ _ _ _).mono ?_; rintro e w' ⟨rfl, rfl⟩)
      go_ret
      exact ⟨ret_i (by have := E2.out; have := H.out; simp [md, *]), rfl⟩
    · have H := Lib.hid (f2 (by omega))
      clear f1 f2
      go_enter Try.func92, Try.ntmps92
      go_wp2_with (go_at_call 70; refine (inRange_any _ _ _ _).mono ?_; rintro e w' ⟨rfl, rfl⟩)
      go_ret
      exact ⟨ret_i (by have := E2.out; have := H.out; simp [md, *]), rfl⟩
  · have e2 : inr q 1 1000000000000 = false := inr_f (by omega)
    go_enter Try.func92, Try.ntmps92
    go_wp2_with (go_at_call 70; refine (inRange_any _ _ _ _).mono ?_; rintro e w' ⟨rfl, rfl⟩)
    go_ret
    exact ⟨ret_i (by simp [md, e2]), rfl⟩
theorem smod_eq {p q : Int} (e2 : inr q 1 1000000000000 = true) (hq : 0 < q) : (p.tmod q + q) % q = md p q := by
  obtain ⟨f1, f2⟩ := tmod_fix (p := p) hq
  rw [Int.add_emod_right]
  simp only [md, e2, if_true]
  by_cases h : p.tmod q < 0
  · rw [← f1 h, ← Int.add_emod_right (p.tmod q) q]
    have := f1 h
    rw [this, Int.emod_emod]
  · rw [f2 (by omega), Int.emod_emod]
theorem smod_any (p q : Int) (w : World) :
    Calls Try.prog 24 #[.int .i64 p, .int .i64 q] w fun e w' => e = .returned (.int .i64 (md p q)) ∧ w = w' := by
  by_cases h3 : 1 ≤ q ∧ q ≤ 1000000000000
  · obtain ⟨h3, h4⟩ := h3
    have e2 := inr_t h3 h4
    have g1 := Int.lt_tmod_of_pos p (show 0 < q by omega)
    have g2 := Int.tmod_lt_of_pos p (show 0 < q by omega)
    go_enter Try.func24, Try.ntmps24
    go_wp2_with (go_at_call 68; refine (l1In_any _ _ _ _).mono ?_; rintro e w' ⟨rfl, rfl⟩)
    go_ret
    exact ⟨ret_i (smod_eq e2 (by omega)), rfl⟩
  · have e2 : inr q 1 1000000000000 = false := inr_f (by omega)
    go_enter Try.func24, Try.ntmps24
    go_wp2_with (go_at_call 68; refine (l1In_any _ _ _ _).mono ?_; rintro e w' ⟨rfl, rfl⟩)
    go_ret
    exact ⟨ret_i (by simp [md, e2]), rfl⟩
end Go.Proofs.Ytmemjapmkoenmaa
