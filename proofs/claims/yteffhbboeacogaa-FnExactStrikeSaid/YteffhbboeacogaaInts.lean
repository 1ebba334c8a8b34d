/- Contracts of the smallest functions of chapter 1 (InRange, Min, Max, CeilDiv, Mod) and of their models: each returns the integer or truth value that a plain Lean function names, for every input. No conditions. -/
import Derived.Test.YteffhbboeacogaaRows
import Derived.WalkKit
import Derived.ProofKit
import Derived.OpenShut
import Derived.LoopN
import Derived.Handy
import Derived.Lib.Hide
import Derived.IntWalk
import Derived.Test.YteffhbboeacogaaBase
namespace Go.Proofs.Yteffhbboeacogaa
open Go.ChangeShapes Go.WideShapes Go.ChangeAt Go.RowKit
def mn (a b : Int) : Int := if b < a then b else a
def mx (a b : Int) : Int := if b > a then b else a
theorem mn_t {a b : Int} (h : b < a) : mn a b = b := if_pos h
theorem mn_f {a b : Int} (h : ¬ b < a) : mn a b = a := if_neg h
theorem mx_t {a b : Int} (h : b < a) : mx a b = a := if_neg (by omega)
theorem mx_f {a b : Int} (h : ¬ b < a) : mx a b = b := by unfold mx; split <;> omega
theorem extreme_min (a b : Int) (w : World) (B : Nat) (hc : w.cell? ⟨B, 0, none⟩ = some (.int .i64 b)) :
    Calls Try.prog 94 #[.bool true, .int .i64 a, .slice (some ⟨B, 0, none⟩) 1 1] w fun e w' => e = .returned (.int .i64 (mn a b)) ∧ w = w' := by
  by_cases h : b < a
  all_goals
    first | (have hd : decide (b < a) = true := by simpa using h) | (have hd : decide (b < a) = false := by simpa using h)
    first | (have H := mn_t h) | (have H := mn_f h)
    have HH := Lib.hid H
    clear H
    go_enter Try.func94, Try.ntmps94
    go_wp2
    refine wp_loop_rounds 2 ?_
    rw [rounds_succ]
    go_wp2
    rw [rounds_succ]
    go_wp2
    go_ret
    exact ⟨ret_i (HH.out).symm, rfl⟩
theorem extreme_max (a b : Int) (w : World) (B : Nat) (hc : w.cell? ⟨B, 0, none⟩ = some (.int .i64 b)) :
    Calls Try.prog 94 #[.bool false, .int .i64 a, .slice (some ⟨B, 0, none⟩) 1 1] w fun e w' => e = .returned (.int .i64 (mx a b)) ∧ w = w' := by
  by_cases h : b < a
  all_goals
    first | (have hd : decide (b < a) = true := by simpa using h) | (have hd : decide (b < a) = false := by simpa using h)
    first | (have H := mx_t h) | (have H := mx_f h)
    have HH := Lib.hid H
    clear H
    go_enter Try.func94, Try.ntmps94
    go_wp2
    refine wp_loop_rounds 2 ?_
    rw [rounds_succ]
    go_wp2
    rw [rounds_succ]
    go_wp2
    go_ret
    exact ⟨ret_i (HH.out).symm, rfl⟩
theorem min_any (a b : Int) (w : World) :
    Calls Try.prog 80 #[.int .i64 a, .int .i64 b] w fun e w' => e = .returned (.int .i64 (mn a b)) ∧ w.alloc (Obj.cells #[Value.int IntKind.i64 b] 3) = w' := by
  go_enter Try.func80, Try.ntmps80
  go_wp2_with (go_at_call 94; refine (extreme_min a b _ w.heap.size (by simp)).mono ?_; rintro e w' ⟨rfl, rfl⟩)
  go_ret
  exact ⟨rfl, rfl⟩
def inr (n lo hi : Int) : Bool := decide (lo ≤ n) && decide (n ≤ hi)
theorem inr_t {n lo hi : Int} (h1 : lo ≤ n) (h2 : n ≤ hi) : inr n lo hi = true := by simp [inr, h1, h2]
theorem inr_f {n lo hi : Int} (h : n < lo ∨ hi < n) : inr n lo hi = false := by
  rcases h with h | h <;> simp [inr] <;> omega
theorem inRange_any (n lo hi : Int) (w : World) :
    Calls Try.prog 60 #[.int .i64 n, .int .i64 lo, .int .i64 hi] w fun e w' => e = .returned (.bool (inr n lo hi)) ∧ w = w' := by
  by_cases h1 : lo ≤ n
  · have d1 : decide (lo ≤ n) = true := by simpa using h1
    go_enter Try.func60, Try.ntmps60
    go_wp2
    all_goals go_ret
    all_goals exact ⟨ret_b (by simp [inr, h1]), rfl⟩
  · have d1 : decide (lo ≤ n) = false := by simpa using h1
    go_enter Try.func60, Try.ntmps60
    go_wp2
    all_goals go_ret
    all_goals exact ⟨ret_b (by simp [inr]; omega), rfl⟩
theorem l1In_any (n lo hi : Int) (w : World) :
    Calls Try.prog 68 #[.int .i64 n, .int .i64 lo, .int .i64 hi] w fun e w' => e = .returned (.bool (inr n lo hi)) ∧ w = w' := by
  by_cases h1 : lo ≤ n
  · have d1 : decide (lo ≤ n) = true := by simpa using h1
    go_enter Try.func68, Try.ntmps68
    go_wp2
    all_goals go_ret
    all_goals exact ⟨ret_b (by simp [inr, h1]), rfl⟩
  · have d1 : decide (lo ≤ n) = false := by simpa using h1
    go_enter Try.func68, Try.ntmps68
    go_wp2
    all_goals go_ret
    all_goals exact ⟨ret_b (by simp [inr]; omega), rfl⟩
def cdiv (a b : Int) : Int := if inr a 0 1000000000000 && inr b 1 1000000000000 then (a + b - 1) / b else 0
def md (p q : Int) : Int := if inr q 1 1000000000000 then p % q else 0
theorem tmod_fix {p q : Int} (hq : 0 < q) : (p.tmod q < 0 → p.tmod q + q = p % q) ∧ (0 ≤ p.tmod q → p.tmod q = p % q) := by
  have h1 := Int.emod_nonneg p (show q ≠ 0 by omega)
  have h2 := Int.emod_lt_of_pos p hq
  rw [Int.tmod_eq_emod]
  split <;> constructor <;> intro h <;> omega
theorem smod_eq {p q : Int} (e2 : inr q 1 1000000000000 = true) (hq : 0 < q) : (p.tmod q + q) % q = md p q := by
  obtain ⟨f1, f2⟩ := tmod_fix (p := p) hq
  rw [Int.add_emod_right]
  simp only [md, e2, if_true]
  by_cases h : p.tmod q < 0
  · rw [← f1 h, ← Int.add_emod_right (p.tmod q) q]
    have := f1 h
    rw [this, Int.emod_emod]
  · rw [f2 (by omega), Int.emod_emod]
end Go.Proofs.Yteffhbboeacogaa
