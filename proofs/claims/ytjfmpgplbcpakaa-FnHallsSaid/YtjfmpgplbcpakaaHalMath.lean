/- Mathematics of chapter 18: valid hearers (hrB), who moved (movN), gains (gaiI), the winner of the hall (halN), who did not move (unmN). No conditions. -/
import Derived.Test.YtjfmpgplbcpakaaRow2
import Derived.Test.YtjfmpgplbcpakaaInts
namespace Go.Proofs.Ytjfmpgplbcpakaa
open Go.ChangeShapes Go.WideShapes Go.ChangeAt Go.RowKit
def hrOk (p : T2) : Bool := inr p.1 0 2 && inr p.2 0 2
def hrB (X : List T2) : Bool := X.all hrOk && decide (X.length ≤ 100)
/-- How many of the first k are so. -/
def cnt2 (f : T2 → Bool) (X : List T2) (k : Nat) : Nat := (X.take k).countP f
theorem cnt2_zero (f : T2 → Bool) (X : List T2) : cnt2 f X 0 = 0 := rfl
theorem cnt2_succ (f : T2 → Bool) {X : List T2} {k : Nat} (h : k < X.length) : cnt2 f X (k + 1) = cnt2 f X k + (if f X[k] then 1 else 0) := by
  unfold cnt2
  rw [List.take_succ_eq_append_getElem h, List.countP_append, List.countP_singleton]
theorem cnt2_le (f : T2 → Bool) (X : List T2) (k : Nat) : cnt2 f X k ≤ k := by
  unfold cnt2
  have := List.countP_le_length (p := f) (l := X.take k)
  simp at this
  omega
theorem cnt2_all (f : T2 → Bool) {X : List T2} {n : Nat} (h : X.length = n) : cnt2 f X n = X.countP f := by
  unfold cnt2
  rw [List.take_of_length_le (by omega)]
def mvF (a b : Int) (p : T2) : Bool := p.1 == a && p.2 == b
def afF (s : Int) (p : T2) : Bool := p.2 == s
def beF (s : Int) (p : T2) : Bool := p.1 == s
def unF (p : T2) : Bool := p.1 == p.2
def movN (X : List T2) (a b : Int) : Nat := X.countP (mvF a b)
def aftN (X : List T2) (s : Int) : Nat := X.countP (afF s)
def befN (X : List T2) (s : Int) : Nat := X.countP (beF s)
def unmN (X : List T2) : Nat := X.countP unF
def gaiI (X : List T2) (s : Int) : Int := (aftN X s : Int) - (befN X s : Int)
/-- 1, 2 or 0: who has more. -/
def morI (a b : Int) : Int := if b < a then 1 else if a < b then 2 else 0
def halN (X : List T2) : Int := if hrB X then (if morI (gaiI X 1) (gaiI X 2) = 0 then morI (aftN X 1) (aftN X 2) else morI (gaiI X 1) (gaiI X 2)) else 0
theorem hr_no {X : List T2} {k : Nat} (hk : k < X.length) (h : hrOk X[k] = false) : hrB X = false := by
  unfold hrB
  have : X.all hrOk = false := by
    rw [List.all_eq_false]
    exact ⟨X[k], List.getElem_mem _, by simp [h]⟩
  rw [this, Bool.false_and]
theorem hr_snoc {X : List T2} {k : Nat} (h : (X.take k).all hrOk = true) (hk : k < X.length) (h2 : hrOk X[k] = true) : (X.take (k + 1)).all hrOk = true := by
  rw [List.take_succ_eq_append_getElem hk, List.all_append, h, List.all_cons, h2]
  rfl
theorem hr_end {X : List T2} {n : Nat} (hl : X.length = n) (h : (X.take n).all hrOk = true) : hrB X = decide (n ≤ 100) := by
  unfold hrB
  rw [List.take_of_length_le (by omega)] at h
  rw [h, hl, Bool.true_and]
theorem hr_big {X : List T2} (h : 100 < X.length) : hrB X = false := by
  unfold hrB
  rw [decide_eq_false (show ¬ X.length ≤ 100 by omega), Bool.and_false]
end Go.Proofs.Ytjfmpgplbcpakaa
