/- Contracts of the models of chapter 5: IsSet, IsFree, Defends. No conditions but that the slices have at most 2^40 elements. -/
import Derived.Test.YtjhknafajfpldaaDoorMg20
import Derived.Test.YtjhknafajfpldaaDoorMg3
namespace Go.Proofs.YtjhknafajfpldaaDoor
open Go.ChangeShapes Go.WideShapes Go.ChangeAt Go.RowKit
set_option maxRecDepth 100000
theorem one_graph (w : World) (cs : Array Value) (t : TypeId) : ∃ W1 : World, W1 = w.alloc (Obj.cells cs t) ∧ Bx W1 w.heap.size t cs ∧ Below w.heap.size w W1 := ⟨_, rfl, Bx.made w t cs, (Below.refl _ _).alloc (Nat.le_refl _) _⟩
theorem any_takeF {α : Type} {X : List α} {f : α → Bool} {k : Nat} (hk : k < X.length) : (X.take (k + 1)).any f = ((X.take k).any f || f X[k]) := by
  rw [List.take_succ_eq_append_getElem hk, List.any_append]; simp
def okS (N : Int) (S : List Int) (i : Nat) : Bool := inr (S.getD i 0) 0 (N - 1) && (decide (i = 0) || decide (S.getD (i - 1) 0 < S.getD i 0))
def SPre (N : Int) (S : List Int) (k : Nat) : Prop := ∀ i, i < k → okS N S i = true
instance (N : Int) (S : List Int) (k : Nat) : Decidable (SPre N S k) := by unfold SPre; infer_instance
/-- Whether a list is a set of the graph's claims. -/
def setB (N : Int) (X : List (List Int)) (S : List Int) : Bool := gB N X && decide (SPre N S S.length)
theorem SPre.succ {N : Int} {S : List Int} {k : Nat} (h : SPre N S k) (hk : okS N S k = true) : SPre N S (k + 1) := fun i hi => by
  rcases Nat.lt_succ_iff_lt_or_eq.1 hi with h1 | rfl
  · exact h i h1
  · exact hk
theorem setB_bad {N : Int} {X : List (List Int)} {S : List Int} {k : Nat} (hk : k < S.length) (h : okS N S k = false) : setB N X S = false := by
  unfold setB
  rw [decide_eq_false (fun hp => by rw [hp k hk] at h; cases h), Bool.and_false]
theorem getD_i {S : List Int} {k : Nat} (h : k < S.length) : S.getD k 0 = S[k] := by simp [List.getD, h]
/-- Whether a list is free of quarrels. -/
def freeB (N : Int) (X : List (List Int)) (S : List Int) : Bool := !(S.any fun z => (hit N X S).contains z) && setB N X S
theorem hit_len (N : Int) (Y : List (List Int)) (S : List Int) : (hit N Y S).length ≤ 10 := by
  rw [← hit_code]
  exact lsT_len _ _
/-- Whether a set defends a claim. -/
def defB (N : Int) (X : List (List Int)) (S : List Int) (c : Int) : Bool := setB N X S && inr c 0 (N - 1) && !((atk N X c).any fun z => !((hit N X S).contains z))
theorem atk_lenF (N : Int) (X : List (List Int)) (c : Int) (h : gB N X = true) : (atk N X c).length ≤ X.length := by
  unfold atk
  rw [if_pos h, List.length_map]
  exact List.length_filter_le _ _
theorem atk_lenX (N : Int) (X : List (List Int)) (c : Int) : (atk N X c).length ≤ X.length := by
  by_cases h : gB N X = true
  · exact atk_lenF N X c h
  · unfold atk; rw [if_neg h]; simp
end Go.Proofs.YtjhknafajfpldaaDoor

/- Contracts of the models of chapter 5: DefendedBy, IsAdmissible, IsStable. No conditions but that the slices have at most 2^40 elements. -/
namespace Go.Proofs.YtjhknafajfpldaaDoor
open Go.ChangeShapes Go.WideShapes Go.ChangeAt Go.RowKit
set_option maxRecDepth 100000
def defT (N : Int) (X : List (List Int)) (S : List Int) (k : Nat) : List Int := ((List.range k).filter fun (j : Nat) => defB N X S j).map fun (j : Nat) => (j : Int)
/-- What a set defends. -/
def defL (N : Int) (X : List (List Int)) (S : List Int) : List Int := if setB N X S then defT N X S N.toNat else []
theorem defT_yes {N : Int} {X : List (List Int)} {S : List Int} {k : Nat} (h : defB N X S k = true) : defT N X S (k + 1) = defT N X S k ++ [(k : Int)] := by simp [defT, List.range_succ, h]
theorem defT_no {N : Int} {X : List (List Int)} {S : List Int} {k : Nat} (h : defB N X S k = false) : defT N X S (k + 1) = defT N X S k := by simp [defT, List.range_succ, h]
theorem defT_len (N : Int) (X : List (List Int)) (S : List Int) (k : Nat) : (defT N X S k).length ≤ k := by
  unfold defT
  rw [List.length_map]
  exact Nat.le_trans (List.length_filter_le _ _) (by simp)
theorem setB_g {N : Int} {X : List (List Int)} {S : List Int} (h : setB N X S = true) : gB N X = true := by
  unfold setB at h; rw [Bool.and_eq_true] at h; exact h.1
/-- Whether a set is admissible. -/
def admB (N : Int) (X : List (List Int)) (S : List Int) : Bool := !(S.any fun z => !(defB N X S z)) && freeB N X S
end Go.Proofs.YtjhknafajfpldaaDoor

/- Contract of the model of IsStable. No conditions but that the slices have at most 2^40 elements. -/
namespace Go.Proofs.YtjhknafajfpldaaDoor
open Go.ChangeShapes Go.WideShapes Go.ChangeAt Go.RowKit
set_option maxRecDepth 100000
def outP (N : Int) (X : List (List Int)) (S : List Int) (k : Nat) : Bool := !(S.contains (k : Int)) && !((hit N X S).contains (k : Int))
/-- Whether a set is stable. -/
def stabB (N : Int) (X : List (List Int)) (S : List Int) : Bool := !(setB N X S && (List.range N.toNat).any (outP N X S)) && freeB N X S
theorem range_any {f : Nat → Bool} {k : Nat} : (List.range (k + 1)).any f = ((List.range k).any f || f k) := by
  rw [List.range_succ, List.any_append]; simp
end Go.Proofs.YtjhknafajfpldaaDoor
