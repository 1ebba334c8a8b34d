/- Sums of the code of WithClaim. -/
import Derived.Test.YtncndlojceiejaaDoorDispMath
import Derived.Test.YtncndlojceiejaaDoorMg7
import Derived.Test.YtncndlojceiejaaDoorGraphOf
namespace Go.Proofs.YtncndlojceiejaaDoor
theorem setB_gr {N : Int} {X : List (List Int)} {S : List Int} (h : setB N X S = true) : gB N X = true := by
  unfold setB at h
  rw [Bool.and_eq_true] at h
  exact h.1
theorem wth_asc {n : Nat} {X : List (List Int)} {S : List Int} (hp : Prs n X) (ha : Asc X) (hS : S.Pairwise (· < ·)) : Asc (wthX n X S) := by
  unfold Asc wthX
  rw [List.pairwise_append, List.pairwise_map]
  refine ⟨ha, hS.imp fun h => ?_, fun x hx y hy => ?_⟩
  · rw [ltP_iff]; exact .inr ⟨rfl, h⟩
  · obtain ⟨p, q, rfl, h1, _⟩ := hp x hx
    obtain ⟨a, _, rfl⟩ := List.mem_map.1 hy
    rw [ltP_iff]
    exact .inl (by simp; omega)
theorem wth_prs {n : Nat} {X : List (List Int)} {S : List Int} (hp : Prs n X) (hS : ∀ z ∈ S, 0 ≤ z ∧ z < (n : Int)) : Prs (n + 1) (wthX n X S) := by
  intro x hx
  unfold wthX at hx
  rcases List.mem_append.1 hx with hx | hx
  · obtain ⟨p, q, rfl, h1, h2⟩ := hp x hx
    exact ⟨p, q, rfl, by omega, by omega⟩
  · obtain ⟨a, ha, rfl⟩ := List.mem_map.1 hx
    obtain ⟨h0, h1⟩ := hS a ha
    exact ⟨n, a.toNat, by rw [Int.toNat_of_nonneg h0], by omega, by omega⟩
/-- A claim can be added just if its victims are a set and there is room. -/
theorem wth_iff (N : Int) (X : List (List Int)) (S : List Int) : wthB N X S = (setB N X S && (N != 10)) := by
  rw [Bool.eq_iff_iff]
  constructor
  · intro h
    obtain ⟨n, rfl, hn, hg, _, _, _, ha, hS⟩ := wth_parts h
    rw [Bool.and_eq_true]
    refine ⟨(setB_iff hg).2 ⟨?_, hS⟩, by simp; omega⟩
    unfold Asc wthX at ha
    have h2 := (List.pairwise_append.1 ha).2.1
    rw [List.pairwise_map] at h2
    refine h2.imp fun h => ?_
    rw [ltP_iff] at h
    simpa using h
  · intro h
    rw [Bool.and_eq_true] at h
    obtain ⟨hs, h10⟩ := h
    have hg := setB_gr hs
    obtain ⟨n, rfl, hn, hp, ha⟩ := gB_ok hg
    have h9 : n ≤ 9 := by simp at h10; omega
    obtain ⟨h1, h2⟩ := (setB_iff hg).1 hs
    unfold wthB
    rw [Bool.and_eq_true, Bool.and_eq_true]
    refine ⟨⟨List.all_eq_true.2 fun a hm => inr_t (h2 a hm).1 (by have := (h2 a hm).2; omega), hg⟩, ?_⟩
    exact gB_of (n := n + 1) (by omega) (wth_prs hp h2) (wth_asc hp ha h1)
theorem glK_congr {f g : Nat → Nat} : ∀ k, (∀ a, a < k → f a = g a) → glK f k = glK g k
  | 0, _ => rfl
  | k + 1, h => by
    rw [glK_succ, glK_succ, glK_congr k fun a ha => h a (by omega)]
    unfold rowL
    rw [h k (by omega)]
/-- The rows with one more. -/
def putR (f : Nat → Nat) (n x : Nat) (k : Nat) : Nat := if k = n then x else f k
theorem with_code {n : Nat} {X : List (List Int)} {S : List Int} (hs : setB n X S = true) : glK (putR (rf n X) n (bS S)) (n + 1) = wthX n X S := by
  have hg := setB_gr hs
  rw [glK_succ, glK_congr (g := rf n X) n fun a ha => by unfold putR; rw [if_neg (by omega)]]
  have e1 : glK (rf n X) n = X := by
    obtain ⟨n', e, hn, hP, hA⟩ := gB_ok hg
    obtain rfl : n = n' := by omega
    have hr : rf n X = att X := by unfold rf; rw [if_pos hg]
    rw [hr]
    refine sorted_ext ltP_irr ltP_tr (glK_asc _ _) hA fun z => ?_
    rw [mem_glK]
    constructor
    · rintro ⟨a, b, _, _, ht, rfl⟩
      exact (att_mem hP a b).1 ht
    · intro hz
      obtain ⟨p, q, rfl, hp, hq⟩ := hP z hz
      exact ⟨p, q, hp, by omega, (att_mem hP p q).2 hz, rfl⟩
  rw [e1]
  unfold rowL putR wthX
  obtain ⟨n2, e2, hn2, _⟩ := gB_ok hg
  rw [if_pos rfl, lsT_bS hg (by omega) hs]
theorem putR_lt {f : Nat → Nat} {n x : Nat} (hf : ∀ a, f a < 65536) (hx : x < 65536) (k : Nat) : putR f n x k < 65536 := by
  unfold putR
  split
  · exact hx
  · exact hf k
/-- The graph with one more claim, or as it was. -/
def wtM (N : Int) (X : List (List Int)) (S : List Int) : Int := if wthB N X S then N + 1 else N
def wtY (N : Int) (X : List (List Int)) (S : List Int) : List (List Int) := if wthB N X S then wthX N X S else X
end Go.Proofs.YtncndlojceiejaaDoor
