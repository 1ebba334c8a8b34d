/- What the law of chapter 5 says of the sums: without code. -/
import Derived.Test.YtncndlojceiejaaFreeB
namespace Go.Proofs.Ytncndlojceiejaa
theorem free_iff {n : Nat} {X : List (List Int)} {S : List Int} : freeB n X S = true ↔ setB n X S = true ∧ ∀ z ∈ S, z ∉ hit n X S := by
  unfold freeB
  rw [Bool.and_eq_true, Bool.not_eq_true', List.any_eq_false]
  constructor
  · rintro ⟨h1, h2⟩
    exact ⟨h2, fun z hz h => h1 z hz (List.contains_iff_mem.2 h)⟩
  · rintro ⟨h1, h2⟩
    exact ⟨fun z hz h => h2 z hz (List.contains_iff_mem.1 h), h1⟩
theorem adm_iff {N : Int} {X : List (List Int)} {S : List Int} : admB N X S = true ↔ freeB N X S = true ∧ ∀ z ∈ S, defB N X S z = true := by
  unfold admB
  rw [Bool.and_eq_true, Bool.not_eq_true', List.any_eq_false]
  constructor
  · rintro ⟨h1, h2⟩
    exact ⟨h2, fun z hz => by simpa using h1 z hz⟩
  · rintro ⟨h1, h2⟩
    exact ⟨fun z hz => by simp [h2 z hz], h1⟩
theorem adm_free {N : Int} {X : List (List Int)} {S : List Int} (h : admB N X S = true) : freeB N X S = true := (adm_iff.1 h).1
theorem stab_adm {N : Int} {X : List (List Int)} {S : List Int} (h : stabB N X S = true) : admB N X S = true := by
  unfold stabB at h
  rw [Bool.and_eq_true, Bool.not_eq_true'] at h
  obtain ⟨h1, hf⟩ := h
  have hs := free_set hf
  have hg := setB_g hs
  obtain ⟨n, rfl, _, hp, _⟩ := gB_ok hg
  rw [hs, Bool.true_and, List.any_eq_false] at h1
  obtain ⟨_, hq⟩ := free_iff.1 hf
  refine adm_iff.2 ⟨hf, fun z hz => (defB_iff hg hp z).2 ⟨hs, ((setB_iff hg).1 hs).2 z hz, fun y hy => ?_⟩⟩
  obtain ⟨p, q, e, hpn, hqn⟩ := hp _ hy
  injection e with e1 e2
  subst e1
  have h3 := h1 p (List.mem_range.2 (by simpa using hpn))
  unfold outP at h3
  by_cases hS : (p : Int) ∈ S
  · exact absurd ((hit_mem hg hp z).2 ⟨p, hS, hy⟩) (hq z hz)
  · rw [Bool.and_eq_true, Bool.not_eq_true', Bool.not_eq_true'] at h3
    by_cases hH : (p : Int) ∈ hit n X S
    · exact hH
    · exact absurd ⟨by simpa using hS, by simpa using hH⟩ h3
theorem adm_within {N : Int} {X : List (List Int)} {S : List Int} (h : admB N X S = true) : ∀ z ∈ S, z ∈ defL N X S := fun z hz => by
  obtain ⟨hf, hd⟩ := adm_iff.1 h
  have hg := setB_g (free_set hf)
  obtain ⟨n, rfl, _, hp, _⟩ := gB_ok hg
  exact (defL_mem hg hp z).2 (hd z hz)
theorem all_within {S T : List Int} (h : ∀ z ∈ S, z ∈ T) : (S.all fun z => T.contains z) = true := List.all_eq_true.2 fun z hz => List.contains_iff_mem.2 (h z hz)
theorem defL_contains (N : Int) (X : List (List Int)) {S : List Int} (hs : setB N X S = true) (c : Int) : (defL N X S).contains c = defB N X S c := by
  have hg := setB_g hs
  obtain ⟨n, rfl, _, hp, _⟩ := gB_ok hg
  rw [Bool.eq_iff_iff, List.contains_iff_mem]
  exact defL_mem hg hp c
theorem defL_less {N : Int} {X : List (List Int)} {S S' : List Int} (h' : setB N X S' = true) (h : ∀ z ∈ S, z ∈ S') : ((defL N X S).all fun z => (defL N X S').contains z) = true := by
  have hg := setB_g h'
  obtain ⟨n, rfl, _, hp, _⟩ := gB_ok hg
  exact all_within (defL_mono hg hp h h')
/-- What a set defends that defends itself is free of quarrels too. -/
theorem adm_next {N : Int} {X : List (List Int)} {S : List Int} (h : admB N X S = true) : freeB N X (defL N X S) = true := by
  obtain ⟨hf, hd⟩ := adm_iff.1 h
  have hg := setB_g (free_set hf)
  obtain ⟨n, rfl, _, hp, _⟩ := gB_ok hg
  obtain ⟨_, hq⟩ := free_iff.1 hf
  refine free_iff.2 ⟨defL_set hg hp, fun z hz hh => ?_⟩
  obtain ⟨c, hc, hx⟩ := (hit_mem hg hp z).1 hh
  have h1 := ((defB_iff hg hp z).1 ((defL_mem hg hp z).1 hz)).2.2 c hx
  obtain ⟨s, hs, hx1⟩ := (hit_mem hg hp c).1 h1
  have h2 := ((defB_iff hg hp c).1 ((defL_mem hg hp c).1 hc)).2.2 s hx1
  exact hq s hs h2
theorem adm_step {N : Int} {X : List (List Int)} {S : List Int} (h : admB N X S = true) : admB N X (defL N X S) = true := by
  have hw := adm_within h
  have hg := setB_g (free_set (adm_free h))
  obtain ⟨n, rfl, _, hp, _⟩ := gB_ok hg
  exact adm_iff.2 ⟨adm_next h, fun z hz => (defL_mem hg hp z).1 (defL_mono hg hp hw (defL_set hg hp) z hz)⟩
end Go.Proofs.Ytncndlojceiejaa
