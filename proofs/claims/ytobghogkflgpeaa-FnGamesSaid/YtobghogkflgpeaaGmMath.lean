/- Sums of the law of games: a line has at most twice as many claims as the graph; what 'first' says. -/
import Derived.Test.YtobghogkflgpeaaMg31
namespace Go.Proofs.Ytobghogkflgpeaa
theorem rng10 : ∀ n : Fin 11, ((List.range 10).filter fun j => decide (j < n.val)).length ≤ n.val := by decide
theorem cntU_le {S : List Int} {n : Nat} (hn : n ≤ 10) (h : ∀ z ∈ S, 0 ≤ z ∧ z < (n : Int)) : cntU S ≤ n := by
  unfold cntU
  rw [lsT_flt]
  refine Nat.le_trans ?_ (rng10 ⟨n, by omega⟩)
  rw [← List.countP_eq_length_filter, ← List.countP_eq_length_filter]
  refine List.countP_mono_left fun j hj hb => ?_
  rw [bS_bit] at hb
  simp only [Bool.and_eq_true, decide_eq_true_eq, List.contains_iff_mem] at hb
  have := h (j : Int) (by first | exact hb.2 | exact hb.1)
  simp
  omega
theorem line_len {N : Int} {X : List (List Int)} {L : List Int} (h : lineB N X L = true) : gB N X = true ∧ (L.length : Int) ≤ 2 * N := by
  unfold lineB at h
  rw [Bool.and_eq_true, Bool.and_eq_true] at h
  obtain ⟨⟨hg, hall⟩, _⟩ := h
  refine ⟨hg, ?_⟩
  obtain ⟨n, rfl, hn, _, _⟩ := gB_ok hg
  have hs : ∀ i, i < L.length → stpB n X L i = true := fun i hi => List.all_eq_true.1 hall i (List.mem_range.2 hi)
  have hr : ∀ i, i < L.length → 0 ≤ L.getD i 0 ∧ L.getD i 0 < (n : Int) := fun i hi => by
    have := hs i hi
    simp only [stpB, Bool.and_eq_true, inr] at this
    obtain ⟨⟨h1, _⟩, _⟩ := this
    simp at h1
    simp only [List.getD_eq_getElem?_getD]
    omega
  have ho : ∀ t, 2 * t < L.length → (usd L t).contains (L.getD (2 * t) 0) = false := fun t ht => by
    have := hs (2 * t) ht
    simp only [stpB, Bool.and_eq_true, oddB] at this
    have h2 := this.2
    rw [show 2 * t / 2 = t by omega, show 2 * t % 2 = 0 by omega] at h2
    simpa using h2
  have hc := (cnt_usd (L := L) (j := (L.length + 1) / 2) (fun t ht => by have := hr (2 * t) (by omega); omega)).2.2 (fun t ht => ho t (by omega))
  have hm := cntU_le (S := usd L ((L.length + 1) / 2)) hn (fun z hz => by
    obtain ⟨t, ht, rfl⟩ := usd_mem.1 hz
    exact hr _ (by omega))
  omega
theorem winT_first {N : Int} {X : List (List Int)} {L : List Int} (h : winT N X L = frsT) : L.length % 2 = 1 ∧ (atk N X (L.getD (L.length - 1) 0)).length = 0 := by
  by_cases hb : lineB N X L = true
  · by_cases h0 : (winL N X L).length = 0
    · by_cases h2 : L.length % 2 = 0
      · rw [winT_sct hb h0 h2] at h; cases h
      · refine ⟨by omega, ?_⟩
        unfold winL at h0
        rwa [winU_odd h2, ansL_nil] at h0
    · rw [winT_none hb (by omega)] at h; cases h
  · rw [winT_no (by simpa using hb)] at h; cases h
theorem winT_some (N : Int) (X : List (List Int)) (L : List Int) : (decide (winT N X L = [])) = !(lineB N X L) := by
  by_cases hb : lineB N X L = true
  · rw [hb]
    by_cases h0 : (winL N X L).length = 0
    · by_cases h2 : L.length % 2 = 0
      · rw [winT_sct hb h0 h2]; rfl
      · rw [winT_frs hb h0 h2]; rfl
    · rw [winT_none hb (by omega)]; rfl
  · have hb : lineB N X L = false := by simpa using hb
    rw [winT_no hb, hb]; rfl
theorem can_grdC (N : Int) (X : List (List Int)) (c : Int) : canW N X c = (grd N X).contains c := canW_grd N X c
end Go.Proofs.Ytobghogkflgpeaa
