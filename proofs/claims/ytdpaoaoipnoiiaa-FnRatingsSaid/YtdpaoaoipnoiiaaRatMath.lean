/- The mathematics of ratings (chapter 25): what is expected (expI), what is exchanged (excI), what a list of results makes of ratings (ratL), and that nothing is lost. No conditions. -/
import Derived.Test.YtdpaoaoipnoiiaaMg2
namespace Go.Proofs.Ytdpaoaoipnoiiaa
def clp (x lo hi : Int) : Int := mn (mx x lo) hi
theorem clp_in {x lo hi : Int} (h : lo ≤ hi) : lo ≤ clp x lo hi ∧ clp x lo hi ≤ hi := by
  unfold clp mn mx; split <;> split <;> omega
theorem clp_cases (x lo hi : Int) (h : lo ≤ hi) : (x < lo ∧ clp x lo hi = lo) ∨ (hi < x ∧ clp x lo hi = hi) ∨ (lo ≤ x ∧ x ≤ hi ∧ clp x lo hi = x) := by
  unfold clp mn mx; split <;> split <;> omega
theorem tdiv_pos (d q : Int) : (0 ≤ d ∧ d.tdiv q = d / q) ∨ (d < 0 ∧ d.tdiv q = -((-d) / q)) := by
  rcases Int.lt_or_le d 0 with h | h
  · right
    refine ⟨h, ?_⟩
    have e : d.tdiv q = -((-d).tdiv q) := by rw [Int.neg_tdiv]; omega
    rw [e, Int.tdiv_eq_ediv_of_nonneg (by omega)]
  · exact .inl ⟨h, Int.tdiv_eq_ediv_of_nonneg h⟩
theorem tdiv_abs (d : Int) {q : Int} (hq : 0 < q) : (0 ≤ d → 0 ≤ d.tdiv q ∧ d.tdiv q ≤ d) ∧ (d ≤ 0 → d ≤ d.tdiv q ∧ d.tdiv q ≤ 0) := by
  rcases tdiv_pos d q with ⟨h, e⟩ | ⟨h, e⟩
  · rw [e]
    have h1 : 0 ≤ d / q := Int.ediv_nonneg h (by omega)
    have h2 : d / q ≤ d := Int.ediv_le_self q h
    exact ⟨fun _ => ⟨h1, h2⟩, fun h3 => by
      have : d = 0 := by omega
      subst this
      simp⟩
  · rw [e]
    have h1 : 0 ≤ (-d) / q := Int.ediv_nonneg (by omega) (by omega)
    have h2 : (-d) / q ≤ -d := Int.ediv_le_self q (by omega)
    exact ⟨fun h3 => by omega, fun _ => ⟨by omega, by omega⟩⟩
def expV (a b : Int) : Int := clp (500 + (a - b).tdiv 2) 50 950
def ratB (a b : Int) : Bool := inr a 0 3000 && inr b 0 3000
def expI (a b : Int) : Int := if ratB a b then expV a b else -1
theorem expV_in (a b : Int) : 50 ≤ expV a b ∧ expV a b ≤ 950 := clp_in (by omega)
theorem expI_in (a b : Int) : -1 ≤ expI a b ∧ expI a b ≤ 950 := by
  unfold expI
  have := expV_in a b
  split <;> omega
theorem inr_iff {n lo hi : Int} : inr n lo hi = true ↔ lo ≤ n ∧ n ≤ hi := by simp [inr]
theorem ratB_iff {a b : Int} : ratB a b = true ↔ (0 ≤ a ∧ a ≤ 3000) ∧ (0 ≤ b ∧ b ≤ 3000) := by simp [ratB, inr_iff]
/-- The model's way to the same number. -/
theorem expV_s (a b : Int) : mx 50 (mn 950 (500 + (a - b).tdiv 2)) = expV a b := by
  unfold expV clp mn mx
  split <;> split <;> split <;> (try split) <;> omega
theorem expV_sum (a b : Int) : expV a b + expV b a = 1000 := by
  unfold expV
  have e : (b - a).tdiv 2 = -((a - b).tdiv 2) := by rw [← Int.neg_tdiv]; congr 1; omega
  rw [e]
  have h1 := clp_cases (500 + (a - b).tdiv 2) 50 950 (by omega)
  have h2 := clp_cases (500 + -(a - b).tdiv 2) 50 950 (by omega)
  omega
def scd (won : Bool) : Int := if won then 1000 else 0
/-- What the first one gains. -/
def chg (a b e : Int) (won : Bool) : Int := clp ((32 * (scd won - e)).tdiv 1000) (mx (-a) (b - 3000)) (mn (3000 - a) b)
theorem chg_lohi {a b : Int} (h : ratB a b = true) : mx (-a) (b - 3000) ≤ 0 ∧ 0 ≤ mn (3000 - a) b ∧ -3000 ≤ mx (-a) (b - 3000) ∧ mn (3000 - a) b ≤ 3000 := by
  have := ratB_iff.1 h
  unfold mn mx
  split <;> split <;> omega
/-- The model's way to the same number. -/
theorem chg_s {a b e : Int} {won : Bool} (h : ratB a b = true) : mx (mn ((32 * (scd won - e)).tdiv 1000) (mn (3000 - a) b)) (mx (-a) (b - 3000)) = chg a b e won := by
  have h2 := chg_lohi h
  unfold chg
  have h3 := clp_cases ((32 * (scd won - e)).tdiv 1000) (mx (-a) (b - 3000)) (mn (3000 - a) b) (by omega)
  generalize mx (-a) (b - 3000) = lo at *
  generalize mn (3000 - a) b = hi at *
  generalize (32 * (scd won - e)).tdiv 1000 = x at *
  unfold mn mx at *
  split <;> split <;> omega
theorem chg_in {a b e : Int} {won : Bool} (h : ratB a b = true) : -a ≤ chg a b e won ∧ b - 3000 ≤ chg a b e won ∧ chg a b e won ≤ 3000 - a ∧ chg a b e won ≤ b := by
  have h2 := chg_lohi h
  have h3 := clp_in (x := (32 * (scd won - e)).tdiv 1000) (lo := mx (-a) (b - 3000)) (hi := mn (3000 - a) b) (by omega)
  have h4 : -a ≤ mx (-a) (b - 3000) ∧ b - 3000 ≤ mx (-a) (b - 3000) := by unfold mx; split <;> omega
  have h5 : mn (3000 - a) b ≤ 3000 - a ∧ mn (3000 - a) b ≤ b := by unfold mn; split <;> omega
  unfold chg
  omega
theorem chg_sign {a b e : Int} {won : Bool} (h : ratB a b = true) (he : 50 ≤ e ∧ e ≤ 950) : (won = true → 0 ≤ chg a b e won) ∧ (won = false → chg a b e won ≤ 0) := by
  have h2 := chg_lohi h
  have h3 := clp_cases ((32 * (scd won - e)).tdiv 1000) (mx (-a) (b - 3000)) (mn (3000 - a) b) (by omega)
  have h4 := tdiv_abs (32 * (scd won - e)) (q := 1000) (by omega)
  unfold chg
  cases won with
  | true =>
    simp only [scd, if_true] at *
    exact ⟨fun _ => by have := h4.1 (by omega); omega, fun h => by cases h⟩
  | false =>
    simp only [scd] at *
    exact ⟨fun h => (by cases h), fun _ => by have := h4.2 (by simp; omega); simp at this h3 ⊢; omega⟩
def excI (a b : Int) (won : Bool) : Int := if ratB a b then chg a b (expV a b) won else 0
theorem excI_ok {a b : Int} {won : Bool} (h : ratB a b = true) : excI a b won = chg a b (expV a b) won := if_pos h
theorem excI_no {a b : Int} {won : Bool} (h : ratB a b = false) : excI a b won = 0 := by unfold excI; rw [h]; rfl
theorem expI_ok {a b : Int} (h : ratB a b = true) : expI a b = expV a b := if_pos h
theorem expI_no {a b : Int} (h : ratB a b = false) : expI a b = -1 := by unfold expI; rw [h]; rfl
end Go.Proofs.Ytdpaoaoipnoiiaa
