/- Sums of chapter 8, without code: the game about a claim, and that one can win it just about what stands in any case. -/
import Derived.Test.YtjhknafajfpldaaDoorMg27
namespace Go.Proofs.YtjhknafajfpldaaDoor
/-- What the one who proposed can answer to a claim. -/
def ansL (N : Int) (X : List (List Int)) (U : List Int) (c : Int) : List Int := (atk N X c).filter fun a => !(U.contains a)
def winF (N : Int) (X : List (List Int)) : Nat → List Int → Int → Bool
  | 0, _, _ => false
  | k + 1, U, c => (atk N X c).all fun a => (ansL N X U a).any fun b => winF N X k (U ++ [b]) b
/-- Whether the one who proposed, who used the claims U and said c last, wins. -/
def winB (N : Int) (X : List (List Int)) (U : List Int) (c : Int) : Bool := winF N X 11 U c
def bestB (N : Int) (X : List (List Int)) (U : List Int) (c : Int) : Int := ((ansL N X U c).find? fun b => winB N X (U ++ [b]) b).getD (-1)
/-- How many claims were not used. -/
def fre (N : Int) (U : List Int) : Nat := ((List.range N.toNat).filter fun (j : Nat) => !(U.contains (j : Int))).length
theorem ansL_mem {N : Int} {X : List (List Int)} {U : List Int} {c b : Int} : b ∈ ansL N X U c ↔ b ∈ atk N X c ∧ b ∉ U := by
  unfold ansL
  rw [List.mem_filter]
  simp
theorem atk_claim {N : Int} {X : List (List Int)} {c b : Int} (h : b ∈ atk N X c) : ∃ n p : Nat, N = n ∧ n ≤ 10 ∧ b = p ∧ p < n := by
  cases hg : gB N X with
  | false => unfold atk at h; rw [hg] at h; cases h
  | true =>
    obtain ⟨n, rfl, hn, hp, _⟩ := gB_ok hg
    obtain ⟨p, q, e, h1, _⟩ := hp _ ((atk_mem hg hp c b).1 h)
    injection e with e1 _
    exact ⟨n, p, rfl, hn, e1, h1⟩
theorem filt_less {α : Type} {p q : α → Bool} : ∀ {l : List α}, (∀ x ∈ l, q x = true → p x = true) → (∃ x ∈ l, p x = true ∧ q x = false) → (l.filter q).length < (l.filter p).length
  | [], _, ⟨x, hx, _⟩ => by cases hx
  | y :: l, h, ⟨x, hx, h1, h2⟩ => by
    have hle : (l.filter q).length ≤ (l.filter p).length := by
      clear hx h1 h2
      induction l with
      | nil => simp
      | cons z l ih =>
        have ih := ih (fun x hx => h x (by rcases List.mem_cons.1 hx with rfl | hx; exact List.mem_cons_self; exact List.mem_cons_of_mem _ (List.mem_cons_of_mem _ hx)))
        have hz := h z (by simp)
        rw [List.filter_cons, List.filter_cons]
        cases hq : q z with
        | true => rw [hz hq]; simpa using ih
        | false => cases hp : p z <;> simp <;> omega
    rw [List.filter_cons, List.filter_cons]
    rcases List.mem_cons.1 hx with rfl | hx
    · rw [h1, h2]
      simp
      omega
    · have := filt_less (fun x hx => h x (List.mem_cons_of_mem _ hx)) ⟨x, hx, h1, h2⟩
      have hy := h y (by simp)
      cases hq : q y with
      | true => rw [hy hq]; simp; omega
      | false => cases hp : p y <;> simp <;> omega
theorem fre_less {N : Int} {X : List (List Int)} {U : List Int} {c b : Int} (h : b ∈ ansL N X U c) : fre N (U ++ [b]) < fre N U := by
  obtain ⟨h1, h2⟩ := ansL_mem.1 h
  obtain ⟨n, p, rfl, _, rfl, hp⟩ := atk_claim h1
  unfold fre
  refine filt_less (fun x _ hx => ?_) ⟨p, List.mem_range.2 (by simpa using hp), by simpa using h2, by simp⟩
  simp at hx ⊢
  exact hx.1
theorem fre_le {N : Int} {X : List (List Int)} (h : gB N X = true) (U : List Int) : fre N U ≤ 10 := by
  obtain ⟨n, rfl, hn, _, _⟩ := gB_ok h
  refine Nat.le_trans (List.length_filter_le _ _) ?_
  simpa using hn
theorem win_fuel {N : Int} {X : List (List Int)} : ∀ (k j : Nat) (U : List Int) (c : Int), fre N U < k → fre N U < j → winF N X k U c = winF N X j U c
  | 0, _, _, _, h, _ => by omega
  | _ + 1, 0, _, _, _, h => by omega
  | k + 1, j + 1, U, c, h1, h2 => by
    unfold winF
    congr 1
    funext a
    rw [Bool.eq_iff_iff, List.any_eq_true, List.any_eq_true]
    have key : ∀ b ∈ ansL N X U a, winF N X k (U ++ [b]) b = winF N X j (U ++ [b]) b := fun b hb => by
      have := fre_less hb
      exact win_fuel k j _ _ (by omega) (by omega)
    constructor
    · rintro ⟨b, hb, hw⟩
      exact ⟨b, hb, (key b hb) ▸ hw⟩
    · rintro ⟨b, hb, hw⟩
      exact ⟨b, hb, (key b hb).symm ▸ hw⟩
theorem win_unf {N : Int} {X : List (List Int)} (k : Nat) (U : List Int) (c : Int) (h : fre N U < k) : winF N X k U c = (atk N X c).all fun a => (ansL N X U a).any fun b => winF N X k (U ++ [b]) b :=
  (win_fuel k (k + 1) U c h (by omega)).trans rfl
theorem win_none {N : Int} {X : List (List Int)} (k : Nat) (U : List Int) (c : Int) (h : atk N X c = []) : winF N X (k + 1) U c = true := by
  unfold winF
  rw [h]
  rfl
theorem win_step (N : Int) (X : List (List Int)) (U : List Int) (c : Int) : winB N X U c = (atk N X c).all fun a => (ansL N X U a).any fun b => winB N X (U ++ [b]) b := by
  cases hg : gB N X with
  | false =>
    have : atk N X c = [] := by unfold atk; rw [hg]; rfl
    rw [this]
    exact win_none 10 U c this
  | true =>
    have h := fre_le hg U
    exact win_unf 11 U c (by omega)
theorem best_neg (N : Int) (X : List (List Int)) (U : List Int) (c : Int) : decide (bestB N X U c < 0) = !((ansL N X U c).any fun b => winB N X (U ++ [b]) b) := by
  unfold bestB
  cases hf : (ansL N X U c).find? fun b => winB N X (U ++ [b]) b with
  | none =>
    have := List.find?_eq_none.1 hf
    rw [List.any_eq_false.2 this]
    rfl
  | some b =>
    have hb := List.mem_of_find?_eq_some hf
    have hw := List.find?_some hf
    have hany : ((ansL N X U c).any fun b => winB N X (U ++ [b]) b) = true := List.any_eq_true.2 ⟨b, hb, hw⟩
    rw [hany]
    obtain ⟨n, p, _, _, rfl, _⟩ := atk_claim (ansL_mem.1 hb).1
    exact decide_eq_false (by simp)
theorem win_best (N : Int) (X : List (List Int)) (U : List Int) (c : Int) : winB N X U c = (atk N X c).all fun a => !(decide (bestB N X U a < 0)) := by
  rw [win_step]
  congr 1
  funext a
  rw [best_neg, Bool.not_not]
theorem best_in {N : Int} {X : List (List Int)} {U : List Int} {c : Int} (h : 0 ≤ bestB N X U c) : bestB N X U c ∈ ansL N X U c := by
  unfold bestB at h ⊢
  cases hf : (ansL N X U c).find? fun b => winB N X (U ++ [b]) b with
  | none => rw [hf] at h; exact absurd h (by simp)
  | some b => exact List.mem_of_find?_eq_some hf
section
variable {N : Int} {X : List (List Int)} (hg : gB N X = true)
include hg
/-- Whoever wins about a claim: it stands. -/
theorem win_grd (k : Nat) : ∀ (U : List Int) (c : Int), winF N X k U c = true → (0 ≤ c ∧ c < N) → c ∈ grd N X := by
  obtain ⟨n, rfl, hn, hp, _⟩ := gB_ok hg
  induction k with
  | zero => intro U c h; cases h
  | succ k ih =>
    intro U c h hc
    rw [← grd_fix hg, defL_mem hg hp, defB_iff hg hp]
    refine ⟨it_set hg hp 10, hc, fun z hz => ?_⟩
    have h := List.all_eq_true.1 h z ((atk_mem hg hp c z).2 hz)
    obtain ⟨b, hb, hw⟩ := List.any_eq_true.1 h
    obtain ⟨hb, _⟩ := ansL_mem.1 hb
    obtain ⟨m, p, e, _, rfl, hpm⟩ := atk_claim hb
    have hb' := ih _ _ hw (by omega)
    exact (hit_mem hg hp z).2 ⟨_, hb', (atk_mem hg hp z _).1 hb⟩
theorem it_first (c : Int) (k : Nat) (h : c ∈ itS N X k) : ∃ j, j ≤ k ∧ c ∈ itS N X j ∧ ∀ i, i < j → c ∉ itS N X i := by
  induction k with
  | zero => cases h
  | succ k ih =>
    by_cases hk : c ∈ itS N X k
    · obtain ⟨j, h1, h2, h3⟩ := ih hk
      exact ⟨j, by omega, h2, h3⟩
    · refine ⟨k + 1, Nat.le_refl _, h, fun i hi hin => hk ?_⟩
      obtain ⟨d, rfl⟩ : ∃ d, k = i + d := ⟨k - i, by omega⟩
      exact it_sub hg i d c hin
/-- What is there after k steps can be won, if nothing is used that is there after fewer. -/
theorem grd_win (k : Nat) : ∀ (U : List Int) (c : Int), c ∈ itS N X k → (∀ u ∈ U, ∀ j, j < k → u ∉ itS N X j) → winB N X U c = true := by
  obtain ⟨n, rfl, hn, hp, _⟩ := gB_ok hg
  induction k using Nat.strongRecOn with
  | ind k ih =>
    intro U c h hU
    cases k with
    | zero => cases h
    | succ k =>
      rw [win_step, List.all_eq_true]
      intro a ha
      obtain ⟨_, _, hd⟩ := (defB_iff hg hp c).1 ((defL_mem hg hp c).1 h)
      obtain ⟨b, hb, hba⟩ := (hit_mem hg hp a).1 (hd a ((atk_mem hg hp c a).1 ha))
      obtain ⟨j, hj, hbj, hmin⟩ := it_first hg b k hb
      rw [List.any_eq_true]
      refine ⟨b, ansL_mem.2 ⟨(atk_mem hg hp a b).2 hba, fun hin => hU b hin j (by omega) hbj⟩, ?_⟩
      refine ih j (by omega) _ _ hbj fun u hu i hi => ?_
      rcases List.mem_append.1 hu with hu | hu
      · exact hU u hu i (by omega)
      · rw [List.mem_singleton.1 hu]; exact hmin i hi
theorem can_grd {c : Int} (hc : 0 ≤ c ∧ c < N) : winB N X [c] c = (grd N X).contains c := by
  rw [Bool.eq_iff_iff, List.contains_iff_mem]
  refine ⟨fun h => win_grd hg 11 _ _ h hc, fun h => ?_⟩
  obtain ⟨j, _, h1, h2⟩ := it_first hg c 10 h
  exact grd_win hg j _ _ h1 fun u hu i hi => by rw [List.mem_singleton.1 hu]; exact h2 i hi
end
theorem grd_claim {N : Int} {X : List (List Int)} {c : Int} (h : (grd N X).contains c = true) : gB N X = true ∧ 0 ≤ c ∧ c < N := by
  cases hg : gB N X with
  | false => unfold grd at h; rw [it_none hg] at h; cases h
  | true =>
    obtain ⟨n, rfl, _, hp, _⟩ := gB_ok hg
    have h := List.contains_iff_mem.1 h
    exact ⟨rfl, ((setB_iff hg).1 (it_set hg hp 10)).2 c h⟩
/-- Whether one can win the game about a claim. -/
def canW (N : Int) (X : List (List Int)) (c : Int) : Bool := gB N X && inr c 0 (N - 1) && winB N X [c] c
theorem canW_grd (N : Int) (X : List (List Int)) (c : Int) : canW N X c = (grd N X).contains c := by
  unfold canW
  cases h : (grd N X).contains c with
  | true =>
    obtain ⟨hg, h0, h1⟩ := grd_claim h
    rw [hg, can_grd hg ⟨h0, h1⟩, h, inr_t h0 (by omega)]
    rfl
  | false =>
    cases hg : gB N X with
    | false => rfl
    | true =>
      cases hi : inr c 0 (N - 1) with
      | false => rfl
      | true =>
        simp [inr] at hi
        rw [can_grd hg ⟨hi.1, by omega⟩, h]
        rfl
end Go.Proofs.YtjhknafajfpldaaDoor
