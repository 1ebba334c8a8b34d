/- Sums of chapter 8, without code: the game about a claim, and that one can win it just about what stands in any case. -/
import Derived.Test.YtobghogkflgpeaaMg23
import Derived.Test.YtobghogkflgpeaaMg9
import Derived.Test.YtobghogkflgpeaaMg18
namespace Go.Proofs.Ytobghogkflgpeaa
/-- What the one who proposed can answer to a claim. -/
def ansL (N : Int) (X : List (List Int)) (U : List Int) (c : Int) : List Int := (atk N X c).filter fun a => !(U.contains a)
def winF (N : Int) (X : List (List Int)) : Nat → List Int → Int → Bool
  | 0, _, _ => false
  | k + 1, U, c => (atk N X c).all fun a => (ansL N X U a).any fun b => winF N X k (U ++ [b]) b
/-- Whether the one who proposed, who used the claims U and said c last, wins. -/
def winB (N : Int) (X : List (List Int)) (U : List Int) (c : Int) : Bool := winF N X 11 U c
def bestB (N : Int) (X : List (List Int)) (U : List Int) (c : Int) : Int := ((ansL N X U c).find? fun b => winB N X (U ++ [b]) b).getD (-1)
/-- How many claims were not used. -/
def fre (N : Int) (U : List Int) : Nat := ((List.range N.toNat).filter fun (j : Nat) => !(U.contains (j : Int))).length
theorem ansL_mem {N : Int} {X : List (List Int)} {U : List Int} {c b : Int} : b ∈ ansL N X U c ↔ b ∈ atk N X c ∧ b ∉ U := by
  unfold ansL
  rw [List.mem_filter]
  simp
theorem atk_claim {N : Int} {X : List (List Int)} {c b : Int} (h : b ∈ atk N X c) : ∃ n p : Nat, N = n ∧ n ≤ 10 ∧ b = p ∧ p < n := by
  cases hg : gB N X with
  | false => unfold atk at h; rw [hg] at h; cases h
  | true =>
    obtain ⟨n, rfl, hn, hp, _⟩ := gB_ok hg
    obtain ⟨p, q, e, h1, _⟩ := hp _ ((atk_mem hg hp c b).1 h)
    injection e with e1 _
    exact ⟨n, p, rfl, hn, e1, h1⟩
theorem filt_less {α : Type} {p q : α → Bool} : ∀ {l : List α}, (∀ x ∈ l, q x = true → p x = true) → (∃ x ∈ l, p x = true ∧ q x = false) → (l.filter q).length < (l.filter p).length
  | [], _, ⟨x, hx, _⟩ => by cases hx
  | y :: l, h, ⟨x, hx, h1, h2⟩ => by
    have hle : (l.filter q).length ≤ (l.filter p).length := by
      clear hx h1 h2
      induction l with
      | nil => simp
      | cons z l ih =>
        have ih := ih (fun x hx => h x (by rcases List.mem_cons.1 hx with rfl | hx; exact List.mem_cons_self; exact List.mem_cons_of_mem _ (List.mem_cons_of_mem _ hx)))
        have hz := h z (by simp)
        rw [List.filter_cons, List.filter_cons]
        cases hq : q z with
        | true => rw [hz hq]; simpa using ih
        | false => cases hp : p z <;> simp <;> omega
    rw [List.filter_cons, List.filter_cons]
    rcases List.mem_cons.1 hx with rfl | hx
    · rw [h1, h2]
      simp
      omega
    · have := filt_less (fun x hx => h x (List.mem_cons_of_mem _ hx)) ⟨x, hx, h1, h2⟩
      have hy := h y (by simp)
      cases hq : q y with
      | true => rw [hy hq]; simp; omega
      | false => cases hp : p y <;> simp <;> omega
theorem fre_less {N : Int} {X : List (List Int)} {U : List Int} {c b : Int} (h : b ∈ ansL N X U c) : fre N (U ++ [b]) < fre N U := by
  obtain ⟨h1, h2⟩ := ansL_mem.1 h
  obtain ⟨n, p, rfl, _, rfl, hp⟩ := atk_claim h1
  unfold fre
  refine filt_less (fun x _ hx => ?_) ⟨p, List.mem_range.2 (by simpa using hp), by simpa using h2, by simp⟩
  simp at hx ⊢
  exact hx.1
theorem fre_le {N : Int} {X : List (List Int)} (h : gB N X = true) (U : List Int) : fre N U ≤ 10 := by
  obtain ⟨n, rfl, hn, _, _⟩ := gB_ok h
  refine Nat.le_trans (List.length_filter_le _ _) ?_
  simpa using hn
theorem win_fuel {N : Int} {X : List (List Int)} : ∀ (k j : Nat) (U : List Int) (c : Int), fre N U < k → fre N U < j → winF N X k U c = winF N X j U c
  | 0, _, _, _, h, _ => by omega
  | _ + 1, 0, _, _, _, h => by omega
  | k + 1, j + 1, U, c, h1, h2 => by
    unfold winF
    congr 1
    funext a
    rw [Bool.eq_iff_iff, List.any_eq_true, List.any_eq_true]
    have key : ∀ b ∈ ansL N X U a, winF N X k (U ++ [b]) b = winF N X j (U ++ [b]) b := fun b hb => by
      have := fre_less hb
      exact win_fuel k j _ _ (by omega) (by omega)
    constructor
    · rintro ⟨b, hb, hw⟩
      exact ⟨b, hb, (key b hb) ▸ hw⟩
    · rintro ⟨b, hb, hw⟩
      exact ⟨b, hb, (key b hb).symm ▸ hw⟩
theorem win_unf {N : Int} {X : List (List Int)} (k : Nat) (U : List Int) (c : Int) (h : fre N U < k) : winF N X k U c = (atk N X c).all fun a => (ansL N X U a).any fun b => winF N X k (U ++ [b]) b :=
  (win_fuel k (k + 1) U c h (by omega)).trans rfl
theorem win_none {N : Int} {X : List (List Int)} (k : Nat) (U : List Int) (c : Int) (h : atk N X c = []) : winF N X (k + 1) U c = true := by
  unfold winF
  rw [h]
  rfl
theorem win_step (N : Int) (X : List (List Int)) (U : List Int) (c : Int) : winB N X U c = (atk N X c).all fun a => (ansL N X U a).any fun b => winB N X (U ++ [b]) b := by
  cases hg : gB N X with
  | false =>
    have : atk N X c = [] := by unfold atk; rw [hg]; rfl
    rw [this]
    exact win_none 10 U c this
  | true =>
    have h := fre_le hg U
    exact win_unf 11 U c (by omega)
theorem best_neg (N : Int) (X : List (List Int)) (U : List Int) (c : Int) : decide (bestB N X U c < 0) = !((ansL N X U c).any fun b => winB N X (U ++ [b]) b) := by
  unfold bestB
  cases hf : (ansL N X U c).find? fun b => winB N X (U ++ [b]) b with
  | none =>
    have := List.find?_eq_none.1 hf
    rw [List.any_eq_false.2 this]
    rfl
  | some b =>
    have hb := List.mem_of_find?_eq_some hf
    have hw := List.find?_some hf
    have hany : ((ansL N X U c).any fun b => winB N X (U ++ [b]) b) = true := List.any_eq_true.2 ⟨b, hb, hw⟩
    rw [hany]
    obtain ⟨n, p, _, _, rfl, _⟩ := atk_claim (ansL_mem.1 hb).1
    exact decide_eq_false (by simp)
theorem win_best (N : Int) (X : List (List Int)) (U : List Int) (c : Int) : winB N X U c = (atk N X c).all fun a => !(decide (bestB N X U a < 0)) := by
  rw [win_step]
  congr 1
  funext a
  rw [best_neg, Bool.not_not]
theorem best_in {N : Int} {X : List (List Int)} {U : List Int} {c : Int} (h : 0 ≤ bestB N X U c) : bestB N X U c ∈ ansL N X U c := by
  unfold bestB at h ⊢
  cases hf : (ansL N X U c).find? fun b => winB N X (U ++ [b]) b with
  | none => rw [hf] at h; exact absurd h (by simp)
  | some b => exact List.mem_of_find?_eq_some hf
section
variable {N : Int} {X : List (List Int)} (hg : gB N X = true)
include hg
/-- Whoever wins about a claim: it stands. -/
theorem win_grd (k : Nat) : ∀ (U : List Int) (c : Int), winF N X k U c = true → (0 ≤ c ∧ c < N) → c ∈ grd N X := by
  obtain ⟨n, rfl, hn, hp, _⟩ := gB_ok hg
  induction k with
  | zero => intro U c h; cases h
  | succ k ih =>
    intro U c h hc
    rw [← grd_fix hg, defL_mem hg hp, defB_iff hg hp]
    refine ⟨it_set hg hp 10, hc, fun z hz => ?_⟩
    have h := List.all_eq_true.1 h z ((atk_mem hg hp c z).2 hz)
    obtain ⟨b, hb, hw⟩ := List.any_eq_true.1 h
    obtain ⟨hb, _⟩ := ansL_mem.1 hb
    obtain ⟨m, p, e, _, rfl, hpm⟩ := atk_claim hb
    have hb' := ih _ _ hw (by omega)
    exact (hit_mem hg hp z).2 ⟨_, hb', (atk_mem hg hp z _).1 hb⟩
theorem it_first (c : Int) (k : Nat) (h : c ∈ itS N X k) : ∃ j, j ≤ k ∧ c ∈ itS N X j ∧ ∀ i, i < j → c ∉ itS N X i := by
  induction k with
  | zero => cases h
  | succ k ih =>
    by_cases hk : c ∈ itS N X k
    · obtain ⟨j, h1, h2, h3⟩ := ih hk
      exact ⟨j, by omega, h2, h3⟩
    · refine ⟨k + 1, Nat.le_refl _, h, fun i hi hin => hk ?_⟩
      obtain ⟨d, rfl⟩ : ∃ d, k = i + d := ⟨k - i, by omega⟩
      exact it_sub hg i d c hin
/-- What is there after k steps can be won, if nothing is used that is there after fewer. -/
theorem grd_win (k : Nat) : ∀ (U : List Int) (c : Int), c ∈ itS N X k → (∀ u ∈ U, ∀ j, j < k → u ∉ itS N X j) → winB N X U c = true := by
  obtain ⟨n, rfl, hn, hp, _⟩ := gB_ok hg
  induction k using Nat.strongRecOn with
  | ind k ih =>
    intro U c h hU
    cases k with
    | zero => cases h
    | succ k =>
      rw [win_step, List.all_eq_true]
      intro a ha
      obtain ⟨_, _, hd⟩ := (defB_iff hg hp c).1 ((defL_mem hg hp c).1 h)
      obtain ⟨b, hb, hba⟩ := (hit_mem hg hp a).1 (hd a ((atk_mem hg hp c a).1 ha))
      obtain ⟨j, hj, hbj, hmin⟩ := it_first hg b k hb
      rw [List.any_eq_true]
      refine ⟨b, ansL_mem.2 ⟨(atk_mem hg hp a b).2 hba, fun hin => hU b hin j (by omega) hbj⟩, ?_⟩
      refine ih j (by omega) _ _ hbj fun u hu i hi => ?_
      rcases List.mem_append.1 hu with hu | hu
      · exact hU u hu i (by omega)
      · rw [List.mem_singleton.1 hu]; exact hmin i hi
theorem can_grd {c : Int} (hc : 0 ≤ c ∧ c < N) : winB N X [c] c = (grd N X).contains c := by
  rw [Bool.eq_iff_iff, List.contains_iff_mem]
  refine ⟨fun h => win_grd hg 11 _ _ h hc, fun h => ?_⟩
  obtain ⟨j, _, h1, h2⟩ := it_first hg c 10 h
  exact grd_win hg j _ _ h1 fun u hu i hi => by rw [List.mem_singleton.1 hu]; exact h2 i hi
end
theorem grd_claim {N : Int} {X : List (List Int)} {c : Int} (h : (grd N X).contains c = true) : gB N X = true ∧ 0 ≤ c ∧ c < N := by
  cases hg : gB N X with
  | false => unfold grd at h; rw [it_none hg] at h; cases h
  | true =>
    obtain ⟨n, rfl, _, hp, _⟩ := gB_ok hg
    have h := List.contains_iff_mem.1 h
    exact ⟨rfl, ((setB_iff hg).1 (it_set hg hp 10)).2 c h⟩
/-- Whether one can win the game about a claim. -/
def canW (N : Int) (X : List (List Int)) (c : Int) : Bool := gB N X && inr c 0 (N - 1) && winB N X [c] c
theorem canW_grd (N : Int) (X : List (List Int)) (c : Int) : canW N X c = (grd N X).contains c := by
  unfold canW
  cases h : (grd N X).contains c with
  | true =>
    obtain ⟨hg, h0, h1⟩ := grd_claim h
    rw [hg, can_grd hg ⟨h0, h1⟩, h, inr_t h0 (by omega)]
    rfl
  | false =>
    cases hg : gB N X with
    | false => rfl
    | true =>
      cases hi : inr c 0 (N - 1) with
      | false => rfl
      | true =>
        simp [inr] at hi
        rw [can_grd hg ⟨hi.1, by omega⟩, h]
        rfl
end Go.Proofs.Ytobghogkflgpeaa

/- Sums of chapter 9, without code: a graph with one more claim, without one, with other names; parts; claims that attack themselves. -/
namespace Go.Proofs.Ytobghogkflgpeaa
def wthX (N : Int) (X : List (List Int)) (S : List Int) : List (List Int) := X ++ S.map fun a => [N, a]
def wthB (N : Int) (X : List (List Int)) (S : List Int) : Bool := (S.all fun a => inr a 0 (N - 1)) && gB N X && gB (N + 1) (wthX N X S)
def lesI (a c : Int) : Int := if c < a then a - 1 else a
def woX (X : List (List Int)) (c : Int) : List (List Int) := (X.filter fun x => x.getD 0 0 != c && x.getD 1 0 != c).map fun x => [lesI (x.getD 0 0) c, lesI (x.getD 1 0) c]
def woB (N : Int) (X : List (List Int)) (c : Int) : Bool := gB N X && inr c 0 (N - 1)
def dupB (T : List Int) (i : Nat) : Bool := (T.take i).contains (T.getD i 0)
def perB (N : Int) (T : List Int) : Bool := (List.range T.length).all fun i => inr (T.getD i 0) 0 (N - 1) && !(dupB T i)
def renB (N : Int) (X : List (List Int)) (T : List Int) : Bool := gB N X && decide ((T.length : Int) = N) && perB N T
def renX (N : Int) (X : List (List Int)) (T : List Int) : List (List Int) := X.foldl (fun Y x => addL N Y (T.getD (x.getD 0 0).toNat 0) (T.getD (x.getD 1 0).toNat 0)) []
def partB (M : Int) (X : List (List Int)) (N : Int) (Y : List (List Int)) : Bool := gB M X && gB N Y && decide (M ≤ N) && (List.range M.toNat).all fun i => (List.range M.toNat).all fun k => dA M X (i : Int) (k : Int) == dA N Y (i : Int) (k : Int)
def loopP (x : List Int) : Bool := x.getD 0 0 == x.getD 1 0
def loops (N : Int) (X : List (List Int)) : Int := if gB N X then ((X.filter loopP).length : Int) else 0
theorem partB_le {M N : Int} {X Y : List (List Int)} (h : partB M X N Y = true) : M ≤ N := by
  unfold partB at h
  simp only [Bool.and_eq_true, decide_eq_true_iff] at h
  exact h.1.2
theorem partB_of {m n : Nat} {X Y : List (List Int)} (hX : gB m X = true) (hY : gB n Y = true) (hmn : m ≤ n) (h : ∀ i k : Nat, i < m → k < m → ([(i : Int), (k : Int)] ∈ X ↔ [(i : Int), (k : Int)] ∈ Y)) : partB m X n Y = true := by
  obtain ⟨m', e, _, hp, _⟩ := gB_ok hX
  obtain rfl : m = m' := by omega
  obtain ⟨n', e', _, hq, _⟩ := gB_ok hY
  obtain rfl : n = n' := by omega
  unfold partB
  rw [hX, hY, decide_eq_true (by omega : (m : Int) ≤ n)]
  simp only [Bool.true_and, Int.toNat_natCast, List.all_eq_true, List.mem_range]
  intro i hi k hk
  rw [beq_iff_eq, Bool.eq_iff_iff, dA_mem hX hp, dA_mem hY hq]
  exact h i k hi hk
theorem partB_same {n : Nat} {X : List (List Int)} (hX : gB n X = true) : partB n X n X = true := partB_of hX hX (Nat.le_refl _) fun _ _ _ _ => Iff.rfl
section
variable {N : Int} {X : List (List Int)} {S : List Int} (h : wthB N X S = true)
include h
theorem wth_parts : ∃ n : Nat, N = n ∧ n ≤ 9 ∧ gB n X = true ∧ gB ((n + 1 : Nat) : Int) (wthX n X S) = true ∧ Prs n X ∧ Prs (n + 1) (wthX n X S) ∧ Asc (wthX n X S) ∧ ∀ a ∈ S, 0 ≤ a ∧ a < (n : Int) := by
  unfold wthB at h
  rw [Bool.and_eq_true, Bool.and_eq_true] at h
  obtain ⟨⟨h1, h2⟩, h3⟩ := h
  obtain ⟨n, rfl, hn, hp, _⟩ := gB_ok h2
  obtain ⟨m, e, hm, hq, ha⟩ := gB_ok h3
  obtain rfl : m = n + 1 := by omega
  refine ⟨n, rfl, by omega, h2, h3, hp, hq, ha, fun a hS => ?_⟩
  have := List.all_eq_true.1 h1 a hS
  simp [inr] at this
  omega
theorem wth_g : gB (N + 1) (wthX N X S) = true := by
  unfold wthB at h
  rw [Bool.and_eq_true] at h
  exact h.2
theorem wth_part : partB N X (N + 1) (wthX N X S) = true := by
  obtain ⟨n, rfl, _, hg, hg', hp, _, _, hS⟩ := wth_parts h
  refine partB_of (n := n + 1) hg hg' (by omega) fun i k hi hk => ?_
  unfold wthX
  rw [List.mem_append, List.mem_map]
  constructor
  · exact .inl
  · rintro (hx | ⟨a, _, e⟩)
    · exact hx
    · injection e with e _
      omega
theorem wth_vct : vct (N + 1) (wthX N X S) N = S := by
  obtain ⟨n, rfl, _, hg, hg', hp, hq, ha, hS⟩ := wth_parts h
  have hg'' : gB ((n : Int) + 1) (wthX n X S) = true := hg'
  have hs : S.Pairwise (· < ·) := by
    unfold Asc wthX at ha
    have := (List.pairwise_append.1 ha).2.1
    rw [List.pairwise_map] at this
    refine this.imp ?_
    intro a b hab
    rw [ltP_iff] at hab
    simp at hab
    exact hab
  refine sorted_ext lt_irr lt_tr (vct_asc _ _ _) hs fun z => ?_
  have hv := vct_mem (n := n + 1) hg' hq (n : Int) z
  rw [show ((n + 1 : Nat) : Int) = (n : Int) + 1 from rfl] at hv
  rw [hv]
  unfold wthX
  rw [List.mem_append, List.mem_map]
  constructor
  · rintro (hx | ⟨a, ha, e⟩)
    · obtain ⟨p, q, e, h1, _⟩ := hp _ hx
      injection e with e _
      omega
    · injection e with _ e
      injection e with e _
      exact e ▸ ha
  · intro hz
    exact .inr ⟨z, hz, rfl⟩
theorem wth_without : woX (wthX N X S) N = X := by
  obtain ⟨n, rfl, _, hg, hg', hp, hq, ha, hS⟩ := wth_parts h
  unfold woX wthX
  rw [List.filter_append, List.map_append]
  have h1 : (S.map fun a => [(n : Int), a]).filter (fun x => x.getD 0 0 != (n : Int) && x.getD 1 0 != (n : Int)) = [] := by
    rw [List.filter_eq_nil_iff]
    intro x hx
    obtain ⟨a, _, rfl⟩ := List.mem_map.1 hx
    simp
  have h2 : X.filter (fun x => x.getD 0 0 != (n : Int) && x.getD 1 0 != (n : Int)) = X := by
    rw [List.filter_eq_self]
    intro x hx
    obtain ⟨p, q, rfl, h3, h4⟩ := hp x hx
    simp
    omega
  rw [h1, h2, List.map_nil, List.append_nil]
  conv => rhs; rw [← List.map_id X]
  refine List.map_congr_left fun x hx => ?_
  obtain ⟨p, q, rfl, h3, h4⟩ := hp x hx
  unfold lesI
  simp
  omega
theorem wth_wo : woB (N + 1) (wthX N X S) N = true := by
  obtain ⟨n, rfl, _, hg, hg', hp, hq, ha, hS⟩ := wth_parts h
  unfold woB
  rw [show gB ((n : Int) + 1) (wthX n X S) = true from hg', inr_t (by omega) (by omega)]
  rfl
theorem wth_same : partB N X N X = true := by
  obtain ⟨n, rfl, _, hg, _⟩ := wth_parts h
  exact partB_same hg
theorem wth_grd : (grd (N + 1) (wthX N X S)).contains N = true := by
  obtain ⟨n, rfl, _, hg, hg', hp, hq, ha, hS⟩ := wth_parts h
  rw [List.contains_iff_mem]
  refine it_in_grd hg' 1 (by decide) _ ?_
  show (n : Int) ∈ defL ((n + 1 : Nat) : Int) (wthX n X S) (itS ((n + 1 : Nat) : Int) (wthX n X S) 0)
  rw [defL_mem hg' hq, defB_iff hg' hq]
  refine ⟨it_set hg' hq 0, ⟨by omega, by omega⟩, fun z hz => ?_⟩
  exfalso
  unfold wthX at hz
  rw [List.mem_append, List.mem_map] at hz
  rcases hz with hz | ⟨a, ha', e⟩
  · obtain ⟨p, q, e, _, h2⟩ := hp _ hz
    injection e with _ e
    injection e with e _
    omega
  · injection e with _ e
    injection e with e _
    have := hS a ha'
    omega
end
theorem canA_new {n p q : Nat} {Y : List (List Int)} (hg : gB n Y = true) (hp : p < n) (hq : q < n) (hm : [(p : Int), (q : Int)] ∉ Y) : canA n Y p q = true := by
  obtain ⟨n', e, hn, hP, hA⟩ := gB_ok hg
  obtain rfl : n = n' := by omega
  unfold canA
  rw [hg, Bool.true_and]
  refine gB_of hn (fun z hz => ?_) (ins_asc hP hA hm)
  rcases ins_mem.1 hz with hz | rfl
  · exact hP z hz
  · exact ⟨p, q, rfl, hp, hq⟩
theorem ins_loops (a b : Int) : ∀ X : List (List Int), ((ins a b X).filter loopP).length = (X.filter loopP).length + if a = b then 1 else 0
  | [] => by
    unfold ins loopP
    by_cases h : a = b <;> simp [h]
  | x :: X => by
    have ih := ins_loops a b X
    unfold ins
    split
    · rw [List.filter_cons]
      have e : loopP [a, b] = decide (a = b) := by unfold loopP; simp; rfl
      rw [e]
      by_cases h : a = b
      · rw [decide_eq_true h, if_pos rfl, if_pos h]; rfl
      · rw [decide_eq_false h, if_neg h]; simp
    · rw [List.filter_cons, List.filter_cons]
      split
      · rw [List.length_cons, List.length_cons, ih]; omega
      · exact ih
section
variable {N : Int} {X : List (List Int)} {T : List Int} (h : renB N X T = true)
include h
/-- What a list of names gives. -/
theorem ren_parts : ∃ (n : Nat) (t : Nat → Nat), N = n ∧ n ≤ 10 ∧ gB n X = true ∧ Prs n X ∧ Asc X ∧ T.length = n ∧ (∀ i, i < n → T.getD i 0 = (t i : Int) ∧ t i < n) ∧ (∀ i k, i < n → k < n → t i = t k → i = k) := by
  unfold renB at h
  rw [Bool.and_eq_true, Bool.and_eq_true, decide_eq_true_iff] at h
  obtain ⟨⟨h1, h2⟩, h3⟩ := h
  obtain ⟨n, rfl, hn, hp, ha⟩ := gB_ok h1
  have hl : T.length = n := by omega
  unfold perB at h3
  rw [List.all_eq_true] at h3
  have h4 : ∀ i, i < n → T.getD i 0 = ((T.getD i 0).toNat : Int) ∧ (T.getD i 0).toNat < n := fun i hi => by
    have := h3 i (List.mem_range.2 (by omega))
    rw [Bool.and_eq_true] at this
    have h5 := this.1
    simp only [inr, Bool.and_eq_true, decide_eq_true_iff] at h5
    omega
  have h6 : ∀ i k, i < k → k < n → T.getD i 0 ≠ T.getD k 0 := fun i k hik hk e => by
    have := h3 k (List.mem_range.2 (by omega))
    rw [Bool.and_eq_true, Bool.not_eq_true'] at this
    have h5 := this.2
    unfold dupB at h5
    have : (T.take k).contains (T.getD k 0) = true := by
      rw [List.contains_iff_mem, ← e]
      have hi : i < (T.take k).length := by rw [List.length_take]; omega
      have : T.getD i 0 = (T.take k)[i] := by
        rw [List.getElem_take]
        simp [List.getD, show i < T.length by omega]
      rw [this]
      exact List.getElem_mem hi
    rw [this] at h5
    cases h5
  refine ⟨n, fun i => (T.getD i 0).toNat, rfl, hn, h1, hp, ha, hl, h4, fun i k hi hk e => ?_⟩
  have e' : T.getD i 0 = T.getD k 0 := by
    have := (h4 i hi).1
    have := (h4 k hk).1
    have e : (T.getD i 0).toNat = (T.getD k 0).toNat := e
    omega
  rcases Nat.lt_trichotomy i k with h7 | h7 | h7
  · exact absurd e' (h6 i k h7 hk)
  · exact h7
  · exact absurd e'.symm (h6 k i h7 hi)
end
/-- The graph with other names, as far as it is made. -/
theorem ren_made {n : Nat} {T : List Int} {t : Nat → Nat} (hn : n ≤ 10) (ht : ∀ i, i < n → T.getD i 0 = (t i : Int) ∧ t i < n) (hi : ∀ i k, i < n → k < n → t i = t k → i = k) :
    ∀ (X : List (List Int)), Prs n X → X.Nodup → gB n (renX n X T) = true ∧ (∀ z, z ∈ renX n X T ↔ ∃ p q : Nat, p < n ∧ q < n ∧ [(p : Int), (q : Int)] ∈ X ∧ z = [(t p : Int), (t q : Int)]) ∧ (renX n X T).length = X.length ∧ ((renX n X T).filter loopP).length = (X.filter loopP).length := by
  intro X
  have key : ∀ (k : Nat) (X : List (List Int)), X.length = k → Prs n X → X.Nodup → gB n (renX n X T) = true ∧ (∀ z, z ∈ renX n X T ↔ ∃ p q : Nat, p < n ∧ q < n ∧ [(p : Int), (q : Int)] ∈ X ∧ z = [(t p : Int), (t q : Int)]) ∧ (renX n X T).length = X.length ∧ ((renX n X T).filter loopP).length = (X.filter loopP).length := by
    intro k
    induction k with
    | zero =>
      intro X hl _ _
      obtain rfl := List.eq_nil_of_length_eq_zero hl
      exact ⟨gB_of hn (fun x hx => by cases hx) List.Pairwise.nil, fun z => by simp [renX], rfl, rfl⟩
    | succ k ih =>
      intro X hl hp hd
      obtain ⟨Y, x, rfl⟩ : ∃ Y x, X = Y ++ [x] := ⟨X.dropLast, X.getLast (by intro e; rw [e] at hl; cases hl), (List.dropLast_concat_getLast _).symm⟩
      have hd' := List.nodup_append.1 hd
      obtain ⟨h1, h2, h3, h4⟩ := ih Y (by simpa using hl) (fun y hy => hp y (List.mem_append_left _ hy)) hd'.1
      obtain ⟨p, q, rfl, hpn, hqn⟩ := hp x (by simp)
      have hnot : [(t p : Int), (t q : Int)] ∉ renX n Y T := fun hin => by
        obtain ⟨a, b, ha, hb, hab, e⟩ := (h2 _).1 hin
        injection e with e1 e2
        injection e2 with e2 _
        have := hi p a hpn ha (by omega)
        have := hi q b hqn hb (by omega)
        subst_vars
        exact hd'.2.2 _ hab _ (by simp) rfl
      have hc := canA_new h1 (ht p hpn).2 (ht q hqn).2 hnot
      have e : renX n (Y ++ [[(p : Int), (q : Int)]]) T = ins (t p) (t q) (renX n Y T) := by
        have e1 : renX n (Y ++ [[(p : Int), (q : Int)]]) T = addL n (renX n Y T) (T.getD p 0) (T.getD q 0) := by simp [renX, List.foldl_append]
        rw [e1, (ht p hpn).1, (ht q hqn).1]
        unfold addL
        rw [if_pos hc]
      rw [e]
      refine ⟨?_, fun z => ?_, by rw [ins_len, h3]; simp, ?_⟩
      · unfold canA at hc
        rw [Bool.and_eq_true] at hc
        exact hc.2
      · rw [ins_mem, h2]
        constructor
        · rintro (⟨a, b, ha, hb, hab, e⟩ | rfl)
          · exact ⟨a, b, ha, hb, List.mem_append_left _ hab, e⟩
          · exact ⟨p, q, hpn, hqn, by simp, rfl⟩
        · rintro ⟨a, b, ha, hb, hab, e⟩
          rcases List.mem_append.1 hab with hab | hab
          · exact .inl ⟨a, b, ha, hb, hab, e⟩
          · have e3 := List.mem_singleton.1 hab
            injection e3 with e4 e5
            injection e5 with e5 _
            have e6 : a = p := by omega
            have e7 : b = q := by omega
            rw [e6, e7] at e
            exact .inr e
      · rw [ins_loops, h4, List.filter_append, List.length_append]
        congr 1
        by_cases hpq : p = q
        · subst hpq
          simp [loopP]
        · have : ¬ ((t p : Int) = (t q : Int)) := fun e => hpq (hi p q hpn hqn (by omega))
          rw [if_neg this]
          have e8 : loopP [(p : Int), (q : Int)] = false := by
            unfold loopP
            simp
            omega
          rw [List.filter_cons, e8]
          rfl
  exact key _ X rfl
theorem asc_nd {X : List (List Int)} (h : Asc X) : X.Nodup := by
  unfold Asc at h
  exact h.imp fun {a b} hab e => by subst e; exact ltP_irr _ hab
section
variable {N : Int} {X : List (List Int)} {T : List Int} (h : renB N X T = true)
include h
theorem ren_g : gB N (renX N X T) = true := by
  obtain ⟨n, t, rfl, hn, _, hp, ha, _, ht, hi⟩ := ren_parts h
  exact (ren_made hn ht hi X hp (asc_nd ha)).1
theorem ren_len : (renX N X T).length = X.length := by
  obtain ⟨n, t, rfl, hn, _, hp, ha, _, ht, hi⟩ := ren_parts h
  exact (ren_made hn ht hi X hp (asc_nd ha)).2.2.1
theorem ren_loops : loops N X = loops N (renX N X T) := by
  obtain ⟨n, t, rfl, hn, hg, hp, ha, _, ht, hi⟩ := ren_parts h
  obtain ⟨h1, _, _, h4⟩ := ren_made hn ht hi X hp (asc_nd ha)
  unfold loops
  rw [if_pos hg, if_pos h1, h4]
/-- Names do not matter. -/
theorem ren_it (k i : Nat) (hiN : (i : Int) < N) : (itS N X k).contains (i : Int) = (itS N (renX N X T) k).contains (T.getD i 0) := by
  obtain ⟨n, t, rfl, hn, hg, hp, ha, _, ht, hi⟩ := ren_parts h
  obtain ⟨h1, h2, _, _⟩ := ren_made hn ht hi X hp (asc_nd ha)
  obtain ⟨n', e, _, hq, _⟩ := gB_ok h1
  obtain rfl : n = n' := by omega
  have hX : ∀ a b : Nat, a < n → b < n → ([(a : Int), (b : Int)] ∈ X ↔ [(t a : Int), (t b : Int)] ∈ renX n X T) := fun a b ha hb => by
    rw [h2]
    constructor
    · intro hx; exact ⟨a, b, ha, hb, hx, rfl⟩
    · rintro ⟨p, q, hpn, hqn, hx, e⟩
      injection e with e1 e2
      injection e2 with e2 _
      have := hi a p ha hpn (by omega)
      have := hi b q hb hqn (by omega)
      subst_vars
      exact hx
  have key : ∀ k i : Nat, i < n → ((i : Int) ∈ itS n X k ↔ (t i : Int) ∈ itS n (renX n X T) k) := by
    intro k
    induction k with
    | zero => intro i _; exact ⟨(fun h => by cases h), (fun h => by cases h)⟩
    | succ k ih =>
      have hhit : ∀ j, j < n → ((j : Int) ∈ hit n X (itS n X k) ↔ (t j : Int) ∈ hit n (renX n X T) (itS n (renX n X T) k)) := fun j hj => by
        rw [hit_mem hg hp, hit_mem h1 hq]
        constructor
        · rintro ⟨c, hc, hx⟩
          obtain ⟨p, q, e, hpn, hqn⟩ := hp _ hx
          injection e with e1 e2
          injection e2 with e2 _
          subst e1
          exact ⟨_, (ih p hpn).1 hc, (hX p j hpn hj).1 hx⟩
        · rintro ⟨c, hc, hx⟩
          obtain ⟨p, q, hpn, hqn, hx', e⟩ := (h2 _).1 hx
          injection e with e1 e2
          injection e2 with e2 _
          subst e1
          have := hi j q hj hqn (by omega)
          subst this
          exact ⟨_, (ih p hpn).2 hc, hx'⟩
      intro i hin
      show (i : Int) ∈ defL n X (itS n X k) ↔ (t i : Int) ∈ defL n (renX n X T) (itS n (renX n X T) k)
      rw [defL_mem hg hp, defL_mem h1 hq, defB_iff hg hp, defB_iff h1 hq]
      have hti := (ht i hin).2
      constructor
      · rintro ⟨_, _, h5⟩
        refine ⟨it_set h1 hq k, ⟨by omega, by omega⟩, fun z hz => ?_⟩
        obtain ⟨p, q, hpn, hqn, hx', e⟩ := (h2 _).1 hz
        injection e with e1 e2
        injection e2 with e2 _
        have := hi i q hin hqn (by omega)
        subst this
        rw [e1]
        exact (hhit p hpn).1 (h5 _ hx')
      · rintro ⟨_, _, h5⟩
        refine ⟨it_set hg hp k, ⟨by omega, by omega⟩, fun z hz => ?_⟩
        obtain ⟨p, q, e, hpn, hqn⟩ := hp _ hz
        injection e with e1 e2
        subst e1
        exact (hhit p hpn).2 (h5 _ ((hX p i hpn hin).1 hz))
  have hin : i < n := by omega
  rw [Bool.eq_iff_iff, List.contains_iff_mem, List.contains_iff_mem, (ht i hin).1]
  exact key k i hin
theorem ren_grd (i : Nat) (hiN : (i : Int) < N) : (grd N X).contains (i : Int) = (grd N (renX N X T)).contains (T.getD i 0) := ren_it h 10 i hiN
theorem ren_rnd (i : Nat) (hiN : (i : Int) < N) : rnd N X i = rnd N (renX N X T) (T.getD i 0) := by
  have hg : gB N X = true := by
    unfold renB at h
    rw [Bool.and_eq_true, Bool.and_eq_true] at h
    exact h.1.1
  have key : ∀ f k : Nat, rndT N X i f k = rndT N (renX N X T) (T.getD i 0) f k := by
    intro f
    induction f with
    | zero => intro k; rfl
    | succ f ih =>
      intro k
      unfold rndT
      rw [ren_it h (k + 1) i hiN, ih (k + 1)]
  unfold rnd
  rw [if_pos hg, if_pos (ren_g h)]
  exact key _ _
end
end Go.Proofs.Ytobghogkflgpeaa

/- Contracts of the models of AnswersTo, LongestGame, CountLoops. No conditions but that the slices have at most 2^40 elements. -/
namespace Go.Proofs.Ytobghogkflgpeaa
open Go.ChangeShapes Go.WideShapes Go.ChangeAt Go.RowKit
set_option maxRecDepth 100000
def lonG (N : Int) (X : List (List Int)) : Int := if gB N X then 2 * N else 0
theorem atk_len (N : Int) (X : List (List Int)) (c : Int) : (atk N X c).length ≤ 10 := by
  cases hg : gB N X with
  | false => unfold atk; rw [hg]; simp
  | true =>
    have hs := atk_asc N X c
    have hb : ∀ z ∈ atk N X c, 0 ≤ z ∧ z < 10 := fun z hz => by
      obtain ⟨n, p, _, hn, rfl, hp⟩ := atk_claim hz
      omega
    have key : ∀ (l : List Int) (lo : Int), l.Pairwise (· < ·) → (∀ z ∈ l, lo ≤ z ∧ z < 10) → lo ≤ 10 → (l.length : Int) ≤ 10 - lo := by
      intro l
      induction l with
      | nil => intro lo _ _ h; simp; omega
      | cons z l ih =>
        intro lo hp hb _
        rw [List.pairwise_cons] at hp
        have hz := hb z (by simp)
        have := ih (z + 1) hp.2 (fun y hy => ⟨by have := hp.1 y hy; omega, (hb y (by simp [hy])).2⟩) (by omega)
        rw [List.length_cons]
        push_cast
        omega
    have := key _ 0 hs hb (by omega)
    omega
set_option maxHeartbeats 4000000 in
theorem specAnswersTo_any {w : World} {A A' : Option Addr} {n c n' c' : Nat} {N a : Int} {X : List (List Int)} {S : List Int} (hl : Hid (X.length = n)) (hn : n ≤ 1099511627776) (hr : RdSS w w.heap.size A X) (hl' : Hid (S.length = n')) (hn' : n' ≤ 1099511627776) (hr' : Rd w w.heap.size A' (ivs S)) :
    Calls Try.prog 76 #[.agg #[.int .i64 N, .slice A n c], .slice A' n' c', .int .i64 a] w (Fresh 3 (ivs (ansL N X S a)) w) := by
  obtain ⟨ti, hti, hz0, hz1, hz2⟩ := info_parts IntS_info
  obtain ⟨Wa, hWa, bx0, hb1⟩ : ∃ u : World, u = w.alloc (Obj.cells #[Value.int IntKind.i64 N, Value.slice A n c] 27) ∧ Bx u w.heap.size 27 #[Value.int IntKind.i64 N, Value.slice A n c] ∧ Below w.heap.size w u := ⟨_, rfl, Bx.made _ _ _, alloc_new _ _⟩
  have hsa : Wa.heap.size = w.heap.size + 1 := by rw [hWa]; simp
  have hrow0 := Row.made (w := Wa) (w.heap.size + 1) #[] 0 3 (by omega) rfl (Nat.zero_le _)
  have hb2 : Below w.heap.size w (Wa.alloc (Obj.cells #[] 3)) := hb1.alloc hb1.size _
  have bx1 := bx0.new (alloc_new Wa (Obj.cells #[] 3))
  obtain ⟨W1, hW⟩ : ∃ u : World, u = Wa.alloc (Obj.cells #[] 3) := ⟨_, rfl⟩
  have hs1 : W1.heap.size = w.heap.size + 2 := by rw [hW]; simp [hsa]
  rw [← hW, hsa] at hrow0
  rw [← hW] at hb2 bx1
  have hWf : (w.alloc (Obj.cells #[Value.int IntKind.i64 N, Value.slice A n c] 27)).alloc (Obj.cells #[] 3) = W1 := by rw [hW, hWa]
  have HR := Lib.hid ((hr.below hb2).more hb2.size)
  have HS := Lib.hid (hr'.below hb2)
  have HS1 := Lib.hid hs1
  clear hW hWa hr hr' bx0 hb1
  obtain ⟨C0, C1⟩ := bx1.two
  go_enter Try.func76, Try.ntmps76
  go_wp2_with fail
  try rw [hWf]
  clear hWf
  refine (specAttackersOf_any (N := N) (X := X) (c := c) hl hn HR.out).mono ?_
  rintro e w2 ⟨v, rfl, hrowl, hb3⟩
  obtain ⟨Al, cl, rfl, _, _, _⟩ := hrowl.rd (n := (atk N X a).length) (ivs_len _)
  have hz3 := hb3.size
  have hg0 : Gr w2 (w.heap.size + 1) 3 w2 (.slice (some ⟨w.heap.size + 1, 0, none⟩) 0 0) [] := Gr.start ((hrow0.new hb3).wide (Nat.le_refl _) (by omega))
  have HS2 := Lib.hid (HS.out.below (hb3.mono hb2.size))
  have hb4 := hb2.trans (hb3.mono hb2.size)
  have HLL := Lib.hid (atk_len N X a)
  have HAL := Lib.hid (show ansL N X S a = (atk N X a).filter fun z => !(S.contains z) from rfl)
  have hsz4 := hb4.size
  generalize atk N X a = L at hrowl HLL HAL ⊢
  go_wp2_with fail
  clear bx1 C0 C1 hb2 hb3 hrow0
  go_loopw [7, 9] (fun b i wr => ∃ k : Nat, k ≤ L.length ∧ i = .int .i64 k ∧ Gr w2 (w.heap.size + 1) 3 wr b (ivs ((L.take k).filter fun z => !(S.contains z)))) (fun _ i _ => L.length - (intOf i).toNat)
  case atStart => exact ⟨0, Nat.zero_le _, rfl, hg0⟩
  case round =>
    obtain ⟨k, hk, rfl, hgr⟩ := hrel
    have hll := HLL.out
    have hs1 := HS1.out
    have hsw := hgr.out.size
    by_cases hlt : k < L.length
    · obtain ⟨ad, rfl, hab, hc⟩ := ivs_at (hgr.other hrowl (by omega)).rd' hlt
      have hrs := hgr.rd HS2.out (Nat.le_succ _) (by omega)
      have hyl := filt_len L (fun z => !(S.contains z)) k
      have i0 : (0 : Int) ≤ (k : Int) := by omega
      by_cases hin : S.contains L[k] = true
      · have HT := Lib.hid (filt_no (p := fun z => !(S.contains z)) hlt (by rw [hin]; rfl))
        have HI := Lib.hid hin
        obtain ⟨z, hz⟩ : ∃ z, z = L[k] := ⟨_, rfl⟩
        obtain ⟨ys, hys⟩ : ∃ ys, ys = (L.take k).filter (fun z => !(S.contains z)) := ⟨_, rfl⟩
        rw [← hz] at hc HI
        rw [← hys] at hgr HT
        clear hin hz hys hyl
        go_wp2_with fail
        refine (l4Has_any (S := S) (a := z) hl' hn' hrs).mono ?_
        rintro e w5 ⟨rfl, rfl⟩
        rw [HI.out]
        go_wp2_with fail
        go_roundw
        case rel => exact ⟨k + 1, by omega, by go_num, by rw [HT.out]; exact hgr⟩
        case measure => simp [intOf]; omega
      · have hin' : S.contains L[k] = false := by simpa using hin
        have HT := Lib.hid (filt_yes (p := fun z => !(S.contains z)) hlt (by rw [hin']; rfl))
        have HI := Lib.hid hin'
        obtain ⟨z, hz⟩ : ∃ z, z = L[k] := ⟨_, rfl⟩
        obtain ⟨ys, hys⟩ : ∃ ys, ys = (L.take k).filter (fun z => !(S.contains z)) := ⟨_, rfl⟩
        rw [← hz] at hc HI HT
        rw [← hys] at hgr HT hyl
        have L1 := Lib.hid (show (ivs ys).length + 1 ≤ maxLen ∧ ((ivs ys).length + 1) * 8 ≤ 140737488355328 by rw [ivs_len]; unfold maxLen; omega)
        have hgr2 := hgr.new (alloc_new wr (Obj.cells #[Value.int .i64 z] 3))
        have hmade := Rd.made wr #[Value.int .i64 z] 3
        clear hin hin' hz hys
        go_wp2_with fail
        refine (l4Has_any (S := S) (a := z) hl' hn' hrs).mono ?_
        rintro e w5 ⟨rfl, rfl⟩
        rw [HI.out]
        go_wp2_with (at_builtin; refine wpList_gr rfl (.tmp 27) (.tmp 32) 31 rfl 3 ti _ 8 Try.underlying31 hti hz0 hz1 hz2 rfl rfl rfl hgr2 (by simp; omega) rfl hmade (by simp [Value.oneCell']) L1.out.1 L1.out.2 ?_; intro v1 w1 hgr1 hsw1)
        go_roundw
        case rel => exact ⟨k + 1, by omega, by go_num, by rw [HT.out, ← ivs_snoc_l]; exact hgr1⟩
        case measure => simp [intOf]; omega
    · have e : k = L.length := by omega
      subst e
      rw [List.take_length] at hgr
      go_wp2_with fail
      go_ret
      exact ⟨_, rfl, by rw [HAL.out]; exact hgr.row.wide (by omega) (Nat.le_refl _), hb4.trans (hgr.below (by omega) (by omega))⟩
def loopT (X : List (List Int)) (k : Nat) : Nat := ((X.take k).filter loopP).length
theorem loopT_le (X : List (List Int)) (k : Nat) : loopT X k ≤ k := filt_len X loopP k
end Go.Proofs.Ytobghogkflgpeaa
