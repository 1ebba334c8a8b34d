/- Sums of chapter 9, without code: a graph with one more claim, without one, with other names; parts; claims that attack themselves. -/
import Derived.Test.YtncndlojceiejaaGroundSum
import Derived.Test.YtncndlojceiejaaAddMath
namespace Go.Proofs.Ytncndlojceiejaa
def wthX (N : Int) (X : List (List Int)) (S : List Int) : List (List Int) := X ++ S.map fun a => [N, a]
def wthB (N : Int) (X : List (List Int)) (S : List Int) : Bool := (S.all fun a => inr a 0 (N - 1)) && gB N X && gB (N + 1) (wthX N X S)
def lesI (a c : Int) : Int := if c < a then a - 1 else a
def woX (X : List (List Int)) (c : Int) : List (List Int) := (X.filter fun x => x.getD 0 0 != c && x.getD 1 0 != c).map fun x => [lesI (x.getD 0 0) c, lesI (x.getD 1 0) c]
def woB (N : Int) (X : List (List Int)) (c : Int) : Bool := gB N X && inr c 0 (N - 1)
def dupB (T : List Int) (i : Nat) : Bool := (T.take i).contains (T.getD i 0)
def perB (N : Int) (T : List Int) : Bool := (List.range T.length).all fun i => inr (T.getD i 0) 0 (N - 1) && !(dupB T i)
def renB (N : Int) (X : List (List Int)) (T : List Int) : Bool := gB N X && decide ((T.length : Int) = N) && perB N T
def renX (N : Int) (X : List (List Int)) (T : List Int) : List (List Int) := X.foldl (fun Y x => addL N Y (T.getD (x.getD 0 0).toNat 0) (T.getD (x.getD 1 0).toNat 0)) []
def partB (M : Int) (X : List (List Int)) (N : Int) (Y : List (List Int)) : Bool := gB M X && gB N Y && decide (M ≤ N) && (List.range M.toNat).all fun i => (List.range M.toNat).all fun k => dA M X (i : Int) (k : Int) == dA N Y (i : Int) (k : Int)
def loopP (x : List Int) : Bool := x.getD 0 0 == x.getD 1 0
def loops (N : Int) (X : List (List Int)) : Int := if gB N X then ((X.filter loopP).length : Int) else 0
theorem partB_le {M N : Int} {X Y : List (List Int)} (h : partB M X N Y = true) : M ≤ N := by
  unfold partB at h
  simp only [Bool.and_eq_true, decide_eq_true_iff] at h
  exact h.1.2
theorem partB_of {m n : Nat} {X Y : List (List Int)} (hX : gB m X = true) (hY : gB n Y = true) (hmn : m ≤ n) (h : ∀ i k : Nat, i < m → k < m → ([(i : Int), (k : Int)] ∈ X ↔ [(i : Int), (k : Int)] ∈ Y)) : partB m X n Y = true := by
  obtain ⟨m', e, _, hp, _⟩ := gB_ok hX
  obtain rfl : m = m' := by omega
  obtain ⟨n', e', _, hq, _⟩ := gB_ok hY
  obtain rfl : n = n' := by omega
  unfold partB
  rw [hX, hY, decide_eq_true (by omega : (m : Int) ≤ n)]
  simp only [Bool.true_and, Int.toNat_natCast, List.all_eq_true, List.mem_range]
  intro i hi k hk
  rw [beq_iff_eq, Bool.eq_iff_iff, dA_mem hX hp, dA_mem hY hq]
  exact h i k hi hk
theorem partB_same {n : Nat} {X : List (List Int)} (hX : gB n X = true) : partB n X n X = true := partB_of hX hX (Nat.le_refl _) fun _ _ _ _ => Iff.rfl
section
variable {N : Int} {X : List (List Int)} {S : List Int} (h : wthB N X S = true)
include h
theorem wth_parts : ∃ n : Nat, N = n ∧ n ≤ 9 ∧ gB n X = true ∧ gB ((n + 1 : Nat) : Int) (wthX n X S) = true ∧ Prs n X ∧ Prs (n + 1) (wthX n X S) ∧ Asc (wthX n X S) ∧ ∀ a ∈ S, 0 ≤ a ∧ a < (n : Int) := by
  unfold wthB at h
  rw [Bool.and_eq_true, Bool.and_eq_true] at h
  obtain ⟨⟨h1, h2⟩, h3⟩ := h
  obtain ⟨n, rfl, hn, hp, _⟩ := gB_ok h2
  obtain ⟨m, e, hm, hq, ha⟩ := gB_ok h3
  obtain rfl : m = n + 1 := by omega
  refine ⟨n, rfl, by omega, h2, h3, hp, hq, ha, fun a hS => ?_⟩
  have := List.all_eq_true.1 h1 a hS
  simp [inr] at this
  omega
theorem wth_g : gB (N + 1) (wthX N X S) = true := by
  unfold wthB at h
  rw [Bool.and_eq_true] at h
  exact h.2
theorem wth_part : partB N X (N + 1) (wthX N X S) = true := by
  obtain ⟨n, rfl, _, hg, hg', hp, _, _, hS⟩ := wth_parts h
  refine partB_of (n := n + 1) hg hg' (by omega) fun i k hi hk => ?_
  unfold wthX
  rw [List.mem_append, List.mem_map]
  constructor
  · exact .inl
  · rintro (hx | ⟨a, _, e⟩)
    · exact hx
    · injection e with e _
      omega
theorem wth_vct : vct (N + 1) (wthX N X S) N = S := by
  obtain ⟨n, rfl, _, hg, hg', hp, hq, ha, hS⟩ := wth_parts h
  have hg'' : gB ((n : Int) + 1) (wthX n X S) = true := hg'
  have hs : S.Pairwise (· < ·) := by
    unfold Asc wthX at ha
    have := (List.pairwise_append.1 ha).2.1
    rw [List.pairwise_map] at this
    refine this.imp ?_
    intro a b hab
    rw [ltP_iff] at hab
    simp at hab
    exact hab
  refine sorted_ext lt_irr lt_tr (vct_asc _ _ _) hs fun z => ?_
  have hv := vct_mem (n := n + 1) hg' hq (n : Int) z
  rw [show ((n + 1 : Nat) : Int) = (n : Int) + 1 from rfl] at hv
  rw [hv]
  unfold wthX
  rw [List.mem_append, List.mem_map]
  constructor
  · rintro (hx | ⟨a, ha, e⟩)
    · obtain ⟨p, q, e, h1, _⟩ := hp _ hx
      injection e with e _
      omega
    · injection e with _ e
      injection e with e _
      exact e ▸ ha
  · intro hz
    exact .inr ⟨z, hz, rfl⟩
theorem wth_without : woX (wthX N X S) N = X := by
  obtain ⟨n, rfl, _, hg, hg', hp, hq, ha, hS⟩ := wth_parts h
  unfold woX wthX
  rw [List.filter_append, List.map_append]
  have h1 : (S.map fun a => [(n : Int), a]).filter (fun x => x.getD 0 0 != (n : Int) && x.getD 1 0 != (n : Int)) = [] := by
    rw [List.filter_eq_nil_iff]
    intro x hx
    obtain ⟨a, _, rfl⟩ := List.mem_map.1 hx
    simp
  have h2 : X.filter (fun x => x.getD 0 0 != (n : Int) && x.getD 1 0 != (n : Int)) = X := by
    rw [List.filter_eq_self]
    intro x hx
    obtain ⟨p, q, rfl, h3, h4⟩ := hp x hx
    simp
    omega
  rw [h1, h2, List.map_nil, List.append_nil]
  conv => rhs; rw [← List.map_id X]
  refine List.map_congr_left fun x hx => ?_
  obtain ⟨p, q, rfl, h3, h4⟩ := hp x hx
  unfold lesI
  simp
  omega
theorem wth_wo : woB (N + 1) (wthX N X S) N = true := by
  obtain ⟨n, rfl, _, hg, hg', hp, hq, ha, hS⟩ := wth_parts h
  unfold woB
  rw [show gB ((n : Int) + 1) (wthX n X S) = true from hg', inr_t (by omega) (by omega)]
  rfl
theorem wth_same : partB N X N X = true := by
  obtain ⟨n, rfl, _, hg, _⟩ := wth_parts h
  exact partB_same hg
theorem wth_grd : (grd (N + 1) (wthX N X S)).contains N = true := by
  obtain ⟨n, rfl, _, hg, hg', hp, hq, ha, hS⟩ := wth_parts h
  rw [List.contains_iff_mem]
  refine it_in_grd hg' 1 (by decide) _ ?_
  show (n : Int) ∈ defL ((n + 1 : Nat) : Int) (wthX n X S) (itS ((n + 1 : Nat) : Int) (wthX n X S) 0)
  rw [defL_mem hg' hq, defB_iff hg' hq]
  refine ⟨it_set hg' hq 0, ⟨by omega, by omega⟩, fun z hz => ?_⟩
  exfalso
  unfold wthX at hz
  rw [List.mem_append, List.mem_map] at hz
  rcases hz with hz | ⟨a, ha', e⟩
  · obtain ⟨p, q, e, _, h2⟩ := hp _ hz
    injection e with _ e
    injection e with e _
    omega
  · injection e with _ e
    injection e with e _
    have := hS a ha'
    omega
end
theorem canA_new {n p q : Nat} {Y : List (List Int)} (hg : gB n Y = true) (hp : p < n) (hq : q < n) (hm : [(p : Int), (q : Int)] ∉ Y) : canA n Y p q = true := by
  obtain ⟨n', e, hn, hP, hA⟩ := gB_ok hg
  obtain rfl : n = n' := by omega
  unfold canA
  rw [hg, Bool.true_and]
  refine gB_of hn (fun z hz => ?_) (ins_asc hP hA hm)
  rcases ins_mem.1 hz with hz | rfl
  · exact hP z hz
  · exact ⟨p, q, rfl, hp, hq⟩
theorem ins_loops (a b : Int) : ∀ X : List (List Int), ((ins a b X).filter loopP).length = (X.filter loopP).length + if a = b then 1 else 0
  | [] => by
    unfold ins loopP
    by_cases h : a = b <;> simp [h]
  | x :: X => by
    have ih := ins_loops a b X
    unfold ins
    split
    · rw [List.filter_cons]
      have e : loopP [a, b] = decide (a = b) := by unfold loopP; simp; rfl
      rw [e]
      by_cases h : a = b
      · rw [decide_eq_true h, if_pos rfl, if_pos h]; rfl
      · rw [decide_eq_false h, if_neg h]; simp
    · rw [List.filter_cons, List.filter_cons]
      split
      · rw [List.length_cons, List.length_cons, ih]; omega
      · exact ih
section
variable {N : Int} {X : List (List Int)} {T : List Int} (h : renB N X T = true)
include h
/-- What a list of names gives. -/
theorem ren_parts : ∃ (n : Nat) (t : Nat → Nat), N = n ∧ n ≤ 10 ∧ gB n X = true ∧ Prs n X ∧ Asc X ∧ T.length = n ∧ (∀ i, i < n → T.getD i 0 = (t i : Int) ∧ t i < n) ∧ (∀ i k, i < n → k < n → t i = t k → i = k) := by
  unfold renB at h
  rw [Bool.and_eq_true, Bool.and_eq_true, decide_eq_true_iff] at h
  obtain ⟨⟨h1, h2⟩, h3⟩ := h
  obtain ⟨n, rfl, hn, hp, ha⟩ := gB_ok h1
  have hl : T.length = n := by omega
  unfold perB at h3
  rw [List.all_eq_true] at h3
  have h4 : ∀ i, i < n → T.getD i 0 = ((T.getD i 0).toNat : Int) ∧ (T.getD i 0).toNat < n := fun i hi => by
    have := h3 i (List.mem_range.2 (by omega))
    rw [Bool.and_eq_true] at this
    have h5 := this.1
    simp only [inr, Bool.and_eq_true, decide_eq_true_iff] at h5
    omega
  have h6 : ∀ i k, i < k → k < n → T.getD i 0 ≠ T.getD k 0 := fun i k hik hk e => by
    have := h3 k (List.mem_range.2 (by omega))
    rw [Bool.and_eq_true, Bool.not_eq_true'] at this
    have h5 := this.2
    unfold dupB at h5
    have : (T.take k).contains (T.getD k 0) = true := by
      rw [List.contains_iff_mem, ← e]
      have hi : i < (T.take k).length := by rw [List.length_take]; omega
      have : T.getD i 0 = (T.take k)[i] := by
        rw [List.getElem_take]
        simp [List.getD, show i < T.length by omega]
      rw [this]
      exact List.getElem_mem hi
    rw [this] at h5
    cases h5
  refine ⟨n, fun i => (T.getD i 0).toNat, rfl, hn, h1, hp, ha, hl, h4, fun i k hi hk e => ?_⟩
  have e' : T.getD i 0 = T.getD k 0 := by
    have := (h4 i hi).1
    have := (h4 k hk).1
    have e : (T.getD i 0).toNat = (T.getD k 0).toNat := e
    omega
  rcases Nat.lt_trichotomy i k with h7 | h7 | h7
  · exact absurd e' (h6 i k h7 hk)
  · exact h7
  · exact absurd e'.symm (h6 k i h7 hi)
end
/-- The graph with other names, as far as it is made. -/
theorem ren_made {n : Nat} {T : List Int} {t : Nat → Nat} (hn : n ≤ 10) (ht : ∀ i, i < n → T.getD i 0 = (t i : Int) ∧ t i < n) (hi : ∀ i k, i < n → k < n → t i = t k → i = k) :
    ∀ (X : List (List Int)), Prs n X → X.Nodup → gB n (renX n X T) = true ∧ (∀ z, z ∈ renX n X T ↔ ∃ p q : Nat, p < n ∧ q < n ∧ [(p : Int), (q : Int)] ∈ X ∧ z = [(t p : Int), (t q : Int)]) ∧ (renX n X T).length = X.length ∧ ((renX n X T).filter loopP).length = (X.filter loopP).length := by
  intro X
  have key : ∀ (k : Nat) (X : List (List Int)), X.length = k → Prs n X → X.Nodup → gB n (renX n X T) = true ∧ (∀ z, z ∈ renX n X T ↔ ∃ p q : Nat, p < n ∧ q < n ∧ [(p : Int), (q : Int)] ∈ X ∧ z = [(t p : Int), (t q : Int)]) ∧ (renX n X T).length = X.length ∧ ((renX n X T).filter loopP).length = (X.filter loopP).length := by
    intro k
    induction k with
    | zero =>
      intro X hl _ _
      obtain rfl := List.eq_nil_of_length_eq_zero hl
      exact ⟨gB_of hn (fun x hx => by cases hx) List.Pairwise.nil, fun z => by simp [renX], rfl, rfl⟩
    | succ k ih =>
      intro X hl hp hd
      obtain ⟨Y, x, rfl⟩ : ∃ Y x, X = Y ++ [x] := ⟨X.dropLast, X.getLast (by intro e; rw [e] at hl; cases hl), (List.dropLast_concat_getLast _).symm⟩
      have hd' := List.nodup_append.1 hd
      obtain ⟨h1, h2, h3, h4⟩ := ih Y (by simpa using hl) (fun y hy => hp y (List.mem_append_left _ hy)) hd'.1
      obtain ⟨p, q, rfl, hpn, hqn⟩ := hp x (by simp)
      have hnot : [(t p : Int), (t q : Int)] ∉ renX n Y T := fun hin => by
        obtain ⟨a, b, ha, hb, hab, e⟩ := (h2 _).1 hin
        injection e with e1 e2
        injection e2 with e2 _
        have := hi p a hpn ha (by omega)
        have := hi q b hqn hb (by omega)
        subst_vars
        exact hd'.2.2 _ hab _ (by simp) rfl
      have hc := canA_new h1 (ht p hpn).2 (ht q hqn).2 hnot
      have e : renX n (Y ++ [[(p : Int), (q : Int)]]) T = ins (t p) (t q) (renX n Y T) := by
        have e1 : renX n (Y ++ [[(p : Int), (q : Int)]]) T = addL n (renX n Y T) (T.getD p 0) (T.getD q 0) := by simp [renX, List.foldl_append]
        rw [e1, (ht p hpn).1, (ht q hqn).1]
        unfold addL
        rw [if_pos hc]
      rw [e]
      refine ⟨?_, fun z => ?_, by rw [ins_len, h3]; simp, ?_⟩
      · unfold canA at hc
        rw [Bool.and_eq_true] at hc
        exact hc.2
      · rw [ins_mem, h2]
        constructor
        · rintro (⟨a, b, ha, hb, hab, e⟩ | rfl)
          · exact ⟨a, b, ha, hb, List.mem_append_left _ hab, e⟩
          · exact ⟨p, q, hpn, hqn, by simp, rfl⟩
        · rintro ⟨a, b, ha, hb, hab, e⟩
          rcases List.mem_append.1 hab with hab | hab
          · exact .inl ⟨a, b, ha, hb, hab, e⟩
          · have e3 := List.mem_singleton.1 hab
            injection e3 with e4 e5
            injection e5 with e5 _
            have e6 : a = p := by omega
            have e7 : b = q := by omega
            rw [e6, e7] at e
            exact .inr e
      · rw [ins_loops, h4, List.filter_append, List.length_append]
        congr 1
        by_cases hpq : p = q
        · subst hpq
          simp [loopP]
        · have : ¬ ((t p : Int) = (t q : Int)) := fun e => hpq (hi p q hpn hqn (by omega))
          rw [if_neg this]
          have e8 : loopP [(p : Int), (q : Int)] = false := by
            unfold loopP
            simp
            omega
          rw [List.filter_cons, e8]
          rfl
  exact key _ X rfl
theorem asc_nd {X : List (List Int)} (h : Asc X) : X.Nodup := by
  unfold Asc at h
  exact h.imp fun {a b} hab e => by subst e; exact ltP_irr _ hab
section
variable {N : Int} {X : List (List Int)} {T : List Int} (h : renB N X T = true)
include h
theorem ren_g : gB N (renX N X T) = true := by
  obtain ⟨n, t, rfl, hn, _, hp, ha, _, ht, hi⟩ := ren_parts h
  exact (ren_made hn ht hi X hp (asc_nd ha)).1
theorem ren_len : (renX N X T).length = X.length := by
  obtain ⟨n, t, rfl, hn, _, hp, ha, _, ht, hi⟩ := ren_parts h
  exact (ren_made hn ht hi X hp (asc_nd ha)).2.2.1
theorem ren_loops : loops N X = loops N (renX N X T) := by
  obtain ⟨n, t, rfl, hn, hg, hp, ha, _, ht, hi⟩ := ren_parts h
  obtain ⟨h1, _, _, h4⟩ := ren_made hn ht hi X hp (asc_nd ha)
  unfold loops
  rw [if_pos hg, if_pos h1, h4]
/-- Names do not matter. -/
theorem ren_it (k i : Nat) (hiN : (i : Int) < N) : (itS N X k).contains (i : Int) = (itS N (renX N X T) k).contains (T.getD i 0) := by
  obtain ⟨n, t, rfl, hn, hg, hp, ha, _, ht, hi⟩ := ren_parts h
  obtain ⟨h1, h2, _, _⟩ := ren_made hn ht hi X hp (asc_nd ha)
  obtain ⟨n', e, _, hq, _⟩ := gB_ok h1
  obtain rfl : n = n' := by omega
  have hX : ∀ a b : Nat, a < n → b < n → ([(a : Int), (b : Int)] ∈ X ↔ [(t a : Int), (t b : Int)] ∈ renX n X T) := fun a b ha hb => by
    rw [h2]
    constructor
    · intro hx; exact ⟨a, b, ha, hb, hx, rfl⟩
    · rintro ⟨p, q, hpn, hqn, hx, e⟩
      injection e with e1 e2
      injection e2 with e2 _
      have := hi a p ha hpn (by omega)
      have := hi b q hb hqn (by omega)
      subst_vars
      exact hx
  have key : ∀ k i : Nat, i < n → ((i : Int) ∈ itS n X k ↔ (t i : Int) ∈ itS n (renX n X T) k) := by
    intro k
    induction k with
    | zero => intro i _; exact ⟨(fun h => by cases h), (fun h => by cases h)⟩
    | succ k ih =>
      have hhit : ∀ j, j < n → ((j : Int) ∈ hit n X (itS n X k) ↔ (t j : Int) ∈ hit n (renX n X T) (itS n (renX n X T) k)) := fun j hj => by
        rw [hit_mem hg hp, hit_mem h1 hq]
        constructor
        · rintro ⟨c, hc, hx⟩
          obtain ⟨p, q, e, hpn, hqn⟩ := hp _ hx
          injection e with e1 e2
          injection e2 with e2 _
          subst e1
          exact ⟨_, (ih p hpn).1 hc, (hX p j hpn hj).1 hx⟩
        · rintro ⟨c, hc, hx⟩
          obtain ⟨p, q, hpn, hqn, hx', e⟩ := (h2 _).1 hx
          injection e with e1 e2
          injection e2 with e2 _
          subst e1
          have := hi j q hj hqn (by omega)
          subst this
          exact ⟨_, (ih p hpn).2 hc, hx'⟩
      intro i hin
      show (i : Int) ∈ defL n X (itS n X k) ↔ (t i : Int) ∈ defL n (renX n X T) (itS n (renX n X T) k)
      rw [defL_mem hg hp, defL_mem h1 hq, defB_iff hg hp, defB_iff h1 hq]
      have hti := (ht i hin).2
      constructor
      · rintro ⟨_, _, h5⟩
        refine ⟨it_set h1 hq k, ⟨by omega, by omega⟩, fun z hz => ?_⟩
        obtain ⟨p, q, hpn, hqn, hx', e⟩ := (h2 _).1 hz
        injection e with e1 e2
        injection e2 with e2 _
        have := hi i q hin hqn (by omega)
        subst this
        rw [e1]
        exact (hhit p hpn).1 (h5 _ hx')
      · rintro ⟨_, _, h5⟩
        refine ⟨it_set hg hp k, ⟨by omega, by omega⟩, fun z hz => ?_⟩
        obtain ⟨p, q, e, hpn, hqn⟩ := hp _ hz
        injection e with e1 e2
        subst e1
        exact (hhit p hpn).2 (h5 _ ((hX p i hpn hin).1 hz))
  have hin : i < n := by omega
  rw [Bool.eq_iff_iff, List.contains_iff_mem, List.contains_iff_mem, (ht i hin).1]
  exact key k i hin
theorem ren_grd (i : Nat) (hiN : (i : Int) < N) : (grd N X).contains (i : Int) = (grd N (renX N X T)).contains (T.getD i 0) := ren_it h 10 i hiN
theorem ren_rnd (i : Nat) (hiN : (i : Int) < N) : rnd N X i = rnd N (renX N X T) (T.getD i 0) := by
  have hg : gB N X = true := by
    unfold renB at h
    rw [Bool.and_eq_true, Bool.and_eq_true] at h
    exact h.1.1
  have key : ∀ f k : Nat, rndT N X i f k = rndT N (renX N X T) (T.getD i 0) f k := by
    intro f
    induction f with
    | zero => intro k; rfl
    | succ f ih =>
      intro k
      unfold rndT
      rw [ren_it h (k + 1) i hiN, ih (k + 1)]
  unfold rnd
  rw [if_pos hg, if_pos (ren_g h)]
  exact key _ _
end
end Go.Proofs.Ytncndlojceiejaa
