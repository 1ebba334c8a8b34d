/- What the law of chapter 6 says of the sums: without code. -/
import Derived.Test.YtjhknafajfpldaaDoorMg24
import Derived.Test.YtjhknafajfpldaaDoorMg26
import Derived.Test.YtjhknafajfpldaaDoorMg10
import Derived.Test.YtjhknafajfpldaaDoorMg22
namespace Go.Proofs.YtjhknafajfpldaaDoor
section
variable {N : Int} {X : List (List Int)} (hg : gB N X = true)
include hg
theorem it_adm (k : Nat) : admB N X (itS N X k) = true := by
  induction k with
  | zero =>
    obtain ⟨n, rfl, _, hp, _⟩ := gB_ok hg
    exact adm_iff.2 ⟨free_iff.2 ⟨it_set hg hp 0, fun z hz => by cases hz⟩, fun z hz => by cases hz⟩
  | succ k ih => exact adm_step ih
theorem it_end : itS N X 11 = itS N X 10 := by
  obtain ⟨n, rfl, hn, hp, _⟩ := gB_ok hg
  by_cases h : ∀ j, j < 11 → itS n X (j + 1) ≠ itS n X j
  · have h1 := it_many hg hp 11 h
    have h2 := it_len (n := n) (X := X) 11
    omega
  · simp only [Classical.not_forall] at h
    obtain ⟨j, hj, h⟩ := h
    have h := Classical.not_not.1 h
    have h1 := it_stay h (10 - j)
    have h2 := it_stay h (11 - j)
    rw [show j + (10 - j) = 10 by omega] at h1
    rw [show j + (11 - j) = 11 by omega] at h2
    rw [h1, h2]
theorem grd_fix : defL N X (grd N X) = grd N X := it_end hg
theorem grd_comp : compB N X (grd N X) = true := by
  unfold compB
  rw [Bool.and_eq_true, decide_eq_true_iff]
  exact ⟨adm_free (it_adm hg 10), grd_fix hg⟩
theorem it_sub (k j : Nat) : ∀ z ∈ itS N X k, z ∈ itS N X (k + j) := by
  obtain ⟨n, rfl, _, hp, _⟩ := gB_ok hg
  induction j with
  | zero => exact fun z hz => hz
  | succ j ih => exact fun z hz => it_mono hg hp (k + j) z (ih z hz)
theorem it_in_grd (k : Nat) (hk : k ≤ 11) : ∀ z ∈ itS N X k, z ∈ grd N X := fun z hz => by
  have h := it_sub hg k (11 - k) z hz
  rw [show k + (11 - k) = 11 by omega, it_end hg] at h
  exact h
/-- After as many steps as there are claims nothing is added. -/
theorem grd_n {n : Nat} (e : N = n) : itS N X n = grd N X := by
  subst e
  obtain ⟨m, e, hn, hp, _⟩ := gB_ok hg
  obtain rfl : n = m := by omega
  by_cases h : ∀ j, j < n + 1 → itS n X (j + 1) ≠ itS n X j
  · have h1 := it_many hg hp (n + 1) h
    have h2 := it_len (n := n) (X := X) (n + 1)
    omega
  · simp only [Classical.not_forall] at h
    obtain ⟨j, hj, h⟩ := h
    have h := Classical.not_not.1 h
    have h1 := it_stay h (10 - j)
    have h2 := it_stay h (n - j)
    rw [show j + (10 - j) = 10 by omega] at h1
    rw [show j + (n - j) = n by omega] at h2
    unfold grd
    rw [h1, h2]
theorem rnd_pos (c : Int) : decide (0 < rnd N X c) = (grd N X).contains c := by
  obtain ⟨n, rfl, hn, hp, _⟩ := gB_ok hg
  unfold rnd
  rw [if_pos hg, Int.toNat_natCast]
  by_cases h : ∀ y, (itS n X (y + 1)).contains c = false
  · rw [rndT_miss h]
    have := h 9
    unfold grd
    rw [this]
    rfl
  · simp only [Classical.not_forall] at h
    obtain ⟨y, hy⟩ := h
    have hy : (itS n X (y + 1)).contains c = true := by simpa using hy
    obtain ⟨x, hx, hno⟩ : ∃ x, (itS n X (x + 1)).contains c = true ∧ ∀ y, y < x → (itS n X (y + 1)).contains c = false := by
      induction y using Nat.strongRecOn with
      | _ y ih =>
        by_cases hh : ∃ z, z < y ∧ (itS n X (z + 1)).contains c = true
        · obtain ⟨z, hz, hzc⟩ := hh
          exact ih z hz (by rw [hzc]; exact fun e => Bool.noConfusion e) hzc
        · exact ⟨y, hy, fun z hz => by simpa using fun e => hh ⟨z, hz, e⟩⟩
    have hxn : x < n := by
      refine Nat.lt_of_not_le fun hle => ?_
      have h1 := grd_n hg (n := n) rfl
      have h2 : itS n X (x + 1) = itS n X n := by
        have : itS n X (n + 1) = itS n X n := by show defL n X (itS n X n) = _; rw [h1]; exact grd_fix hg
        have h3 := it_stay this (x + 1 - n)
        rw [show n + (x + 1 - n) = x + 1 by omega] at h3
        exact h3
      cases n with
      | zero => rw [h2] at hx; simp [itS] at hx
      | succ m =>
        have := hno m (by omega)
        rw [h2] at hx
        rw [hx] at this
        cases this
    rw [rndT_hit hx hno n 0 (by omega) (by omega)]
    have h3 : (grd n X).contains c = true := List.contains_iff_mem.2 (it_in_grd hg (x + 1) (by omega) c (List.contains_iff_mem.1 hx))
    rw [h3, decide_eq_true_iff]
    omega
theorem rnd_one {n : Nat} (k : Nat) (e : N = n) (hk : k < n) : decide (rnd N X k = 1) = decide ((atk N X k).length = 0) := by
  subst e
  obtain ⟨m, e, hn, hp, _⟩ := gB_ok hg
  obtain rfl : n = m := by omega
  have h1 : (k : Int) ∈ itS n X 1 ↔ (atk n X k).length = 0 := by
    show (k : Int) ∈ defL n X [] ↔ _
    rw [defL_mem hg hp, defB_iff hg hp, List.length_eq_zero_iff]
    constructor
    · rintro ⟨_, _, h⟩
      rw [List.eq_nil_iff_forall_not_mem]
      intro z hz
      obtain ⟨c, hc, _⟩ := (hit_mem hg hp z).1 (h z ((atk_mem hg hp k z).1 hz))
      cases hc
    · intro h
      refine ⟨it_set hg hp 0, ⟨by omega, by omega⟩, fun z hz => ?_⟩
      have := (atk_mem hg hp k z).2 hz
      rw [h] at this
      cases this
  rw [Bool.eq_iff_iff, decide_eq_true_iff, decide_eq_true_iff, ← h1]
  unfold rnd
  rw [if_pos hg, Int.toNat_natCast]
  obtain ⟨f, rfl⟩ : ∃ f, n = f + 1 := ⟨n - 1, by omega⟩
  unfold rndT
  by_cases hc : (itS ((f + 1 : Nat) : Int) X (0 + 1)).contains (k : Int) = true
  · rw [if_pos hc]
    exact ⟨fun _ => List.contains_iff_mem.1 hc, fun _ => rfl⟩
  · rw [if_neg hc]
    constructor
    · intro h
      exfalso
      have key : ∀ fu j, rndT ((f + 1 : Nat) : Int) X k fu (j + 1) ≠ 1 := by
        intro fu
        induction fu with
        | zero => intro j; simp [rndT]
        | succ fu ih =>
          intro j
          unfold rndT
          split
          · omega
          · exact ih (j + 1)
      exact key f 0 h
    · intro h
      exact absurd (List.contains_iff_mem.2 h) hc
theorem grd_least {S : List Int} (h : compB N X S = true) : ((grd N X).all fun z => S.contains z) = true := by
  obtain ⟨n, rfl, hn, hp, _⟩ := gB_ok hg
  unfold compB at h
  rw [Bool.and_eq_true, decide_eq_true_iff] at h
  obtain ⟨hf, he⟩ := h
  have key : ∀ k, ∀ z ∈ itS n X k, z ∈ S := by
    intro k
    induction k with
    | zero => intro z hz; cases hz
    | succ k ih => intro z hz; rw [← he]; exact defL_mono hg hp ih (free_set hf) z hz
  exact all_within (key 10)
theorem grd_out {c : Int} (h : (grd N X).contains c = true) : (hit N X (grd N X)).contains c = false := by
  obtain ⟨n, rfl, hn, hp, _⟩ := gB_ok hg
  obtain ⟨_, hq⟩ := free_iff.1 (adm_free (it_adm hg 10))
  have := hq c (List.contains_iff_mem.1 h)
  cases hh : (hit n X (grd n X)).contains c with
  | false => rfl
  | true => exact absurd (List.contains_iff_mem.1 hh) this
theorem opn_contains {n : Nat} (k : Nat) (e : N = n) (hk : k < n) : (opns N X).contains (k : Int) = openP N X k := by
  unfold opns labs opnT
  rw [if_pos hg, labT_len, e, Int.toNat_natCast, Bool.eq_iff_iff, List.contains_iff_mem, List.mem_map]
  constructor
  · rintro ⟨j, hj, e⟩
    obtain rfl : j = k := by omega
    exact (List.mem_filter.1 hj).2
  · intro h
    exact ⟨k, List.mem_filter.2 ⟨List.mem_range.2 hk, h⟩, rfl⟩
theorem labs_n {n : Nat} (e : N = n) : (labs N X).length = n := by
  unfold labs
  rw [if_pos hg, labT_len, e, Int.toNat_natCast]
end
theorem toList_in {a b : Array UInt8} (h : (a.toList == b.toList) = false) : ((⟨a⟩ : ByteArray).toList == (⟨b⟩ : ByteArray).toList) = false := by
  rw [ByteArray.toList_eq, ByteArray.toList_eq]; exact h
theorem lab_in (N : Int) (X : List (List Int)) (k : Nat) : ((lab N X k).toList == (⟨#[105, 110]⟩ : ByteArray).toList) = (grd N X).contains (k : Int) := by
  unfold lab
  cases (grd N X).contains (k : Int)
  · cases (hit N X (grd N X)).contains (k : Int)
    · exact toList_in rfl
    · exact toList_in rfl
  · exact beq_self_eq_true _
theorem lab_out {N : Int} {X : List (List Int)} (hg : gB N X = true) (k : Nat) : ((lab N X k).toList == (⟨#[111, 117, 116]⟩ : ByteArray).toList) = (hit N X (grd N X)).contains (k : Int) := by
  unfold lab
  cases h : (grd N X).contains (k : Int)
  · cases (hit N X (grd N X)).contains (k : Int)
    · exact toList_in rfl
    · exact beq_self_eq_true _
  · rw [grd_out hg h]
    exact toList_in rfl
end Go.Proofs.YtjhknafajfpldaaDoor

/- Sums of chapter 9, without code: a graph with one more claim, without one, with other names; parts; claims that attack themselves. -/
namespace Go.Proofs.YtjhknafajfpldaaDoor
def wthX (N : Int) (X : List (List Int)) (S : List Int) : List (List Int) := X ++ S.map fun a => [N, a]
def wthB (N : Int) (X : List (List Int)) (S : List Int) : Bool := (S.all fun a => inr a 0 (N - 1)) && gB N X && gB (N + 1) (wthX N X S)
def lesI (a c : Int) : Int := if c < a then a - 1 else a
def woX (X : List (List Int)) (c : Int) : List (List Int) := (X.filter fun x => x.getD 0 0 != c && x.getD 1 0 != c).map fun x => [lesI (x.getD 0 0) c, lesI (x.getD 1 0) c]
def woB (N : Int) (X : List (List Int)) (c : Int) : Bool := gB N X && inr c 0 (N - 1)
def dupB (T : List Int) (i : Nat) : Bool := (T.take i).contains (T.getD i 0)
def perB (N : Int) (T : List Int) : Bool := (List.range T.length).all fun i => inr (T.getD i 0) 0 (N - 1) && !(dupB T i)
def renB (N : Int) (X : List (List Int)) (T : List Int) : Bool := gB N X && decide ((T.length : Int) = N) && perB N T
def renX (N : Int) (X : List (List Int)) (T : List Int) : List (List Int) := X.foldl (fun Y x => addL N Y (T.getD (x.getD 0 0).toNat 0) (T.getD (x.getD 1 0).toNat 0)) []
def partB (M : Int) (X : List (List Int)) (N : Int) (Y : List (List Int)) : Bool := gB M X && gB N Y && decide (M ≤ N) && (List.range M.toNat).all fun i => (List.range M.toNat).all fun k => dA M X (i : Int) (k : Int) == dA N Y (i : Int) (k : Int)
def loopP (x : List Int) : Bool := x.getD 0 0 == x.getD 1 0
def loops (N : Int) (X : List (List Int)) : Int := if gB N X then ((X.filter loopP).length : Int) else 0
theorem partB_le {M N : Int} {X Y : List (List Int)} (h : partB M X N Y = true) : M ≤ N := by
  unfold partB at h
  simp only [Bool.and_eq_true, decide_eq_true_iff] at h
  exact h.1.2
theorem partB_of {m n : Nat} {X Y : List (List Int)} (hX : gB m X = true) (hY : gB n Y = true) (hmn : m ≤ n) (h : ∀ i k : Nat, i < m → k < m → ([(i : Int), (k : Int)] ∈ X ↔ [(i : Int), (k : Int)] ∈ Y)) : partB m X n Y = true := by
  obtain ⟨m', e, _, hp, _⟩ := gB_ok hX
  obtain rfl : m = m' := by omega
  obtain ⟨n', e', _, hq, _⟩ := gB_ok hY
  obtain rfl : n = n' := by omega
  unfold partB
  rw [hX, hY, decide_eq_true (by omega : (m : Int) ≤ n)]
  simp only [Bool.true_and, Int.toNat_natCast, List.all_eq_true, List.mem_range]
  intro i hi k hk
  rw [beq_iff_eq, Bool.eq_iff_iff, dA_mem hX hp, dA_mem hY hq]
  exact h i k hi hk
theorem partB_same {n : Nat} {X : List (List Int)} (hX : gB n X = true) : partB n X n X = true := partB_of hX hX (Nat.le_refl _) fun _ _ _ _ => Iff.rfl
section
variable {N : Int} {X : List (List Int)} {S : List Int} (h : wthB N X S = true)
include h
theorem wth_parts : ∃ n : Nat, N = n ∧ n ≤ 9 ∧ gB n X = true ∧ gB ((n + 1 : Nat) : Int) (wthX n X S) = true ∧ Prs n X ∧ Prs (n + 1) (wthX n X S) ∧ Asc (wthX n X S) ∧ ∀ a ∈ S, 0 ≤ a ∧ a < (n : Int) := by
  unfold wthB at h
  rw [Bool.and_eq_true, Bool.and_eq_true] at h
  obtain ⟨⟨h1, h2⟩, h3⟩ := h
  obtain ⟨n, rfl, hn, hp, _⟩ := gB_ok h2
  obtain ⟨m, e, hm, hq, ha⟩ := gB_ok h3
  obtain rfl : m = n + 1 := by omega
  refine ⟨n, rfl, by omega, h2, h3, hp, hq, ha, fun a hS => ?_⟩
  have := List.all_eq_true.1 h1 a hS
  simp [inr] at this
  omega
theorem wth_g : gB (N + 1) (wthX N X S) = true := by
  unfold wthB at h
  rw [Bool.and_eq_true] at h
  exact h.2
theorem wth_part : partB N X (N + 1) (wthX N X S) = true := by
  obtain ⟨n, rfl, _, hg, hg', hp, _, _, hS⟩ := wth_parts h
  refine partB_of (n := n + 1) hg hg' (by omega) fun i k hi hk => ?_
  unfold wthX
  rw [List.mem_append, List.mem_map]
  constructor
  · exact .inl
  · rintro (hx | ⟨a, _, e⟩)
    · exact hx
    · injection e with e _
      omega
theorem wth_vct : vct (N + 1) (wthX N X S) N = S := by
  obtain ⟨n, rfl, _, hg, hg', hp, hq, ha, hS⟩ := wth_parts h
  have hg'' : gB ((n : Int) + 1) (wthX n X S) = true := hg'
  have hs : S.Pairwise (· < ·) := by
    unfold Asc wthX at ha
    have := (List.pairwise_append.1 ha).2.1
    rw [List.pairwise_map] at this
    refine this.imp ?_
    intro a b hab
    rw [ltP_iff] at hab
    simp at hab
    exact hab
  refine sorted_ext lt_irr lt_tr (vct_asc _ _ _) hs fun z => ?_
  have hv := vct_mem (n := n + 1) hg' hq (n : Int) z
  rw [show ((n + 1 : Nat) : Int) = (n : Int) + 1 from rfl] at hv
  rw [hv]
  unfold wthX
  rw [List.mem_append, List.mem_map]
  constructor
  · rintro (hx | ⟨a, ha, e⟩)
    · obtain ⟨p, q, e, h1, _⟩ := hp _ hx
      injection e with e _
      omega
    · injection e with _ e
      injection e with e _
      exact e ▸ ha
  · intro hz
    exact .inr ⟨z, hz, rfl⟩
theorem wth_without : woX (wthX N X S) N = X := by
  obtain ⟨n, rfl, _, hg, hg', hp, hq, ha, hS⟩ := wth_parts h
  unfold woX wthX
  rw [List.filter_append, List.map_append]
  have h1 : (S.map fun a => [(n : Int), a]).filter (fun x => x.getD 0 0 != (n : Int) && x.getD 1 0 != (n : Int)) = [] := by
    rw [List.filter_eq_nil_iff]
    intro x hx
    obtain ⟨a, _, rfl⟩ := List.mem_map.1 hx
    simp
  have h2 : X.filter (fun x => x.getD 0 0 != (n : Int) && x.getD 1 0 != (n : Int)) = X := by
    rw [List.filter_eq_self]
    intro x hx
    obtain ⟨p, q, rfl, h3, h4⟩ := hp x hx
    simp
    omega
  rw [h1, h2, List.map_nil, List.append_nil]
  conv => rhs; rw [← List.map_id X]
  refine List.map_congr_left fun x hx => ?_
  obtain ⟨p, q, rfl, h3, h4⟩ := hp x hx
  unfold lesI
  simp
  omega
theorem wth_wo : woB (N + 1) (wthX N X S) N = true := by
  obtain ⟨n, rfl, _, hg, hg', hp, hq, ha, hS⟩ := wth_parts h
  unfold woB
  rw [show gB ((n : Int) + 1) (wthX n X S) = true from hg', inr_t (by omega) (by omega)]
  rfl
theorem wth_same : partB N X N X = true := by
  obtain ⟨n, rfl, _, hg, _⟩ := wth_parts h
  exact partB_same hg
theorem wth_grd : (grd (N + 1) (wthX N X S)).contains N = true := by
  obtain ⟨n, rfl, _, hg, hg', hp, hq, ha, hS⟩ := wth_parts h
  rw [List.contains_iff_mem]
  refine it_in_grd hg' 1 (by decide) _ ?_
  show (n : Int) ∈ defL ((n + 1 : Nat) : Int) (wthX n X S) (itS ((n + 1 : Nat) : Int) (wthX n X S) 0)
  rw [defL_mem hg' hq, defB_iff hg' hq]
  refine ⟨it_set hg' hq 0, ⟨by omega, by omega⟩, fun z hz => ?_⟩
  exfalso
  unfold wthX at hz
  rw [List.mem_append, List.mem_map] at hz
  rcases hz with hz | ⟨a, ha', e⟩
  · obtain ⟨p, q, e, _, h2⟩ := hp _ hz
    injection e with _ e
    injection e with e _
    omega
  · injection e with _ e
    injection e with e _
    have := hS a ha'
    omega
end
theorem canA_new {n p q : Nat} {Y : List (List Int)} (hg : gB n Y = true) (hp : p < n) (hq : q < n) (hm : [(p : Int), (q : Int)] ∉ Y) : canA n Y p q = true := by
  obtain ⟨n', e, hn, hP, hA⟩ := gB_ok hg
  obtain rfl : n = n' := by omega
  unfold canA
  rw [hg, Bool.true_and]
  refine gB_of hn (fun z hz => ?_) (ins_asc hP hA hm)
  rcases ins_mem.1 hz with hz | rfl
  · exact hP z hz
  · exact ⟨p, q, rfl, hp, hq⟩
theorem ins_loops (a b : Int) : ∀ X : List (List Int), ((ins a b X).filter loopP).length = (X.filter loopP).length + if a = b then 1 else 0
  | [] => by
    unfold ins loopP
    by_cases h : a = b <;> simp [h]
  | x :: X => by
    have ih := ins_loops a b X
    unfold ins
    split
    · rw [List.filter_cons]
      have e : loopP [a, b] = decide (a = b) := by unfold loopP; simp; rfl
      rw [e]
      by_cases h : a = b
      · rw [decide_eq_true h, if_pos rfl, if_pos h]; rfl
      · rw [decide_eq_false h, if_neg h]; simp
    · rw [List.filter_cons, List.filter_cons]
      split
      · rw [List.length_cons, List.length_cons, ih]; omega
      · exact ih
section
variable {N : Int} {X : List (List Int)} {T : List Int} (h : renB N X T = true)
include h
/-- What a list of names gives. -/
theorem ren_parts : ∃ (n : Nat) (t : Nat → Nat), N = n ∧ n ≤ 10 ∧ gB n X = true ∧ Prs n X ∧ Asc X ∧ T.length = n ∧ (∀ i, i < n → T.getD i 0 = (t i : Int) ∧ t i < n) ∧ (∀ i k, i < n → k < n → t i = t k → i = k) := by
  unfold renB at h
  rw [Bool.and_eq_true, Bool.and_eq_true, decide_eq_true_iff] at h
  obtain ⟨⟨h1, h2⟩, h3⟩ := h
  obtain ⟨n, rfl, hn, hp, ha⟩ := gB_ok h1
  have hl : T.length = n := by omega
  unfold perB at h3
  rw [List.all_eq_true] at h3
  have h4 : ∀ i, i < n → T.getD i 0 = ((T.getD i 0).toNat : Int) ∧ (T.getD i 0).toNat < n := fun i hi => by
    have := h3 i (List.mem_range.2 (by omega))
    rw [Bool.and_eq_true] at this
    have h5 := this.1
    simp only [inr, Bool.and_eq_true, decide_eq_true_iff] at h5
    omega
  have h6 : ∀ i k, i < k → k < n → T.getD i 0 ≠ T.getD k 0 := fun i k hik hk e => by
    have := h3 k (List.mem_range.2 (by omega))
    rw [Bool.and_eq_true, Bool.not_eq_true'] at this
    have h5 := this.2
    unfold dupB at h5
    have : (T.take k).contains (T.getD k 0) = true := by
      rw [List.contains_iff_mem, ← e]
      have hi : i < (T.take k).length := by rw [List.length_take]; omega
      have : T.getD i 0 = (T.take k)[i] := by
        rw [List.getElem_take]
        simp [List.getD, show i < T.length by omega]
      rw [this]
      exact List.getElem_mem hi
    rw [this] at h5
    cases h5
  refine ⟨n, fun i => (T.getD i 0).toNat, rfl, hn, h1, hp, ha, hl, h4, fun i k hi hk e => ?_⟩
  have e' : T.getD i 0 = T.getD k 0 := by
    have := (h4 i hi).1
    have := (h4 k hk).1
    have e : (T.getD i 0).toNat = (T.getD k 0).toNat := e
    omega
  rcases Nat.lt_trichotomy i k with h7 | h7 | h7
  · exact absurd e' (h6 i k h7 hk)
  · exact h7
  · exact absurd e'.symm (h6 k i h7 hi)
end
/-- The graph with other names, as far as it is made. -/
theorem ren_made {n : Nat} {T : List Int} {t : Nat → Nat} (hn : n ≤ 10) (ht : ∀ i, i < n → T.getD i 0 = (t i : Int) ∧ t i < n) (hi : ∀ i k, i < n → k < n → t i = t k → i = k) :
    ∀ (X : List (List Int)), Prs n X → X.Nodup → gB n (renX n X T) = true ∧ (∀ z, z ∈ renX n X T ↔ ∃ p q : Nat, p < n ∧ q < n ∧ [(p : Int), (q : Int)] ∈ X ∧ z = [(t p : Int), (t q : Int)]) ∧ (renX n X T).length = X.length ∧ ((renX n X T).filter loopP).length = (X.filter loopP).length := by
  intro X
  have key : ∀ (k : Nat) (X : List (List Int)), X.length = k → Prs n X → X.Nodup → gB n (renX n X T) = true ∧ (∀ z, z ∈ renX n X T ↔ ∃ p q : Nat, p < n ∧ q < n ∧ [(p : Int), (q : Int)] ∈ X ∧ z = [(t p : Int), (t q : Int)]) ∧ (renX n X T).length = X.length ∧ ((renX n X T).filter loopP).length = (X.filter loopP).length := by
    intro k
    induction k with
    | zero =>
      intro X hl _ _
      obtain rfl := List.eq_nil_of_length_eq_zero hl
      exact ⟨gB_of hn (fun x hx => by cases hx) List.Pairwise.nil, fun z => by simp [renX], rfl, rfl⟩
    | succ k ih =>
      intro X hl hp hd
      obtain ⟨Y, x, rfl⟩ : ∃ Y x, X = Y ++ [x] := ⟨X.dropLast, X.getLast (by intro e; rw [e] at hl; cases hl), (List.dropLast_concat_getLast _).symm⟩
      have hd' := List.nodup_append.1 hd
      obtain ⟨h1, h2, h3, h4⟩ := ih Y (by simpa using hl) (fun y hy => hp y (List.mem_append_left _ hy)) hd'.1
      obtain ⟨p, q, rfl, hpn, hqn⟩ := hp x (by simp)
      have hnot : [(t p : Int), (t q : Int)] ∉ renX n Y T := fun hin => by
        obtain ⟨a, b, ha, hb, hab, e⟩ := (h2 _).1 hin
        injection e with e1 e2
        injection e2 with e2 _
        have := hi p a hpn ha (by omega)
        have := hi q b hqn hb (by omega)
        subst_vars
        exact hd'.2.2 _ hab _ (by simp) rfl
      have hc := canA_new h1 (ht p hpn).2 (ht q hqn).2 hnot
      have e : renX n (Y ++ [[(p : Int), (q : Int)]]) T = ins (t p) (t q) (renX n Y T) := by
        have e1 : renX n (Y ++ [[(p : Int), (q : Int)]]) T = addL n (renX n Y T) (T.getD p 0) (T.getD q 0) := by simp [renX, List.foldl_append]
        rw [e1, (ht p hpn).1, (ht q hqn).1]
        unfold addL
        rw [if_pos hc]
      rw [e]
      refine ⟨?_, fun z => ?_, by rw [ins_len, h3]; simp, ?_⟩
      · unfold canA at hc
        rw [Bool.and_eq_true] at hc
        exact hc.2
      · rw [ins_mem, h2]
        constructor
        · rintro (⟨a, b, ha, hb, hab, e⟩ | rfl)
          · exact ⟨a, b, ha, hb, List.mem_append_left _ hab, e⟩
          · exact ⟨p, q, hpn, hqn, by simp, rfl⟩
        · rintro ⟨a, b, ha, hb, hab, e⟩
          rcases List.mem_append.1 hab with hab | hab
          · exact .inl ⟨a, b, ha, hb, hab, e⟩
          · have e3 := List.mem_singleton.1 hab
            injection e3 with e4 e5
            injection e5 with e5 _
            have e6 : a = p := by omega
            have e7 : b = q := by omega
            rw [e6, e7] at e
            exact .inr e
      · rw [ins_loops, h4, List.filter_append, List.length_append]
        congr 1
        by_cases hpq : p = q
        · subst hpq
          simp [loopP]
        · have : ¬ ((t p : Int) = (t q : Int)) := fun e => hpq (hi p q hpn hqn (by omega))
          rw [if_neg this]
          have e8 : loopP [(p : Int), (q : Int)] = false := by
            unfold loopP
            simp
            omega
          rw [List.filter_cons, e8]
          rfl
  exact key _ X rfl
theorem asc_nd {X : List (List Int)} (h : Asc X) : X.Nodup := by
  unfold Asc at h
  exact h.imp fun {a b} hab e => by subst e; exact ltP_irr _ hab
section
variable {N : Int} {X : List (List Int)} {T : List Int} (h : renB N X T = true)
include h
theorem ren_g : gB N (renX N X T) = true := by
  obtain ⟨n, t, rfl, hn, _, hp, ha, _, ht, hi⟩ := ren_parts h
  exact (ren_made hn ht hi X hp (asc_nd ha)).1
theorem ren_len : (renX N X T).length = X.length := by
  obtain ⟨n, t, rfl, hn, _, hp, ha, _, ht, hi⟩ := ren_parts h
  exact (ren_made hn ht hi X hp (asc_nd ha)).2.2.1
theorem ren_loops : loops N X = loops N (renX N X T) := by
  obtain ⟨n, t, rfl, hn, hg, hp, ha, _, ht, hi⟩ := ren_parts h
  obtain ⟨h1, _, _, h4⟩ := ren_made hn ht hi X hp (asc_nd ha)
  unfold loops
  rw [if_pos hg, if_pos h1, h4]
/-- Names do not matter. -/
theorem ren_it (k i : Nat) (hiN : (i : Int) < N) : (itS N X k).contains (i : Int) = (itS N (renX N X T) k).contains (T.getD i 0) := by
  obtain ⟨n, t, rfl, hn, hg, hp, ha, _, ht, hi⟩ := ren_parts h
  obtain ⟨h1, h2, _, _⟩ := ren_made hn ht hi X hp (asc_nd ha)
  obtain ⟨n', e, _, hq, _⟩ := gB_ok h1
  obtain rfl : n = n' := by omega
  have hX : ∀ a b : Nat, a < n → b < n → ([(a : Int), (b : Int)] ∈ X ↔ [(t a : Int), (t b : Int)] ∈ renX n X T) := fun a b ha hb => by
    rw [h2]
    constructor
    · intro hx; exact ⟨a, b, ha, hb, hx, rfl⟩
    · rintro ⟨p, q, hpn, hqn, hx, e⟩
      injection e with e1 e2
      injection e2 with e2 _
      have := hi a p ha hpn (by omega)
      have := hi b q hb hqn (by omega)
      subst_vars
      exact hx
  have key : ∀ k i : Nat, i < n → ((i : Int) ∈ itS n X k ↔ (t i : Int) ∈ itS n (renX n X T) k) := by
    intro k
    induction k with
    | zero => intro i _; exact ⟨(fun h => by cases h), (fun h => by cases h)⟩
    | succ k ih =>
      have hhit : ∀ j, j < n → ((j : Int) ∈ hit n X (itS n X k) ↔ (t j : Int) ∈ hit n (renX n X T) (itS n (renX n X T) k)) := fun j hj => by
        rw [hit_mem hg hp, hit_mem h1 hq]
        constructor
        · rintro ⟨c, hc, hx⟩
          obtain ⟨p, q, e, hpn, hqn⟩ := hp _ hx
          injection e with e1 e2
          injection e2 with e2 _
          subst e1
          exact ⟨_, (ih p hpn).1 hc, (hX p j hpn hj).1 hx⟩
        · rintro ⟨c, hc, hx⟩
          obtain ⟨p, q, hpn, hqn, hx', e⟩ := (h2 _).1 hx
          injection e with e1 e2
          injection e2 with e2 _
          subst e1
          have := hi j q hj hqn (by omega)
          subst this
          exact ⟨_, (ih p hpn).2 hc, hx'⟩
      intro i hin
      show (i : Int) ∈ defL n X (itS n X k) ↔ (t i : Int) ∈ defL n (renX n X T) (itS n (renX n X T) k)
      rw [defL_mem hg hp, defL_mem h1 hq, defB_iff hg hp, defB_iff h1 hq]
      have hti := (ht i hin).2
      constructor
      · rintro ⟨_, _, h5⟩
        refine ⟨it_set h1 hq k, ⟨by omega, by omega⟩, fun z hz => ?_⟩
        obtain ⟨p, q, hpn, hqn, hx', e⟩ := (h2 _).1 hz
        injection e with e1 e2
        injection e2 with e2 _
        have := hi i q hin hqn (by omega)
        subst this
        rw [e1]
        exact (hhit p hpn).1 (h5 _ hx')
      · rintro ⟨_, _, h5⟩
        refine ⟨it_set hg hp k, ⟨by omega, by omega⟩, fun z hz => ?_⟩
        obtain ⟨p, q, e, hpn, hqn⟩ := hp _ hz
        injection e with e1 e2
        subst e1
        exact (hhit p hpn).2 (h5 _ ((hX p i hpn hin).1 hz))
  have hin : i < n := by omega
  rw [Bool.eq_iff_iff, List.contains_iff_mem, List.contains_iff_mem, (ht i hin).1]
  exact key k i hin
theorem ren_grd (i : Nat) (hiN : (i : Int) < N) : (grd N X).contains (i : Int) = (grd N (renX N X T)).contains (T.getD i 0) := ren_it h 10 i hiN
theorem ren_rnd (i : Nat) (hiN : (i : Int) < N) : rnd N X i = rnd N (renX N X T) (T.getD i 0) := by
  have hg : gB N X = true := by
    unfold renB at h
    rw [Bool.and_eq_true, Bool.and_eq_true] at h
    exact h.1.1
  have key : ∀ f k : Nat, rndT N X i f k = rndT N (renX N X T) (T.getD i 0) f k := by
    intro f
    induction f with
    | zero => intro k; rfl
    | succ f ih =>
      intro k
      unfold rndT
      rw [ren_it h (k + 1) i hiN, ih (k + 1)]
  unfold rnd
  rw [if_pos hg, if_pos (ren_g h)]
  exact key _ _
end
end Go.Proofs.YtjhknafajfpldaaDoor

/- Sums of the code of WithClaim. -/
namespace Go.Proofs.YtjhknafajfpldaaDoor
theorem setB_gr {N : Int} {X : List (List Int)} {S : List Int} (h : setB N X S = true) : gB N X = true := by
  unfold setB at h
  rw [Bool.and_eq_true] at h
  exact h.1
theorem wth_asc {n : Nat} {X : List (List Int)} {S : List Int} (hp : Prs n X) (ha : Asc X) (hS : S.Pairwise (· < ·)) : Asc (wthX n X S) := by
  unfold Asc wthX
  rw [List.pairwise_append, List.pairwise_map]
  refine ⟨ha, hS.imp fun h => ?_, fun x hx y hy => ?_⟩
  · rw [ltP_iff]; exact .inr ⟨rfl, h⟩
  · obtain ⟨p, q, rfl, h1, _⟩ := hp x hx
    obtain ⟨a, _, rfl⟩ := List.mem_map.1 hy
    rw [ltP_iff]
    exact .inl (by simp; omega)
theorem wth_prs {n : Nat} {X : List (List Int)} {S : List Int} (hp : Prs n X) (hS : ∀ z ∈ S, 0 ≤ z ∧ z < (n : Int)) : Prs (n + 1) (wthX n X S) := by
  intro x hx
  unfold wthX at hx
  rcases List.mem_append.1 hx with hx | hx
  · obtain ⟨p, q, rfl, h1, h2⟩ := hp x hx
    exact ⟨p, q, rfl, by omega, by omega⟩
  · obtain ⟨a, ha, rfl⟩ := List.mem_map.1 hx
    obtain ⟨h0, h1⟩ := hS a ha
    exact ⟨n, a.toNat, by rw [Int.toNat_of_nonneg h0], by omega, by omega⟩
/-- A claim can be added just if its victims are a set and there is room. -/
theorem wth_iff (N : Int) (X : List (List Int)) (S : List Int) : wthB N X S = (setB N X S && (N != 10)) := by
  rw [Bool.eq_iff_iff]
  constructor
  · intro h
    obtain ⟨n, rfl, hn, hg, _, _, _, ha, hS⟩ := wth_parts h
    rw [Bool.and_eq_true]
    refine ⟨(setB_iff hg).2 ⟨?_, hS⟩, by simp; omega⟩
    unfold Asc wthX at ha
    have h2 := (List.pairwise_append.1 ha).2.1
    rw [List.pairwise_map] at h2
    refine h2.imp fun h => ?_
    rw [ltP_iff] at h
    simpa using h
  · intro h
    rw [Bool.and_eq_true] at h
    obtain ⟨hs, h10⟩ := h
    have hg := setB_gr hs
    obtain ⟨n, rfl, hn, hp, ha⟩ := gB_ok hg
    have h9 : n ≤ 9 := by simp at h10; omega
    obtain ⟨h1, h2⟩ := (setB_iff hg).1 hs
    unfold wthB
    rw [Bool.and_eq_true, Bool.and_eq_true]
    refine ⟨⟨List.all_eq_true.2 fun a hm => inr_t (h2 a hm).1 (by have := (h2 a hm).2; omega), hg⟩, ?_⟩
    exact gB_of (n := n + 1) (by omega) (wth_prs hp h2) (wth_asc hp ha h1)
theorem glK_congr {f g : Nat → Nat} : ∀ k, (∀ a, a < k → f a = g a) → glK f k = glK g k
  | 0, _ => rfl
  | k + 1, h => by
    rw [glK_succ, glK_succ, glK_congr k fun a ha => h a (by omega)]
    unfold rowL
    rw [h k (by omega)]
/-- The rows with one more. -/
def putR (f : Nat → Nat) (n x : Nat) (k : Nat) : Nat := if k = n then x else f k
theorem with_code {n : Nat} {X : List (List Int)} {S : List Int} (hs : setB n X S = true) : glK (putR (rf n X) n (bS S)) (n + 1) = wthX n X S := by
  have hg := setB_gr hs
  rw [glK_succ, glK_congr (g := rf n X) n fun a ha => by unfold putR; rw [if_neg (by omega)]]
  have e1 : glK (rf n X) n = X := by
    obtain ⟨n', e, hn, hP, hA⟩ := gB_ok hg
    obtain rfl : n = n' := by omega
    have hr : rf n X = att X := by unfold rf; rw [if_pos hg]
    rw [hr]
    refine sorted_ext ltP_irr ltP_tr (glK_asc _ _) hA fun z => ?_
    rw [mem_glK]
    constructor
    · rintro ⟨a, b, _, _, ht, rfl⟩
      exact (att_mem hP a b).1 ht
    · intro hz
      obtain ⟨p, q, rfl, hp, hq⟩ := hP z hz
      exact ⟨p, q, hp, by omega, (att_mem hP p q).2 hz, rfl⟩
  rw [e1]
  unfold rowL putR wthX
  obtain ⟨n2, e2, hn2, _⟩ := gB_ok hg
  rw [if_pos rfl, lsT_bS hg (by omega) hs]
theorem putR_lt {f : Nat → Nat} {n x : Nat} (hf : ∀ a, f a < 65536) (hx : x < 65536) (k : Nat) : putR f n x k < 65536 := by
  unfold putR
  split
  · exact hx
  · exact hf k
/-- The graph with one more claim, or as it was. -/
def wtM (N : Int) (X : List (List Int)) (S : List Int) : Int := if wthB N X S then N + 1 else N
def wtY (N : Int) (X : List (List Int)) (S : List Int) : List (List Int) := if wthB N X S then wthX N X S else X
end Go.Proofs.YtjhknafajfpldaaDoor
