/- What the law of chapter 6 says of the sums: without code. -/
import Derived.Test.YtncndlojceiejaaFreeSum
import Derived.Test.YtncndlojceiejaaRoundOf
import Derived.Test.YtncndlojceiejaaGroundM4
namespace Go.Proofs.Ytncndlojceiejaa
section
variable {N : Int} {X : List (List Int)} (hg : gB N X = true)
include hg
theorem it_adm (k : Nat) : admB N X (itS N X k) = true := by
  induction k with
  | zero =>
    obtain ⟨n, rfl, _, hp, _⟩ := gB_ok hg
    exact adm_iff.2 ⟨free_iff.2 ⟨it_set hg hp 0, fun z hz => by cases hz⟩, fun z hz => by cases hz⟩
  | succ k ih => exact adm_step ih
theorem it_end : itS N X 11 = itS N X 10 := by
  obtain ⟨n, rfl, hn, hp, _⟩ := gB_ok hg
  by_cases h : ∀ j, j < 11 → itS n X (j + 1) ≠ itS n X j
  · have h1 := it_many hg hp 11 h
    have h2 := it_len (n := n) (X := X) 11
    omega
  · simp only [Classical.not_forall] at h
    obtain ⟨j, hj, h⟩ := h
    have h := Classical.not_not.1 h
    have h1 := it_stay h (10 - j)
    have h2 := it_stay h (11 - j)
    rw [show j + (10 - j) = 10 by omega] at h1
    rw [show j + (11 - j) = 11 by omega] at h2
    rw [h1, h2]
theorem grd_fix : defL N X (grd N X) = grd N X := it_end hg
theorem grd_comp : compB N X (grd N X) = true := by
  unfold compB
  rw [Bool.and_eq_true, decide_eq_true_iff]
  exact ⟨adm_free (it_adm hg 10), grd_fix hg⟩
theorem it_sub (k j : Nat) : ∀ z ∈ itS N X k, z ∈ itS N X (k + j) := by
  obtain ⟨n, rfl, _, hp, _⟩ := gB_ok hg
  induction j with
  | zero => exact fun z hz => hz
  | succ j ih => exact fun z hz => it_mono hg hp (k + j) z (ih z hz)
theorem it_in_grd (k : Nat) (hk : k ≤ 11) : ∀ z ∈ itS N X k, z ∈ grd N X := fun z hz => by
  have h := it_sub hg k (11 - k) z hz
  rw [show k + (11 - k) = 11 by omega, it_end hg] at h
  exact h
/-- After as many steps as there are claims nothing is added. -/
theorem grd_n {n : Nat} (e : N = n) : itS N X n = grd N X := by
  subst e
  obtain ⟨m, e, hn, hp, _⟩ := gB_ok hg
  obtain rfl : n = m := by omega
  by_cases h : ∀ j, j < n + 1 → itS n X (j + 1) ≠ itS n X j
  · have h1 := it_many hg hp (n + 1) h
    have h2 := it_len (n := n) (X := X) (n + 1)
    omega
  · simp only [Classical.not_forall] at h
    obtain ⟨j, hj, h⟩ := h
    have h := Classical.not_not.1 h
    have h1 := it_stay h (10 - j)
    have h2 := it_stay h (n - j)
    rw [show j + (10 - j) = 10 by omega] at h1
    rw [show j + (n - j) = n by omega] at h2
    unfold grd
    rw [h1, h2]
theorem rnd_pos (c : Int) : decide (0 < rnd N X c) = (grd N X).contains c := by
  obtain ⟨n, rfl, hn, hp, _⟩ := gB_ok hg
  unfold rnd
  rw [if_pos hg, Int.toNat_natCast]
  by_cases h : ∀ y, (itS n X (y + 1)).contains c = false
  · rw [rndT_miss h]
    have := h 9
    unfold grd
    rw [this]
    rfl
  · simp only [Classical.not_forall] at h
    obtain ⟨y, hy⟩ := h
    have hy : (itS n X (y + 1)).contains c = true := by simpa using hy
    obtain ⟨x, hx, hno⟩ : ∃ x, (itS n X (x + 1)).contains c = true ∧ ∀ y, y < x → (itS n X (y + 1)).contains c = false := by
      induction y using Nat.strongRecOn with
      | _ y ih =>
        by_cases hh : ∃ z, z < y ∧ (itS n X (z + 1)).contains c = true
        · obtain ⟨z, hz, hzc⟩ := hh
          exact ih z hz (by rw [hzc]; exact fun e => Bool.noConfusion e) hzc
        · exact ⟨y, hy, fun z hz => by simpa using fun e => hh ⟨z, hz, e⟩⟩
    have hxn : x < n := by
      refine Nat.lt_of_not_le fun hle => ?_
      have h1 := grd_n hg (n := n) rfl
      have h2 : itS n X (x + 1) = itS n X n := by
        have : itS n X (n + 1) = itS n X n := by show defL n X (itS n X n) = _; rw [h1]; exact grd_fix hg
        have h3 := it_stay this (x + 1 - n)
        rw [show n + (x + 1 - n) = x + 1 by omega] at h3
        exact h3
      cases n with
      | zero => rw [h2] at hx; simp [itS] at hx
      | succ m =>
        have := hno m (by omega)
        rw [h2] at hx
        rw [hx] at this
        cases this
    rw [rndT_hit hx hno n 0 (by omega) (by omega)]
    have h3 : (grd n X).contains c = true := List.contains_iff_mem.2 (it_in_grd hg (x + 1) (by omega) c (List.contains_iff_mem.1 hx))
    rw [h3, decide_eq_true_iff]
    omega
theorem rnd_one {n : Nat} (k : Nat) (e : N = n) (hk : k < n) : decide (rnd N X k = 1) = decide ((atk N X k).length = 0) := by
  subst e
  obtain ⟨m, e, hn, hp, _⟩ := gB_ok hg
  obtain rfl : n = m := by omega
  have h1 : (k : Int) ∈ itS n X 1 ↔ (atk n X k).length = 0 := by
    show (k : Int) ∈ defL n X [] ↔ _
    rw [defL_mem hg hp, defB_iff hg hp, List.length_eq_zero_iff]
    constructor
    · rintro ⟨_, _, h⟩
      rw [List.eq_nil_iff_forall_not_mem]
      intro z hz
      obtain ⟨c, hc, _⟩ := (hit_mem hg hp z).1 (h z ((atk_mem hg hp k z).1 hz))
      cases hc
    · intro h
      refine ⟨it_set hg hp 0, ⟨by omega, by omega⟩, fun z hz => ?_⟩
      have := (atk_mem hg hp k z).2 hz
      rw [h] at this
      cases this
  rw [Bool.eq_iff_iff, decide_eq_true_iff, decide_eq_true_iff, ← h1]
  unfold rnd
  rw [if_pos hg, Int.toNat_natCast]
  obtain ⟨f, rfl⟩ : ∃ f, n = f + 1 := ⟨n - 1, by omega⟩
  unfold rndT
  by_cases hc : (itS ((f + 1 : Nat) : Int) X (0 + 1)).contains (k : Int) = true
  · rw [if_pos hc]
    exact ⟨fun _ => List.contains_iff_mem.1 hc, fun _ => rfl⟩
  · rw [if_neg hc]
    constructor
    · intro h
      exfalso
      have key : ∀ fu j, rndT ((f + 1 : Nat) : Int) X k fu (j + 1) ≠ 1 := by
        intro fu
        induction fu with
        | zero => intro j; simp [rndT]
        | succ fu ih =>
          intro j
          unfold rndT
          split
          · omega
          · exact ih (j + 1)
      exact key f 0 h
    · intro h
      exact absurd (List.contains_iff_mem.2 h) hc
theorem grd_least {S : List Int} (h : compB N X S = true) : ((grd N X).all fun z => S.contains z) = true := by
  obtain ⟨n, rfl, hn, hp, _⟩ := gB_ok hg
  unfold compB at h
  rw [Bool.and_eq_true, decide_eq_true_iff] at h
  obtain ⟨hf, he⟩ := h
  have key : ∀ k, ∀ z ∈ itS n X k, z ∈ S := by
    intro k
    induction k with
    | zero => intro z hz; cases hz
    | succ k ih => intro z hz; rw [← he]; exact defL_mono hg hp ih (free_set hf) z hz
  exact all_within (key 10)
theorem grd_out {c : Int} (h : (grd N X).contains c = true) : (hit N X (grd N X)).contains c = false := by
  obtain ⟨n, rfl, hn, hp, _⟩ := gB_ok hg
  obtain ⟨_, hq⟩ := free_iff.1 (adm_free (it_adm hg 10))
  have := hq c (List.contains_iff_mem.1 h)
  cases hh : (hit n X (grd n X)).contains c with
  | false => rfl
  | true => exact absurd (List.contains_iff_mem.1 hh) this
theorem opn_contains {n : Nat} (k : Nat) (e : N = n) (hk : k < n) : (opns N X).contains (k : Int) = openP N X k := by
  unfold opns labs opnT
  rw [if_pos hg, labT_len, e, Int.toNat_natCast, Bool.eq_iff_iff, List.contains_iff_mem, List.mem_map]
  constructor
  · rintro ⟨j, hj, e⟩
    obtain rfl : j = k := by omega
    exact (List.mem_filter.1 hj).2
  · intro h
    exact ⟨k, List.mem_filter.2 ⟨List.mem_range.2 hk, h⟩, rfl⟩
theorem labs_n {n : Nat} (e : N = n) : (labs N X).length = n := by
  unfold labs
  rw [if_pos hg, labT_len, e, Int.toNat_natCast]
end
theorem toList_in {a b : Array UInt8} (h : (a.toList == b.toList) = false) : ((⟨a⟩ : ByteArray).toList == (⟨b⟩ : ByteArray).toList) = false := by
  rw [ByteArray.toList_eq, ByteArray.toList_eq]; exact h
theorem lab_in (N : Int) (X : List (List Int)) (k : Nat) : ((lab N X k).toList == (⟨#[105, 110]⟩ : ByteArray).toList) = (grd N X).contains (k : Int) := by
  unfold lab
  cases (grd N X).contains (k : Int)
  · cases (hit N X (grd N X)).contains (k : Int)
    · exact toList_in rfl
    · exact toList_in rfl
  · exact beq_self_eq_true _
theorem lab_out {N : Int} {X : List (List Int)} (hg : gB N X = true) (k : Nat) : ((lab N X k).toList == (⟨#[111, 117, 116]⟩ : ByteArray).toList) = (hit N X (grd N X)).contains (k : Int) := by
  unfold lab
  cases h : (grd N X).contains (k : Int)
  · cases (hit N X (grd N X)).contains (k : Int)
    · exact toList_in rfl
    · exact beq_self_eq_true _
  · rw [grd_out hg h]
    exact toList_in rfl
end Go.Proofs.Ytncndlojceiejaa
