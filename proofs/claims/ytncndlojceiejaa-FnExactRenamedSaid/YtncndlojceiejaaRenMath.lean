/- Sums of the code of Without and Renamed: pairs with other names, by rows. -/
import Derived.Test.YtncndlojceiejaaDispMath
import Derived.Test.YtncndlojceiejaaFreeB
namespace Go.Proofs.Ytncndlojceiejaa
def keepX (t : Nat → Int) (x : List Int) : Bool := t (x.getD 0 0).toNat != -1 && t (x.getD 1 0).toNat != -1
def namX (t : Nat → Int) (x : List Int) : List Int := [t (x.getD 0 0).toNat, t (x.getD 1 0).toNat]
/-- The pairs with other names, without those that fall out. -/
def mapX (t : Nat → Int) (X : List (List Int)) : List (List Int) := (X.filter (keepX t)).map (namX t)
theorem mapX_yes {t : Nat → Int} (X : List (List Int)) {x : List Int} (h : keepX t x = true) : mapX t (X ++ [x]) = mapX t X ++ [namX t x] := by simp [mapX, List.filter_append, h]
theorem mapX_no {t : Nat → Int} (X : List (List Int)) {x : List Int} (h : keepX t x = false) : mapX t (X ++ [x]) = mapX t X := by simp [mapX, List.filter_append, h]
/-- Names: a claim each, or none. -/
def Nms (t : Nat → Int) : Prop := ∀ k, k < 10 → t k = -1 ∨ (0 ≤ t k ∧ t k < 10)
theorem mapX_prs {t : Nat → Int} {X : List (List Int)} (ht : Nms t) (hX : Prs 10 X) : Prs 10 (mapX t X) := by
  intro y hy
  unfold mapX at hy
  obtain ⟨x, hx, rfl⟩ := List.mem_map.1 hy
  obtain ⟨hx, hk⟩ := List.mem_filter.1 hx
  obtain ⟨p, q, rfl, hp, hq⟩ := hX x hx
  simp [keepX] at hk
  unfold namX
  simp only [List.getD_cons_zero, List.getD_cons_succ, Int.toNat_natCast]
  rcases ht p hp with h1 | ⟨h1, h2⟩
  · exact absurd h1 hk.1
  · rcases ht q hq with h3 | ⟨h3, h4⟩
    · exact absurd h3 hk.2
    · exact ⟨(t p).toNat, (t q).toNat, by rw [Int.toNat_of_nonneg h1, Int.toNat_of_nonneg h3], by omega, by omega⟩
theorem att_lt16 {X : List (List Int)} (hX : Prs 10 X) (a : Nat) : att X a < 65536 := Nat.lt_trans (att_lt (Nat.le_refl _) hX a) (by decide)
theorem rowL_prs (f : Nat → Nat) {k : Nat} (hk : k < 10) : Prs 10 (rowL f k) := by
  intro x hx
  unfold rowL at hx
  obtain ⟨z, hz, rfl⟩ := List.mem_map.1 hx
  obtain ⟨j, hj, _, rfl⟩ := (lsT_mem _ _ _).1 hz
  exact ⟨k, j, rfl, hk, hj⟩
theorem prs_app {n : Nat} {X Y : List (List Int)} (h : Prs n X) (k : Prs n Y) : Prs n (X ++ Y) := fun x hx => by
  rcases List.mem_append.1 hx with hx | hx
  · exact h x hx
  · exact k x hx
theorem glK_prs (f : Nat → Nat) : ∀ k, k ≤ 10 → Prs 10 (glK f k)
  | 0, _ => fun x hx => by simp [glK] at hx
  | k + 1, h => by
    rw [glK_succ]
    exact prs_app (glK_prs f k (by omega)) (rowL_prs f (by omega))
theorem glK_back {n : Nat} {Y Z : List (List Int)} (hZ : gB n Z = true) (h : ∀ z, z ∈ Z ↔ z ∈ Y) : glK (att Y) n = Z := by
  obtain ⟨n', e, hn, hP, hA⟩ := gB_ok hZ
  obtain rfl : n = n' := by omega
  have hY : Prs n Y := fun y hy => hP y ((h y).2 hy)
  refine sorted_ext ltP_irr ltP_tr (glK_asc _ _) hA fun z => ?_
  rw [mem_glK, h]
  constructor
  · rintro ⟨a, b, _, _, ht, rfl⟩
    exact (att_mem hY a b).1 ht
  · intro hz
    obtain ⟨p, q, rfl, hp, hq⟩ := hY z hz
    exact ⟨p, q, hp, by omega, (att_mem hY p q).2 hz, rfl⟩
theorem rf_att {N : Int} {X : List (List Int)} (h : gB N X = true) : rf N X = att X := by unfold rf; rw [if_pos h]
theorem glK_rf {n : Nat} {X : List (List Int)} (h : gB n X = true) : glK (rf n X) n = X := by
  rw [rf_att h]
  exact glK_back h fun _ => Iff.rfl
/-- The names without a claim. -/
def woN (c : Int) (k : Nat) : Int := if (k : Int) < c then k else if (k : Int) = c then -1 else (k : Int) - 1
theorem woN_nms {c : Int} (h : 0 ≤ c) : Nms (woN c) := fun k hk => by
  unfold woN
  split
  · exact .inr ⟨by omega, by omega⟩
  · split
    · exact .inl rfl
    · exact .inr ⟨by omega, by omega⟩
theorem woN_les {c : Int} {k : Nat} (h : (k : Int) ≠ c) : woN c k = lesI k c := by
  unfold woN lesI
  by_cases h1 : (k : Int) < c
  · rw [if_pos h1, if_neg (by omega)]
  · rw [if_neg h1, if_neg h, if_pos (by omega)]
theorem woN_out {c : Int} {k : Nat} (h0 : 0 ≤ c) : (woN c k != -1) = ((k : Int) != c) := by
  unfold woN
  rw [Bool.eq_iff_iff, bne_iff_ne, bne_iff_ne]
  split
  · constructor <;> intro _ <;> omega
  · split
    · next h => exact ⟨fun e => absurd rfl e, fun e => absurd h e⟩
    · next h => exact ⟨fun _ => h, fun _ => by omega⟩
theorem woX_code {n : Nat} {X : List (List Int)} {c : Int} (hX : Prs n X) (h0 : 0 ≤ c) : mapX (woN c) X = woX X c := by
  unfold mapX woX
  have e : X.filter (keepX (woN c)) = X.filter fun x => x.getD 0 0 != c && x.getD 1 0 != c := by
    refine List.filter_congr fun x hx => ?_
    obtain ⟨p, q, rfl, _, _⟩ := hX x hx
    unfold keepX
    simp only [List.getD_cons_zero, List.getD_cons_succ, Int.toNat_natCast]
    rw [woN_out h0, woN_out h0]
  rw [e]
  refine List.map_congr_left fun x hx => ?_
  obtain ⟨hx, hk⟩ := List.mem_filter.1 hx
  obtain ⟨p, q, rfl, _, _⟩ := hX x hx
  simp only [List.getD_cons_zero, List.getD_cons_succ, Bool.and_eq_true, bne_iff_ne] at hk
  unfold namX
  simp only [List.getD_cons_zero, List.getD_cons_succ, Int.toNat_natCast]
  rw [woN_les hk.1, woN_les hk.2]
theorem woX_g {n : Nat} {X : List (List Int)} {c : Int} (hg : gB n X = true) (h0 : 0 ≤ c) (h1 : c < n) : gB ((n - 1 : Nat) : Int) (woX X c) = true := by
  obtain ⟨n', e, hn, hP, hA⟩ := gB_ok hg
  obtain rfl : n = n' := by omega
  refine gB_of (by omega) (fun z hz => ?_) ?_
  · unfold woX at hz
    obtain ⟨x, hx, rfl⟩ := List.mem_map.1 hz
    obtain ⟨hx, hk⟩ := List.mem_filter.1 hx
    obtain ⟨p, q, rfl, hp, hq⟩ := hP x hx
    simp only [List.getD_cons_zero, List.getD_cons_succ, Bool.and_eq_true, bne_iff_ne] at hk ⊢
    have key : ∀ p : Nat, p < n → (p : Int) ≠ c → ∃ r : Nat, lesI p c = r ∧ r < n - 1 := fun p hp hk => by
      unfold lesI
      split
      · exact ⟨p - 1, by omega, by omega⟩
      · exact ⟨p, rfl, by omega⟩
    obtain ⟨r, e1, h3⟩ := key p hp hk.1
    obtain ⟨s, e2, h4⟩ := key q hq hk.2
    exact ⟨r, s, by rw [e1, e2], h3, h4⟩
  · unfold Asc woX
    unfold Asc at hA
    rw [List.pairwise_map, List.pairwise_filter]
    refine hA.imp ?_
    intro x y hxy h2 h3
    simp only [Bool.and_eq_true, bne_iff_ne] at h2 h3
    rw [ltP_iff] at hxy ⊢
    have key : ∀ a b : Int, a ≠ c → b ≠ c → (a < b → lesI a c < lesI b c) ∧ (a = b → lesI a c = lesI b c) := fun a b ha hb => by
      unfold lesI
      refine ⟨fun h => ?_, fun h => by rw [h]⟩
      split <;> split <;> omega
    simp only [List.getD_cons_zero, List.getD_cons_succ]
    have k1 := key _ _ h2.1 h3.1
    have k2 := key _ _ h2.2 h3.2
    rcases hxy with h | ⟨h, h'⟩
    · exact .inl (k1.1 h)
    · exact .inr ⟨k1.2 h, k2.1 h'⟩
theorem without_code {n : Nat} {X : List (List Int)} {c : Int} (hg : gB n X = true) (h0 : 0 ≤ c) (h1 : c < n) : glK (att (mapX (woN c) (glK (rf n X) n))) (n - 1) = woX X c := by
  obtain ⟨n', e, hn, hP, hA⟩ := gB_ok hg
  obtain rfl : n = n' := by omega
  rw [glK_rf hg, woX_code hP h0]
  exact glK_back (woX_g hg h0 h1) fun _ => Iff.rfl
theorem nd_len : ∀ {T R : List Int}, T.Nodup → (∀ x ∈ T, x ∈ R) → T.length ≤ R.length
  | [], _, _, _ => Nat.zero_le _
  | x :: T, R, hn, hs => by
    rw [List.nodup_cons] at hn
    have hx : x ∈ R := hs x (by simp)
    have ih := nd_len (T := T) (R := R.erase x) hn.2 fun y hy => (List.mem_erase_of_ne (fun e : y = x => hn.1 (e ▸ hy))).2 (hs y (List.mem_cons_of_mem _ hy))
    have hl := List.length_erase_of_mem hx
    have : 0 < R.length := List.length_pos_of_mem hx
    rw [List.length_cons]
    omega
def rngI (n : Nat) : List Int := (List.range n).map fun (j : Nat) => (j : Int)
theorem rngI_mem {n : Nat} {z : Int} : z ∈ rngI n ↔ 0 ≤ z ∧ z < n := by
  unfold rngI
  rw [List.mem_map]
  constructor
  · rintro ⟨j, hj, rfl⟩
    have := List.mem_range.1 hj
    omega
  · rintro ⟨h0, h1⟩
    exact ⟨z.toNat, List.mem_range.2 (by omega), by omega⟩
theorem rngI_nd (n : Nat) : (rngI n).Nodup := by
  unfold rngI
  rw [List.nodup_iff_pairwise_ne, List.pairwise_map]
  exact List.nodup_iff_pairwise_ne.1 (List.nodup_range) |>.imp fun h e => h (by omega)
theorem rngI_len (n : Nat) : (rngI n).length = n := by simp [rngI]
theorem per_cover {n : Nat} {T : List Int} (hl : T.length = n) (h : perB n T = true) : ∀ j : Nat, j < n → (j : Int) ∈ T := by
  unfold perB at h
  rw [List.all_eq_true] at h
  have hb : ∀ i (hi : i < T.length), 0 ≤ T[i] ∧ T[i] < n := fun i hi => by
    have := h i (List.mem_range.2 hi)
    rw [Bool.and_eq_true] at this
    have h1 := this.1
    simp only [inr, Bool.and_eq_true, decide_eq_true_iff] at h1
    have e : T.getD i 0 = T[i] := by simp [List.getD, hi]
    omega
  have hnd : T.Nodup := by
    rw [List.nodup_iff_pairwise_ne, List.pairwise_iff_getElem]
    intro i j hi hj hij e
    have := h j (List.mem_range.2 hj)
    rw [Bool.and_eq_true, Bool.not_eq_true'] at this
    have h2 := this.2
    unfold dupB at h2
    have : (T.take j).contains (T.getD j 0) = true := by
      rw [List.contains_iff_mem]
      have e1 : T.getD j 0 = T[j] := by simp [List.getD, hj]
      have hi' : i < (T.take j).length := by rw [List.length_take]; omega
      rw [e1, ← e]
      have : T[i] = (T.take j)[i] := by rw [List.getElem_take]
      rw [this]
      exact List.getElem_mem hi'
    rw [this] at h2
    cases h2
  intro j hj
  refine Classical.byContradiction fun hno => ?_
  have hjm : (j : Int) ∈ rngI n := rngI_mem.2 ⟨by omega, by omega⟩
  have := nd_len (R := (rngI n).erase j) hnd fun x hx => by
    obtain ⟨i, hi, rfl⟩ := List.getElem_of_mem hx
    exact (List.mem_erase_of_ne (fun e : T[i] = (j : Int) => hno (e ▸ hx))).2 (rngI_mem.2 (hb i hi))
  rw [List.length_erase_of_mem hjm, rngI_len] at this
  omega
theorem cover_per {n : Nat} {T : List Int} (hl : T.length = n) (h : ∀ j : Nat, j < n → (j : Int) ∈ T) : perB n T = true := by
  have key : ∀ i (hi : i < T.length), ¬ ∀ j : Nat, j < n → ∃ k, ∃ hk : k < T.length, k ≠ i ∧ T[k] = (j : Int) := fun i hi hc => by
    have := nd_len (T := rngI n) (R := T.eraseIdx i) (rngI_nd n) fun x hx => by
      obtain ⟨h0, h1⟩ := rngI_mem.1 hx
      obtain ⟨k, hk, hne, e⟩ := hc x.toNat (by omega)
      rw [List.mem_eraseIdx_iff_getElem]
      exact ⟨k, hk, hne, by omega⟩
    rw [List.length_eraseIdx, if_pos hi, rngI_len] at this
    omega
  unfold perB
  rw [List.all_eq_true]
  intro i hi
  have hi := List.mem_range.1 hi
  have e : T.getD i 0 = T[i] := by simp [List.getD, hi]
  rw [Bool.and_eq_true, Bool.not_eq_true', e]
  constructor
  · refine Classical.byContradiction fun hc => key i hi fun j hj => ?_
    obtain ⟨k, hk, ek⟩ := List.getElem_of_mem (h j hj)
    refine ⟨k, hk, fun hki => hc ?_, ek⟩
    subst hki
    exact inr_t (by omega) (by omega)
  · cases hd : dupB T i with
    | false => rfl
    | true =>
      exfalso
      unfold dupB at hd
      rw [List.contains_iff_mem, e] at hd
      obtain ⟨k, hk, ek⟩ := List.getElem_of_mem hd
      rw [List.length_take] at hk
      rw [List.getElem_take] at ek
      refine key i hi fun j hj => ?_
      obtain ⟨m, hm, em⟩ := List.getElem_of_mem (h j hj)
      by_cases hmi : m = i
      · subst hmi
        exact ⟨k, by omega, by omega, by rw [ek, em]⟩
      · exact ⟨m, hm, hmi, em⟩
/-- As many numbers as claims have each claim just if their bits are all bits. -/
theorem ren_test {n : Nat} {T : List Int} (hn : n ≤ 10) (hl : T.length = n) : (bS T == alB n) = perB n T := by
  rw [Bool.eq_iff_iff, beq_iff_eq]
  constructor
  · intro h
    refine cover_per hl fun j hj => ?_
    have : (bS T).testBit j = true := by rw [h, alB_bit]; simpa using hj
    exact ((bS_mem T j).1 this).2
  · intro h
    have hc := per_cover hl h
    refine Nat.eq_of_testBit_eq fun j => ?_
    rw [Bool.eq_iff_iff, bS_mem, alB_bit]
    simp only [Int.toNat_natCast, decide_eq_true_iff]
    constructor
    · rintro ⟨hj, hm⟩
      refine Classical.byContradiction fun hno => ?_
      unfold perB at h
      rw [List.all_eq_true] at h
      obtain ⟨i, hi, e⟩ := List.getElem_of_mem hm
      have h1 := h i (List.mem_range.2 hi)
      rw [Bool.and_eq_true] at h1
      have e2 : T.getD i 0 = T[i] := by simp [List.getD, hi]
      have h2 := h1.1
      simp only [inr, Bool.and_eq_true, decide_eq_true_iff] at h2
      omega
    · intro hj
      exact ⟨by omega, hc j hj⟩
/-- The names of a list. -/
def tN (T : List Int) (k : Nat) : Int := T.getD k 0
theorem tN_nms {n : Nat} {T : List Int} (hn : n ≤ 10) (hl : T.length = n) (h : perB n T = true) : Nms (tN T) := fun k hk => by
  unfold tN
  by_cases hkl : k < T.length
  · unfold perB at h
    rw [List.all_eq_true] at h
    have h1 := h k (List.mem_range.2 hkl)
    rw [Bool.and_eq_true] at h1
    have h2 := h1.1
    simp only [inr, Bool.and_eq_true, decide_eq_true_iff] at h2
    exact .inr ⟨by omega, by omega⟩
  · have : T.getD k 0 = 0 := by simp [List.getD, hkl]
    rw [this]
    exact .inr ⟨by omega, by omega⟩
theorem renamed_code {n : Nat} {X : List (List Int)} {T : List Int} (h : renB n X T = true) : glK (att (mapX (tN T) (glK (rf n X) n))) n = renX n X T := by
  obtain ⟨n', t, e, hn, hg, hp, ha, hl, ht, hi⟩ := ren_parts h
  obtain rfl : n = n' := by omega
  obtain ⟨h1, h2, _, _⟩ := ren_made hn ht hi X hp (asc_nd ha)
  rw [glK_rf hg]
  refine glK_back h1 fun z => ?_
  rw [h2]
  unfold mapX
  rw [List.mem_map]
  constructor
  · rintro ⟨p, q, hpn, hqn, hx, rfl⟩
    refine ⟨_, List.mem_filter.2 ⟨hx, ?_⟩, ?_⟩
    · unfold keepX tN
      simp only [List.getD_cons_zero, List.getD_cons_succ, Int.toNat_natCast]
      rw [(ht p hpn).1, (ht q hqn).1]
      simp
    · unfold namX tN
      simp only [List.getD_cons_zero, List.getD_cons_succ, Int.toNat_natCast]
      rw [(ht p hpn).1, (ht q hqn).1]
  · rintro ⟨x, hx, rfl⟩
    obtain ⟨hx, _⟩ := List.mem_filter.1 hx
    obtain ⟨p, q, rfl, hpn, hqn⟩ := hp x hx
    refine ⟨p, q, hpn, hqn, hx, ?_⟩
    unfold namX tN
    simp only [List.getD_cons_zero, List.getD_cons_succ, Int.toNat_natCast]
    rw [(ht p hpn).1, (ht q hqn).1]
end Go.Proofs.Ytncndlojceiejaa
