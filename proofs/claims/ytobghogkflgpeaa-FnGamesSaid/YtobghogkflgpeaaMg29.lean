/- Sums of the code of chapter 8: turns of the game as bits. -/
import Derived.Test.YtobghogkflgpeaaMg24
import Derived.Test.YtobghogkflgpeaaMg28
import Derived.Test.YtobghogkflgpeaaMg20
import Derived.Test.YtobghogkflgpeaaMg2
import Derived.Maps.Keyed
import Derived.Maps.Own
import Derived.DeepKeys4
namespace Go.Proofs.Ytobghogkflgpeaa
/-- What the code's 'holds' gives for the claims u (with c among them) and the claim c. -/
def hldV (N : Int) (X : List (List Int)) (u c : Nat) : Bool := winB N X (lsT (u ||| 2 ^ c) 10) c
/-- What the code's 'canAnswer' gives. -/
def canV (N : Int) (X : List (List Int)) (u c : Nat) : Bool := (lsT (anB (atB (rf N X) c 10) u) 10).any fun b => hldV N X u b.toNat
theorem bS_add {U : List Int} {b : Nat} (h : b < 10) : bS (U ++ [(b : Int)]) = bS U ||| 2 ^ b := by
  rw [bS_snoc, if_pos (inr_t (by omega) (by omega))]
  simp
theorem winF_congr {N : Int} {X : List (List Int)} : ∀ (k : Nat) (U V : List Int) (c : Int), bS U = bS V → winF N X k U c = winF N X k V c
  | 0, _, _, _, _ => rfl
  | k + 1, U, V, c, h => by
    unfold winF
    congr 1
    funext a
    rw [← ansB_code N X U, ← ansB_code N X V, h]
    congr 1
    funext b
    exact winF_congr k _ _ _ (by rw [bS_snoc, bS_snoc, h])
theorem winB_congr {N : Int} {X : List (List Int)} {U V : List Int} (c : Int) (h : bS U = bS V) : winB N X U c = winB N X V c := winF_congr 11 U V c h
theorem or_lt10 {u c : Nat} (hu : u < 1024) (hc : c < 10) : u ||| 2 ^ c < 1024 := by
  have h : 2 ^ c < 2 ^ 10 := Nat.pow_lt_pow_right (by decide) hc
  exact Nat.or_lt_two_pow (n := 10) hu h
/-- In bits: whoever proposed wins if each doubt can be answered. -/
theorem hldV_step (N : Int) (X : List (List Int)) {u c : Nat} (hu : u < 1024) (hc : c < 10) :
    hldV N X u c = (lsT (atB (rf N X) c 10) 10).all fun d => canV N X (u ||| 2 ^ c) d.toNat := by
  have hv := or_lt10 hu hc
  unfold hldV
  rw [win_step, atB_code]
  generalize u ||| 2 ^ c = v at hv ⊢
  rw [Bool.eq_iff_iff, List.all_eq_true, List.all_eq_true]
  have key : ∀ a ∈ atk N X c, ((ansL N X (lsT v 10) a).any fun b => winB N X (lsT v 10 ++ [b]) b) = canV N X v a.toNat := fun a ha => by
    obtain ⟨n, p, rfl, _, rfl, hp⟩ := atk_claim ha
    unfold canV
    rw [Int.toNat_natCast, ← ansB_code, bS_lsT hv]
    rw [Bool.eq_iff_iff, List.any_eq_true, List.any_eq_true]
    have e : ∀ b ∈ lsT (anB (atB (rf n X) p 10) v) 10, winB n X (lsT v 10 ++ [b]) b = hldV n X v b.toNat := fun b hb => by
      obtain ⟨q, hq, _, rfl⟩ := (lsT_mem _ _ _).1 hb
      unfold hldV
      rw [Int.toNat_natCast]
      exact winB_congr _ (by rw [bS_add hq, bS_lsT hv, bS_lsT (or_lt10 hv hq)])
    exact ⟨fun ⟨b, h1, h2⟩ => ⟨b, h1, (e b h1) ▸ h2⟩, fun ⟨b, h1, h2⟩ => ⟨b, h1, (e b h1).symm ▸ h2⟩⟩
  exact ⟨fun h a ha => (key a ha) ▸ h a ha, fun h a ha => (key a ha).symm ▸ h a ha⟩
/-- How many claims are not used. -/
def freU (u : Nat) : Nat := ((List.range 10).filter fun j => !(u.testBit j)).length
theorem freU_le (u : Nat) : freU u ≤ 10 := Nat.le_trans (List.length_filter_le _ _) (by simp)
theorem freU_less {u b : Nat} (hb : b < 10) (h : u.testBit b = false) : freU (u ||| 2 ^ b) < freU u := by
  unfold freU
  refine filt_less (fun x _ hx => ?_) ⟨b, List.mem_range.2 hb, by simp [h], by simp [Nat.testBit_or]⟩
  simp [Nat.testBit_or] at hx ⊢
  exact hx.1
theorem ans_free {N : Int} {X : List (List Int)} {u c : Nat} (hu : u < 1024) {b : Int} (h : b ∈ lsT (anB (atB (rf N X) c 10) u) 10) : ∃ p : Nat, b = p ∧ p < 10 ∧ u.testBit p = false := by
  obtain ⟨p, hp, hb, rfl⟩ := (lsT_mem _ _ _).1 h
  refine ⟨p, rfl, hp, ?_⟩
  have h1 := Nat.lt_trans (atB_lt (rf N X) c 10 (Nat.le_refl _)) (show 1024 < 65536 by decide)
  rw [anB_bit (Nat.lt_trans hu (by decide)) h1] at hb
  simp at hb
  exact hb.2
theorem canW_code {n : Nat} {X : List (List Int)} {c : Nat} (hc : c < 10) : hldV n X 0 c = winB n X [(c : Int)] c := by
  unfold hldV
  refine winB_congr _ ?_
  rw [bS_lsT (or_lt10 (by decide) hc)]
  exact (bS_add (U := []) hc).symm
theorem best_code {N : Int} {X : List (List Int)} {U : List Int} {b : Nat} (hb : b < 10) : hldV N X (bS U) b = winB N X (U ++ [(b : Int)]) b := by
  unfold hldV
  refine winB_congr _ ?_
  rw [bS_lsT (or_lt10 (bS_lt U) hb), bS_add hb]
end Go.Proofs.Ytobghogkflgpeaa

/- Sums of the code of Without and Renamed: pairs with other names, by rows. -/
namespace Go.Proofs.Ytobghogkflgpeaa
def keepX (t : Nat → Int) (x : List Int) : Bool := t (x.getD 0 0).toNat != -1 && t (x.getD 1 0).toNat != -1
def namX (t : Nat → Int) (x : List Int) : List Int := [t (x.getD 0 0).toNat, t (x.getD 1 0).toNat]
/-- The pairs with other names, without those that fall out. -/
def mapX (t : Nat → Int) (X : List (List Int)) : List (List Int) := (X.filter (keepX t)).map (namX t)
theorem mapX_yes {t : Nat → Int} (X : List (List Int)) {x : List Int} (h : keepX t x = true) : mapX t (X ++ [x]) = mapX t X ++ [namX t x] := by simp [mapX, List.filter_append, h]
theorem mapX_no {t : Nat → Int} (X : List (List Int)) {x : List Int} (h : keepX t x = false) : mapX t (X ++ [x]) = mapX t X := by simp [mapX, List.filter_append, h]
/-- Names: a claim each, or none. -/
def Nms (t : Nat → Int) : Prop := ∀ k, k < 10 → t k = -1 ∨ (0 ≤ t k ∧ t k < 10)
theorem mapX_prs {t : Nat → Int} {X : List (List Int)} (ht : Nms t) (hX : Prs 10 X) : Prs 10 (mapX t X) := by
  intro y hy
  unfold mapX at hy
  obtain ⟨x, hx, rfl⟩ := List.mem_map.1 hy
  obtain ⟨hx, hk⟩ := List.mem_filter.1 hx
  obtain ⟨p, q, rfl, hp, hq⟩ := hX x hx
  simp [keepX] at hk
  unfold namX
  simp only [List.getD_cons_zero, List.getD_cons_succ, Int.toNat_natCast]
  rcases ht p hp with h1 | ⟨h1, h2⟩
  · exact absurd h1 hk.1
  · rcases ht q hq with h3 | ⟨h3, h4⟩
    · exact absurd h3 hk.2
    · exact ⟨(t p).toNat, (t q).toNat, by rw [Int.toNat_of_nonneg h1, Int.toNat_of_nonneg h3], by omega, by omega⟩
theorem att_lt16 {X : List (List Int)} (hX : Prs 10 X) (a : Nat) : att X a < 65536 := Nat.lt_trans (att_lt (Nat.le_refl _) hX a) (by decide)
theorem rowL_prs (f : Nat → Nat) {k : Nat} (hk : k < 10) : Prs 10 (rowL f k) := by
  intro x hx
  unfold rowL at hx
  obtain ⟨z, hz, rfl⟩ := List.mem_map.1 hx
  obtain ⟨j, hj, _, rfl⟩ := (lsT_mem _ _ _).1 hz
  exact ⟨k, j, rfl, hk, hj⟩
theorem prs_app {n : Nat} {X Y : List (List Int)} (h : Prs n X) (k : Prs n Y) : Prs n (X ++ Y) := fun x hx => by
  rcases List.mem_append.1 hx with hx | hx
  · exact h x hx
  · exact k x hx
theorem glK_prs (f : Nat → Nat) : ∀ k, k ≤ 10 → Prs 10 (glK f k)
  | 0, _ => fun x hx => by simp [glK] at hx
  | k + 1, h => by
    rw [glK_succ]
    exact prs_app (glK_prs f k (by omega)) (rowL_prs f (by omega))
theorem glK_back {n : Nat} {Y Z : List (List Int)} (hZ : gB n Z = true) (h : ∀ z, z ∈ Z ↔ z ∈ Y) : glK (att Y) n = Z := by
  obtain ⟨n', e, hn, hP, hA⟩ := gB_ok hZ
  obtain rfl : n = n' := by omega
  have hY : Prs n Y := fun y hy => hP y ((h y).2 hy)
  refine sorted_ext ltP_irr ltP_tr (glK_asc _ _) hA fun z => ?_
  rw [mem_glK, h]
  constructor
  · rintro ⟨a, b, _, _, ht, rfl⟩
    exact (att_mem hY a b).1 ht
  · intro hz
    obtain ⟨p, q, rfl, hp, hq⟩ := hY z hz
    exact ⟨p, q, hp, by omega, (att_mem hY p q).2 hz, rfl⟩
theorem rf_att {N : Int} {X : List (List Int)} (h : gB N X = true) : rf N X = att X := by unfold rf; rw [if_pos h]
theorem glK_rf {n : Nat} {X : List (List Int)} (h : gB n X = true) : glK (rf n X) n = X := by
  rw [rf_att h]
  exact glK_back h fun _ => Iff.rfl
/-- The names without a claim. -/
def woN (c : Int) (k : Nat) : Int := if (k : Int) < c then k else if (k : Int) = c then -1 else (k : Int) - 1
theorem woN_nms {c : Int} (h : 0 ≤ c) : Nms (woN c) := fun k hk => by
  unfold woN
  split
  · exact .inr ⟨by omega, by omega⟩
  · split
    · exact .inl rfl
    · exact .inr ⟨by omega, by omega⟩
theorem woN_les {c : Int} {k : Nat} (h : (k : Int) ≠ c) : woN c k = lesI k c := by
  unfold woN lesI
  by_cases h1 : (k : Int) < c
  · rw [if_pos h1, if_neg (by omega)]
  · rw [if_neg h1, if_neg h, if_pos (by omega)]
theorem woN_out {c : Int} {k : Nat} (h0 : 0 ≤ c) : (woN c k != -1) = ((k : Int) != c) := by
  unfold woN
  rw [Bool.eq_iff_iff, bne_iff_ne, bne_iff_ne]
  split
  · constructor <;> intro _ <;> omega
  · split
    · next h => exact ⟨fun e => absurd rfl e, fun e => absurd h e⟩
    · next h => exact ⟨fun _ => h, fun _ => by omega⟩
theorem woX_code {n : Nat} {X : List (List Int)} {c : Int} (hX : Prs n X) (h0 : 0 ≤ c) : mapX (woN c) X = woX X c := by
  unfold mapX woX
  have e : X.filter (keepX (woN c)) = X.filter fun x => x.getD 0 0 != c && x.getD 1 0 != c := by
    refine List.filter_congr fun x hx => ?_
    obtain ⟨p, q, rfl, _, _⟩ := hX x hx
    unfold keepX
    simp only [List.getD_cons_zero, List.getD_cons_succ, Int.toNat_natCast]
    rw [woN_out h0, woN_out h0]
  rw [e]
  refine List.map_congr_left fun x hx => ?_
  obtain ⟨hx, hk⟩ := List.mem_filter.1 hx
  obtain ⟨p, q, rfl, _, _⟩ := hX x hx
  simp only [List.getD_cons_zero, List.getD_cons_succ, Bool.and_eq_true, bne_iff_ne] at hk
  unfold namX
  simp only [List.getD_cons_zero, List.getD_cons_succ, Int.toNat_natCast]
  rw [woN_les hk.1, woN_les hk.2]
theorem woX_g {n : Nat} {X : List (List Int)} {c : Int} (hg : gB n X = true) (h0 : 0 ≤ c) (h1 : c < n) : gB ((n - 1 : Nat) : Int) (woX X c) = true := by
  obtain ⟨n', e, hn, hP, hA⟩ := gB_ok hg
  obtain rfl : n = n' := by omega
  refine gB_of (by omega) (fun z hz => ?_) ?_
  · unfold woX at hz
    obtain ⟨x, hx, rfl⟩ := List.mem_map.1 hz
    obtain ⟨hx, hk⟩ := List.mem_filter.1 hx
    obtain ⟨p, q, rfl, hp, hq⟩ := hP x hx
    simp only [List.getD_cons_zero, List.getD_cons_succ, Bool.and_eq_true, bne_iff_ne] at hk ⊢
    have key : ∀ p : Nat, p < n → (p : Int) ≠ c → ∃ r : Nat, lesI p c = r ∧ r < n - 1 := fun p hp hk => by
      unfold lesI
      split
      · exact ⟨p - 1, by omega, by omega⟩
      · exact ⟨p, rfl, by omega⟩
    obtain ⟨r, e1, h3⟩ := key p hp hk.1
    obtain ⟨s, e2, h4⟩ := key q hq hk.2
    exact ⟨r, s, by rw [e1, e2], h3, h4⟩
  · unfold Asc woX
    unfold Asc at hA
    rw [List.pairwise_map, List.pairwise_filter]
    refine hA.imp ?_
    intro x y hxy h2 h3
    simp only [Bool.and_eq_true, bne_iff_ne] at h2 h3
    rw [ltP_iff] at hxy ⊢
    have key : ∀ a b : Int, a ≠ c → b ≠ c → (a < b → lesI a c < lesI b c) ∧ (a = b → lesI a c = lesI b c) := fun a b ha hb => by
      unfold lesI
      refine ⟨fun h => ?_, fun h => by rw [h]⟩
      split <;> split <;> omega
    simp only [List.getD_cons_zero, List.getD_cons_succ]
    have k1 := key _ _ h2.1 h3.1
    have k2 := key _ _ h2.2 h3.2
    rcases hxy with h | ⟨h, h'⟩
    · exact .inl (k1.1 h)
    · exact .inr ⟨k1.2 h, k2.1 h'⟩
theorem without_code {n : Nat} {X : List (List Int)} {c : Int} (hg : gB n X = true) (h0 : 0 ≤ c) (h1 : c < n) : glK (att (mapX (woN c) (glK (rf n X) n))) (n - 1) = woX X c := by
  obtain ⟨n', e, hn, hP, hA⟩ := gB_ok hg
  obtain rfl : n = n' := by omega
  rw [glK_rf hg, woX_code hP h0]
  exact glK_back (woX_g hg h0 h1) fun _ => Iff.rfl
theorem nd_len : ∀ {T R : List Int}, T.Nodup → (∀ x ∈ T, x ∈ R) → T.length ≤ R.length
  | [], _, _, _ => Nat.zero_le _
  | x :: T, R, hn, hs => by
    rw [List.nodup_cons] at hn
    have hx : x ∈ R := hs x (by simp)
    have ih := nd_len (T := T) (R := R.erase x) hn.2 fun y hy => (List.mem_erase_of_ne (fun e : y = x => hn.1 (e ▸ hy))).2 (hs y (List.mem_cons_of_mem _ hy))
    have hl := List.length_erase_of_mem hx
    have : 0 < R.length := List.length_pos_of_mem hx
    rw [List.length_cons]
    omega
def rngI (n : Nat) : List Int := (List.range n).map fun (j : Nat) => (j : Int)
theorem rngI_mem {n : Nat} {z : Int} : z ∈ rngI n ↔ 0 ≤ z ∧ z < n := by
  unfold rngI
  rw [List.mem_map]
  constructor
  · rintro ⟨j, hj, rfl⟩
    have := List.mem_range.1 hj
    omega
  · rintro ⟨h0, h1⟩
    exact ⟨z.toNat, List.mem_range.2 (by omega), by omega⟩
theorem rngI_nd (n : Nat) : (rngI n).Nodup := by
  unfold rngI
  rw [List.nodup_iff_pairwise_ne, List.pairwise_map]
  exact List.nodup_iff_pairwise_ne.1 (List.nodup_range) |>.imp fun h e => h (by omega)
theorem rngI_len (n : Nat) : (rngI n).length = n := by simp [rngI]
theorem per_cover {n : Nat} {T : List Int} (hl : T.length = n) (h : perB n T = true) : ∀ j : Nat, j < n → (j : Int) ∈ T := by
  unfold perB at h
  rw [List.all_eq_true] at h
  have hb : ∀ i (hi : i < T.length), 0 ≤ T[i] ∧ T[i] < n := fun i hi => by
    have := h i (List.mem_range.2 hi)
    rw [Bool.and_eq_true] at this
    have h1 := this.1
    simp only [inr, Bool.and_eq_true, decide_eq_true_iff] at h1
    have e : T.getD i 0 = T[i] := by simp [List.getD, hi]
    omega
  have hnd : T.Nodup := by
    rw [List.nodup_iff_pairwise_ne, List.pairwise_iff_getElem]
    intro i j hi hj hij e
    have := h j (List.mem_range.2 hj)
    rw [Bool.and_eq_true, Bool.not_eq_true'] at this
    have h2 := this.2
    unfold dupB at h2
    have : (T.take j).contains (T.getD j 0) = true := by
      rw [List.contains_iff_mem]
      have e1 : T.getD j 0 = T[j] := by simp [List.getD, hj]
      have hi' : i < (T.take j).length := by rw [List.length_take]; omega
      rw [e1, ← e]
      have : T[i] = (T.take j)[i] := by rw [List.getElem_take]
      rw [this]
      exact List.getElem_mem hi'
    rw [this] at h2
    cases h2
  intro j hj
  refine Classical.byContradiction fun hno => ?_
  have hjm : (j : Int) ∈ rngI n := rngI_mem.2 ⟨by omega, by omega⟩
  have := nd_len (R := (rngI n).erase j) hnd fun x hx => by
    obtain ⟨i, hi, rfl⟩ := List.getElem_of_mem hx
    exact (List.mem_erase_of_ne (fun e : T[i] = (j : Int) => hno (e ▸ hx))).2 (rngI_mem.2 (hb i hi))
  rw [List.length_erase_of_mem hjm, rngI_len] at this
  omega
theorem cover_per {n : Nat} {T : List Int} (hl : T.length = n) (h : ∀ j : Nat, j < n → (j : Int) ∈ T) : perB n T = true := by
  have key : ∀ i (hi : i < T.length), ¬ ∀ j : Nat, j < n → ∃ k, ∃ hk : k < T.length, k ≠ i ∧ T[k] = (j : Int) := fun i hi hc => by
    have := nd_len (T := rngI n) (R := T.eraseIdx i) (rngI_nd n) fun x hx => by
      obtain ⟨h0, h1⟩ := rngI_mem.1 hx
      obtain ⟨k, hk, hne, e⟩ := hc x.toNat (by omega)
      rw [List.mem_eraseIdx_iff_getElem]
      exact ⟨k, hk, hne, by omega⟩
    rw [List.length_eraseIdx, if_pos hi, rngI_len] at this
    omega
  unfold perB
  rw [List.all_eq_true]
  intro i hi
  have hi := List.mem_range.1 hi
  have e : T.getD i 0 = T[i] := by simp [List.getD, hi]
  rw [Bool.and_eq_true, Bool.not_eq_true', e]
  constructor
  · refine Classical.byContradiction fun hc => key i hi fun j hj => ?_
    obtain ⟨k, hk, ek⟩ := List.getElem_of_mem (h j hj)
    refine ⟨k, hk, fun hki => hc ?_, ek⟩
    subst hki
    exact inr_t (by omega) (by omega)
  · cases hd : dupB T i with
    | false => rfl
    | true =>
      exfalso
      unfold dupB at hd
      rw [List.contains_iff_mem, e] at hd
      obtain ⟨k, hk, ek⟩ := List.getElem_of_mem hd
      rw [List.length_take] at hk
      rw [List.getElem_take] at ek
      refine key i hi fun j hj => ?_
      obtain ⟨m, hm, em⟩ := List.getElem_of_mem (h j hj)
      by_cases hmi : m = i
      · subst hmi
        exact ⟨k, by omega, by omega, by rw [ek, em]⟩
      · exact ⟨m, hm, hmi, em⟩
/-- As many numbers as claims have each claim just if their bits are all bits. -/
theorem ren_test {n : Nat} {T : List Int} (hn : n ≤ 10) (hl : T.length = n) : (bS T == alB n) = perB n T := by
  rw [Bool.eq_iff_iff, beq_iff_eq]
  constructor
  · intro h
    refine cover_per hl fun j hj => ?_
    have : (bS T).testBit j = true := by rw [h, alB_bit]; simpa using hj
    exact ((bS_mem T j).1 this).2
  · intro h
    have hc := per_cover hl h
    refine Nat.eq_of_testBit_eq fun j => ?_
    rw [Bool.eq_iff_iff, bS_mem, alB_bit]
    simp only [Int.toNat_natCast, decide_eq_true_iff]
    constructor
    · rintro ⟨hj, hm⟩
      refine Classical.byContradiction fun hno => ?_
      unfold perB at h
      rw [List.all_eq_true] at h
      obtain ⟨i, hi, e⟩ := List.getElem_of_mem hm
      have h1 := h i (List.mem_range.2 hi)
      rw [Bool.and_eq_true] at h1
      have e2 : T.getD i 0 = T[i] := by simp [List.getD, hi]
      have h2 := h1.1
      simp only [inr, Bool.and_eq_true, decide_eq_true_iff] at h2
      omega
    · intro hj
      exact ⟨by omega, hc j hj⟩
/-- The names of a list. -/
def tN (T : List Int) (k : Nat) : Int := T.getD k 0
theorem tN_nms {n : Nat} {T : List Int} (hn : n ≤ 10) (hl : T.length = n) (h : perB n T = true) : Nms (tN T) := fun k hk => by
  unfold tN
  by_cases hkl : k < T.length
  · unfold perB at h
    rw [List.all_eq_true] at h
    have h1 := h k (List.mem_range.2 hkl)
    rw [Bool.and_eq_true] at h1
    have h2 := h1.1
    simp only [inr, Bool.and_eq_true, decide_eq_true_iff] at h2
    exact .inr ⟨by omega, by omega⟩
  · have : T.getD k 0 = 0 := by simp [List.getD, hkl]
    rw [this]
    exact .inr ⟨by omega, by omega⟩
theorem renamed_code {n : Nat} {X : List (List Int)} {T : List Int} (h : renB n X T = true) : glK (att (mapX (tN T) (glK (rf n X) n))) n = renX n X T := by
  obtain ⟨n', t, e, hn, hg, hp, ha, hl, ht, hi⟩ := ren_parts h
  obtain rfl : n = n' := by omega
  obtain ⟨h1, h2, _, _⟩ := ren_made hn ht hi X hp (asc_nd ha)
  rw [glK_rf hg]
  refine glK_back h1 fun z => ?_
  rw [h2]
  unfold mapX
  rw [List.mem_map]
  constructor
  · rintro ⟨p, q, hpn, hqn, hx, rfl⟩
    refine ⟨_, List.mem_filter.2 ⟨hx, ?_⟩, ?_⟩
    · unfold keepX tN
      simp only [List.getD_cons_zero, List.getD_cons_succ, Int.toNat_natCast]
      rw [(ht p hpn).1, (ht q hqn).1]
      simp
    · unfold namX tN
      simp only [List.getD_cons_zero, List.getD_cons_succ, Int.toNat_natCast]
      rw [(ht p hpn).1, (ht q hqn).1]
  · rintro ⟨x, hx, rfl⟩
    obtain ⟨hx, _⟩ := List.mem_filter.1 hx
    obtain ⟨p, q, rfl, hpn, hqn⟩ := hp x hx
    refine ⟨p, q, hpn, hqn, hx, ?_⟩
    unfold namX tN
    simp only [List.getD_cons_zero, List.getD_cons_succ, Int.toNat_natCast]
    rw [(ht p hpn).1, (ht q hqn).1]
end Go.Proofs.Ytobghogkflgpeaa

/- The map of the game: turns as keys, and a map all of whose entries are right. -/
namespace Go.Proofs.Ytobghogkflgpeaa
open Go.ChangeShapes Go.WideShapes Go.ChangeAt Go.RowKit
set_option maxRecDepth 100000
theorem turn_row : (87 : TypeId) < Try.prog.types.size := of_decide_eq_true (by kernel_rfl)
theorem turn_wide : (match Try.prog.underlying 87 with | some (.array _ _) | some (.struct _) => true | _ => false) = true := by rw [Try.underlying87]
theorem game_laid : laidOutB Try.prog = true := by kernel_rfl
theorem turn_law : Maps.Keyed Try.prog 87 := Maps.Keyed.of_law (deep_law_laid game_laid (m := 3) (by omega) turn_row (by kernel_rfl) turn_wide)
theorem turn_cells : Try.prog.cellsOf 87 = 2 := by kernel_rfl
theorem bits_cells : Try.prog.cellsOf 67 = 1 := by kernel_rfl
theorem int_cells : Try.prog.cellsOf 3 = 1 := by kernel_rfl
theorem turn_kt : Try.prog.keyType 87 = true := by kernel_rfl
/-- A turn. -/
def tnV (u c : Nat) : Value := .agg #[.int .u16 (u : Nat), .int .i64 (c : Nat)]
theorem u16_wf {u : Nat} (h : u < 1024) : (Lit.int .u16 (u : Nat)).wf = true := by
  have e1 : IntKind.u16.min = 0 := by decide
  have e2 : IntKind.u16.max = 65535 := by decide
  simp [Lit.wf, e1, e2]
  omega
theorem i64_wf {c : Nat} (h : c < 10) : (Lit.int .i64 (c : Nat)).wf = true := by
  have e1 : IntKind.i64.min = -9223372036854775808 := by decide
  have e2 : IntKind.i64.max = 9223372036854775807 := by decide
  simp [Lit.wf, e1, e2]
  omega
theorem turn_key {u c : Nat} (hu : u < 1024) (hc : c < 10) : ∃ kl, keyOf Try.prog 87 (tnV u c) = some kl := by
  have hrow := turn_row
  obtain ⟨m, hm⟩ : ∃ m, Try.prog.types.size = m + 1 := by
    cases h : Try.prog.types.size with
    | zero => rw [h] at hrow; exact absurd hrow (Nat.not_lt_zero _)
    | succ m => exact ⟨m, rfl⟩
  obtain ⟨k, rfl⟩ : ∃ k, m = k + 1 := by
    cases m with
    | zero => rw [hm] at hrow; exact absurd hrow (by decide)
    | succ k => exact ⟨k, rfl⟩
  unfold keyOf tnV
  simp only [Try.underlying87]
  rw [if_pos (by simp [turn_kt, Value.formed, Try.underlying87, turn_cells]), hm]
  unfold Program.keyLits
  simp only [Try.underlying87, Value.cells]
  rw [if_pos (by rw [turn_cells]; exact ⟨rfl, by kernel_rfl⟩)]
  simp [List.mapM_cons, Program.keyLits, Try.underlying67, Try.underlying3, u16_wf hu, i64_wf hc, bits_cells, int_cells]
theorem tnV_inj {u c u' c' : Nat} (h : tnV u c = tnV u' c') : u = u' ∧ c = c' := by
  unfold tnV at h
  injection h with h
  have h := congrArg Array.toList h
  simp at h
  exact ⟨by omega, by omega⟩
theorem boolZ (w : World) : (zeroValue 4).run Try.prog w = .ok (.bool false) w := by kernel_rfl
/-- Block B is a map in which every entry is right. -/
def MapOK (N : Int) (X : List (List Int)) (B : Nat) (w : World) : Prop :=
  ∃ es clock, w.heap[B]? = some (.map es clock) ∧ Go.WideElems.Fit Try.prog 87 (plainElem (H := Unit) Try.prog 4) es clock ∧
    ∀ x ∈ es.toList, ∃ u c : Nat, u < 1024 ∧ c < 10 ∧ x.key = tnV u c ∧ x.val = .bool (canV N X u c)
section
variable {N : Int} {X : List (List Int)} {B : Nat} {w w' : World}
theorem MapOK.lt (h : MapOK N X B w) : B < w.heap.size := by
  obtain ⟨es, clock, hb, _⟩ := h
  exact (Array.getElem?_eq_some_iff.1 hb).1
theorem MapOK.new (h : MapOK N X B w) (hb : Below w.heap.size w w') : MapOK N X B w' := by
  have hlt := h.lt
  obtain ⟨es, clock, h1, h2⟩ := h
  exact ⟨es, clock, (hb.block B hlt).trans h1, h2⟩
theorem MapOK.drew (h : MapOK N X B w) : MapOK N X B w.drew := h
theorem MapOK.made (w : World) : MapOK N X w.heap.size (w.alloc (.map #[] 0)) :=
  ⟨#[], 0, (MapKept.heap_alloc w _).1, ⟨by simp, MapKept.stamped_empty 0, by simp⟩, by simp⟩
theorem entries_few {es : Array MapEntry} {clock : Nat} (F : Go.WideElems.Fit Try.prog 87 (plainElem (H := Unit) Try.prog 4) es clock) (h : ∀ x ∈ es.toList, ∃ u c : Nat, u < 1024 ∧ c < 10 ∧ x.key = tnV u c ∧ x.val = .bool (canV N X u c)) : es.size ≤ 10240 := by
  let code : MapEntry → Int := fun x => match x.key with | .agg cs => (match cs.toList with | [.int _ a, .int _ b] => a * 10 + b | _ => 0) | _ => 0
  have hcode : ∀ {x : MapEntry} {u c : Nat}, x.key = tnV u c → code x = (u : Int) * 10 + c := fun {x u c} e => by simp only [code, e, tnV]
  have hnd : (es.toList.map code).Nodup := by
    have hk := F.stamped.2.2
    rw [List.nodup_iff_pairwise_ne, List.pairwise_map] at hk ⊢
    refine hk.imp_of_mem fun {x y} hx hy hne e => hne ?_
    obtain ⟨u, c, _, hc, e1, _⟩ := h x hx
    obtain ⟨u', c', _, hc', e2, _⟩ := h y hy
    rw [hcode e1, hcode e2] at e
    rw [e1, e2, show u = u' by omega, show c = c' by omega]
  have := nd_len (R := rngI 10240) hnd fun z hz => by
    obtain ⟨x, hx, rfl⟩ := List.mem_map.1 hz
    obtain ⟨u, c, hu, hc, e1, _⟩ := h x hx
    rw [hcode e1, rngI_mem]
    omega
  rw [List.length_map, rngI_len] at this
  simpa using this
/-- A turn is looked up: unknown, or known and right. -/
theorem MapOK.look (h : MapOK N X B w) {u c : Nat} (hu : u < 1024) (hc : c < 10) :
    (Instr.lookup 71 (.map (some B)) (tnV u c) true).run Try.prog w = .ok (.tuple #[.bool false, .bool false]) w ∨
    (Instr.lookup 71 (.map (some B)) (tnV u c) true).run Try.prog w = .ok (.tuple #[.bool (canV N X u c), .bool true]) w := by
  obtain ⟨es, clock, hb, F, hall⟩ := h
  obtain ⟨kl, hkl⟩ := turn_key hu hc
  rcases Maps.fit_look true turn_law Try.underlying71 (boolZ w) hb F hkl with ⟨h1, _⟩ | ⟨e0, y, hm, hk, h1, _⟩
  · exact .inl (by simpa using h1)
  · refine .inr ?_
    obtain ⟨u', c', _, _, e1, e2⟩ := hall e0 hm
    obtain ⟨rfl, rfl⟩ := tnV_inj (e1.symm.trans hk)
    rw [e2] at h1
    simpa using h1
/-- A right entry is stored. -/
theorem MapOK.store (h : MapOK N X B w) {u c : Nat} (hu : u < 1024) (hc : c < 10) :
    ∃ w', (Instr.mapUpdate 71 (.map (some B)) (tnV u c) (.bool (canV N X u c))).run Try.prog w = .ok () w' ∧ MapOK N X B w' ∧ Out B (B + 1) w w' := by
  obtain ⟨es, clock, hb, F, hall⟩ := h
  obtain ⟨kl, hkl⟩ := turn_key hu hc
  have hz := entries_few F hall
  obtain ⟨es', clock', hrun, F', _, _, _, hin⟩ := Maps.fit_store (R' := plainElem (H := Unit) Try.prog 4) turn_law Try.underlying71 hb F (by unfold maxLen; omega) (fun _ _ _ _ hz => hz) hkl (plainElem_bool Try.underlying4 (canV N X u c))
  refine ⟨_, hrun, ⟨es', clock', Go.ChangeMaps.heap_setBlock_same hb _, F', fun x' hx' => ?_⟩, ⟨rfl, rfl, rfl, by simp [Go.ChangeMaps.setBlock], fun k hk hd => Go.ChangeMaps.heap_setBlock_other hb _ (by omega)⟩⟩
  rcases hin x' hx' with ⟨hm, _⟩ | ⟨hk, hv⟩
  · exact hall x' hm
  · exact ⟨u, c, hu, hc, hk, hv⟩
end
end Go.Proofs.Ytobghogkflgpeaa
