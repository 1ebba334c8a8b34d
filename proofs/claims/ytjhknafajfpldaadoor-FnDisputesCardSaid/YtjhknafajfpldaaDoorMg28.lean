/- Sums of the code of Without and Renamed: pairs with other names, by rows. -/
import Derived.Test.YtjhknafajfpldaaDoorMg27
import Derived.Test.YtjhknafajfpldaaDoorMg22
import Derived.Test.YtjhknafajfpldaaDoorMg9
import Derived.Test.YtjhknafajfpldaaDoorMg11
namespace Go.Proofs.YtjhknafajfpldaaDoor
def keepX (t : Nat → Int) (x : List Int) : Bool := t (x.getD 0 0).toNat != -1 && t (x.getD 1 0).toNat != -1
def namX (t : Nat → Int) (x : List Int) : List Int := [t (x.getD 0 0).toNat, t (x.getD 1 0).toNat]
/-- The pairs with other names, without those that fall out. -/
def mapX (t : Nat → Int) (X : List (List Int)) : List (List Int) := (X.filter (keepX t)).map (namX t)
theorem mapX_yes {t : Nat → Int} (X : List (List Int)) {x : List Int} (h : keepX t x = true) : mapX t (X ++ [x]) = mapX t X ++ [namX t x] := by simp [mapX, List.filter_append, h]
theorem mapX_no {t : Nat → Int} (X : List (List Int)) {x : List Int} (h : keepX t x = false) : mapX t (X ++ [x]) = mapX t X := by simp [mapX, List.filter_append, h]
/-- Names: a claim each, or none. -/
def Nms (t : Nat → Int) : Prop := ∀ k, k < 10 → t k = -1 ∨ (0 ≤ t k ∧ t k < 10)
theorem mapX_prs {t : Nat → Int} {X : List (List Int)} (ht : Nms t) (hX : Prs 10 X) : Prs 10 (mapX t X) := by
  intro y hy
  unfold mapX at hy
  obtain ⟨x, hx, rfl⟩ := List.mem_map.1 hy
  obtain ⟨hx, hk⟩ := List.mem_filter.1 hx
  obtain ⟨p, q, rfl, hp, hq⟩ := hX x hx
  simp [keepX] at hk
  unfold namX
  simp only [List.getD_cons_zero, List.getD_cons_succ, Int.toNat_natCast]
  rcases ht p hp with h1 | ⟨h1, h2⟩
  · exact absurd h1 hk.1
  · rcases ht q hq with h3 | ⟨h3, h4⟩
    · exact absurd h3 hk.2
    · exact ⟨(t p).toNat, (t q).toNat, by rw [Int.toNat_of_nonneg h1, Int.toNat_of_nonneg h3], by omega, by omega⟩
theorem att_lt16 {X : List (List Int)} (hX : Prs 10 X) (a : Nat) : att X a < 65536 := Nat.lt_trans (att_lt (Nat.le_refl _) hX a) (by decide)
theorem rowL_prs (f : Nat → Nat) {k : Nat} (hk : k < 10) : Prs 10 (rowL f k) := by
  intro x hx
  unfold rowL at hx
  obtain ⟨z, hz, rfl⟩ := List.mem_map.1 hx
  obtain ⟨j, hj, _, rfl⟩ := (lsT_mem _ _ _).1 hz
  exact ⟨k, j, rfl, hk, hj⟩
theorem prs_app {n : Nat} {X Y : List (List Int)} (h : Prs n X) (k : Prs n Y) : Prs n (X ++ Y) := fun x hx => by
  rcases List.mem_append.1 hx with hx | hx
  · exact h x hx
  · exact k x hx
theorem glK_prs (f : Nat → Nat) : ∀ k, k ≤ 10 → Prs 10 (glK f k)
  | 0, _ => fun x hx => by simp [glK] at hx
  | k + 1, h => by
    rw [glK_succ]
    exact prs_app (glK_prs f k (by omega)) (rowL_prs f (by omega))
theorem glK_back {n : Nat} {Y Z : List (List Int)} (hZ : gB n Z = true) (h : ∀ z, z ∈ Z ↔ z ∈ Y) : glK (att Y) n = Z := by
  obtain ⟨n', e, hn, hP, hA⟩ := gB_ok hZ
  obtain rfl : n = n' := by omega
  have hY : Prs n Y := fun y hy => hP y ((h y).2 hy)
  refine sorted_ext ltP_irr ltP_tr (glK_asc _ _) hA fun z => ?_
  rw [mem_glK, h]
  constructor
  · rintro ⟨a, b, _, _, ht, rfl⟩
    exact (att_mem hY a b).1 ht
  · intro hz
    obtain ⟨p, q, rfl, hp, hq⟩ := hY z hz
    exact ⟨p, q, hp, by omega, (att_mem hY p q).2 hz, rfl⟩
theorem rf_att {N : Int} {X : List (List Int)} (h : gB N X = true) : rf N X = att X := by unfold rf; rw [if_pos h]
theorem glK_rf {n : Nat} {X : List (List Int)} (h : gB n X = true) : glK (rf n X) n = X := by
  rw [rf_att h]
  exact glK_back h fun _ => Iff.rfl
/-- The names without a claim. -/
def woN (c : Int) (k : Nat) : Int := if (k : Int) < c then k else if (k : Int) = c then -1 else (k : Int) - 1
theorem woN_nms {c : Int} (h : 0 ≤ c) : Nms (woN c) := fun k hk => by
  unfold woN
  split
  · exact .inr ⟨by omega, by omega⟩
  · split
    · exact .inl rfl
    · exact .inr ⟨by omega, by omega⟩
theorem woN_les {c : Int} {k : Nat} (h : (k : Int) ≠ c) : woN c k = lesI k c := by
  unfold woN lesI
  by_cases h1 : (k : Int) < c
  · rw [if_pos h1, if_neg (by omega)]
  · rw [if_neg h1, if_neg h, if_pos (by omega)]
theorem woN_out {c : Int} {k : Nat} (h0 : 0 ≤ c) : (woN c k != -1) = ((k : Int) != c) := by
  unfold woN
  rw [Bool.eq_iff_iff, bne_iff_ne, bne_iff_ne]
  split
  · constructor <;> intro _ <;> omega
  · split
    · next h => exact ⟨fun e => absurd rfl e, fun e => absurd h e⟩
    · next h => exact ⟨fun _ => h, fun _ => by omega⟩
theorem woX_code {n : Nat} {X : List (List Int)} {c : Int} (hX : Prs n X) (h0 : 0 ≤ c) : mapX (woN c) X = woX X c := by
  unfold mapX woX
  have e : X.filter (keepX (woN c)) = X.filter fun x => x.getD 0 0 != c && x.getD 1 0 != c := by
    refine List.filter_congr fun x hx => ?_
    obtain ⟨p, q, rfl, _, _⟩ := hX x hx
    unfold keepX
    simp only [List.getD_cons_zero, List.getD_cons_succ, Int.toNat_natCast]
    rw [woN_out h0, woN_out h0]
  rw [e]
  refine List.map_congr_left fun x hx => ?_
  obtain ⟨hx, hk⟩ := List.mem_filter.1 hx
  obtain ⟨p, q, rfl, _, _⟩ := hX x hx
  simp only [List.getD_cons_zero, List.getD_cons_succ, Bool.and_eq_true, bne_iff_ne] at hk
  unfold namX
  simp only [List.getD_cons_zero, List.getD_cons_succ, Int.toNat_natCast]
  rw [woN_les hk.1, woN_les hk.2]
theorem woX_g {n : Nat} {X : List (List Int)} {c : Int} (hg : gB n X = true) (h0 : 0 ≤ c) (h1 : c < n) : gB ((n - 1 : Nat) : Int) (woX X c) = true := by
  obtain ⟨n', e, hn, hP, hA⟩ := gB_ok hg
  obtain rfl : n = n' := by omega
  refine gB_of (by omega) (fun z hz => ?_) ?_
  · unfold woX at hz
    obtain ⟨x, hx, rfl⟩ := List.mem_map.1 hz
    obtain ⟨hx, hk⟩ := List.mem_filter.1 hx
    obtain ⟨p, q, rfl, hp, hq⟩ := hP x hx
    simp only [List.getD_cons_zero, List.getD_cons_succ, Bool.and_eq_true, bne_iff_ne] at hk ⊢
    have key : ∀ p : Nat, p < n → (p : Int) ≠ c → ∃ r : Nat, lesI p c = r ∧ r < n - 1 := fun p hp hk => by
      unfold lesI
      split
      · exact ⟨p - 1, by omega, by omega⟩
      · exact ⟨p, rfl, by omega⟩
    obtain ⟨r, e1, h3⟩ := key p hp hk.1
    obtain ⟨s, e2, h4⟩ := key q hq hk.2
    exact ⟨r, s, by rw [e1, e2], h3, h4⟩
  · unfold Asc woX
    unfold Asc at hA
    rw [List.pairwise_map, List.pairwise_filter]
    refine hA.imp ?_
    intro x y hxy h2 h3
    simp only [Bool.and_eq_true, bne_iff_ne] at h2 h3
    rw [ltP_iff] at hxy ⊢
    have key : ∀ a b : Int, a ≠ c → b ≠ c → (a < b → lesI a c < lesI b c) ∧ (a = b → lesI a c = lesI b c) := fun a b ha hb => by
      unfold lesI
      refine ⟨fun h => ?_, fun h => by rw [h]⟩
      split <;> split <;> omega
    simp only [List.getD_cons_zero, List.getD_cons_succ]
    have k1 := key _ _ h2.1 h3.1
    have k2 := key _ _ h2.2 h3.2
    rcases hxy with h | ⟨h, h'⟩
    · exact .inl (k1.1 h)
    · exact .inr ⟨k1.2 h, k2.1 h'⟩
theorem without_code {n : Nat} {X : List (List Int)} {c : Int} (hg : gB n X = true) (h0 : 0 ≤ c) (h1 : c < n) : glK (att (mapX (woN c) (glK (rf n X) n))) (n - 1) = woX X c := by
  obtain ⟨n', e, hn, hP, hA⟩ := gB_ok hg
  obtain rfl : n = n' := by omega
  rw [glK_rf hg, woX_code hP h0]
  exact glK_back (woX_g hg h0 h1) fun _ => Iff.rfl
theorem nd_len : ∀ {T R : List Int}, T.Nodup → (∀ x ∈ T, x ∈ R) → T.length ≤ R.length
  | [], _, _, _ => Nat.zero_le _
  | x :: T, R, hn, hs => by
    rw [List.nodup_cons] at hn
    have hx : x ∈ R := hs x (by simp)
    have ih := nd_len (T := T) (R := R.erase x) hn.2 fun y hy => (List.mem_erase_of_ne (fun e : y = x => hn.1 (e ▸ hy))).2 (hs y (List.mem_cons_of_mem _ hy))
    have hl := List.length_erase_of_mem hx
    have : 0 < R.length := List.length_pos_of_mem hx
    rw [List.length_cons]
    omega
def rngI (n : Nat) : List Int := (List.range n).map fun (j : Nat) => (j : Int)
theorem rngI_mem {n : Nat} {z : Int} : z ∈ rngI n ↔ 0 ≤ z ∧ z < n := by
  unfold rngI
  rw [List.mem_map]
  constructor
  · rintro ⟨j, hj, rfl⟩
    have := List.mem_range.1 hj
    omega
  · rintro ⟨h0, h1⟩
    exact ⟨z.toNat, List.mem_range.2 (by omega), by omega⟩
theorem rngI_nd (n : Nat) : (rngI n).Nodup := by
  unfold rngI
  rw [List.nodup_iff_pairwise_ne, List.pairwise_map]
  exact List.nodup_iff_pairwise_ne.1 (List.nodup_range) |>.imp fun h e => h (by omega)
theorem rngI_len (n : Nat) : (rngI n).length = n := by simp [rngI]
theorem per_cover {n : Nat} {T : List Int} (hl : T.length = n) (h : perB n T = true) : ∀ j : Nat, j < n → (j : Int) ∈ T := by
  unfold perB at h
  rw [List.all_eq_true] at h
  have hb : ∀ i (hi : i < T.length), 0 ≤ T[i] ∧ T[i] < n := fun i hi => by
    have := h i (List.mem_range.2 hi)
    rw [Bool.and_eq_true] at this
    have h1 := this.1
    simp only [inr, Bool.and_eq_true, decide_eq_true_iff] at h1
    have e : T.getD i 0 = T[i] := by simp [List.getD, hi]
    omega
  have hnd : T.Nodup := by
    rw [List.nodup_iff_pairwise_ne, List.pairwise_iff_getElem]
    intro i j hi hj hij e
    have := h j (List.mem_range.2 hj)
    rw [Bool.and_eq_true, Bool.not_eq_true'] at this
    have h2 := this.2
    unfold dupB at h2
    have : (T.take j).contains (T.getD j 0) = true := by
      rw [List.contains_iff_mem]
      have e1 : T.getD j 0 = T[j] := by simp [List.getD, hj]
      have hi' : i < (T.take j).length := by rw [List.length_take]; omega
      rw [e1, ← e]
      have : T[i] = (T.take j)[i] := by rw [List.getElem_take]
      rw [this]
      exact List.getElem_mem hi'
    rw [this] at h2
    cases h2
  intro j hj
  refine Classical.byContradiction fun hno => ?_
  have hjm : (j : Int) ∈ rngI n := rngI_mem.2 ⟨by omega, by omega⟩
  have := nd_len (R := (rngI n).erase j) hnd fun x hx => by
    obtain ⟨i, hi, rfl⟩ := List.getElem_of_mem hx
    exact (List.mem_erase_of_ne (fun e : T[i] = (j : Int) => hno (e ▸ hx))).2 (rngI_mem.2 (hb i hi))
  rw [List.length_erase_of_mem hjm, rngI_len] at this
  omega
theorem cover_per {n : Nat} {T : List Int} (hl : T.length = n) (h : ∀ j : Nat, j < n → (j : Int) ∈ T) : perB n T = true := by
  have key : ∀ i (hi : i < T.length), ¬ ∀ j : Nat, j < n → ∃ k, ∃ hk : k < T.length, k ≠ i ∧ T[k] = (j : Int) := fun i hi hc => by
    have := nd_len (T := rngI n) (R := T.eraseIdx i) (rngI_nd n) fun x hx => by
      obtain ⟨h0, h1⟩ := rngI_mem.1 hx
      obtain ⟨k, hk, hne, e⟩ := hc x.toNat (by omega)
      rw [List.mem_eraseIdx_iff_getElem]
      exact ⟨k, hk, hne, by omega⟩
    rw [List.length_eraseIdx, if_pos hi, rngI_len] at this
    omega
  unfold perB
  rw [List.all_eq_true]
  intro i hi
  have hi := List.mem_range.1 hi
  have e : T.getD i 0 = T[i] := by simp [List.getD, hi]
  rw [Bool.and_eq_true, Bool.not_eq_true', e]
  constructor
  · refine Classical.byContradiction fun hc => key i hi fun j hj => ?_
    obtain ⟨k, hk, ek⟩ := List.getElem_of_mem (h j hj)
    refine ⟨k, hk, fun hki => hc ?_, ek⟩
    subst hki
    exact inr_t (by omega) (by omega)
  · cases hd : dupB T i with
    | false => rfl
    | true =>
      exfalso
      unfold dupB at hd
      rw [List.contains_iff_mem, e] at hd
      obtain ⟨k, hk, ek⟩ := List.getElem_of_mem hd
      rw [List.length_take] at hk
      rw [List.getElem_take] at ek
      refine key i hi fun j hj => ?_
      obtain ⟨m, hm, em⟩ := List.getElem_of_mem (h j hj)
      by_cases hmi : m = i
      · subst hmi
        exact ⟨k, by omega, by omega, by rw [ek, em]⟩
      · exact ⟨m, hm, hmi, em⟩
/-- As many numbers as claims have each claim just if their bits are all bits. -/
theorem ren_test {n : Nat} {T : List Int} (hn : n ≤ 10) (hl : T.length = n) : (bS T == alB n) = perB n T := by
  rw [Bool.eq_iff_iff, beq_iff_eq]
  constructor
  · intro h
    refine cover_per hl fun j hj => ?_
    have : (bS T).testBit j = true := by rw [h, alB_bit]; simpa using hj
    exact ((bS_mem T j).1 this).2
  · intro h
    have hc := per_cover hl h
    refine Nat.eq_of_testBit_eq fun j => ?_
    rw [Bool.eq_iff_iff, bS_mem, alB_bit]
    simp only [Int.toNat_natCast, decide_eq_true_iff]
    constructor
    · rintro ⟨hj, hm⟩
      refine Classical.byContradiction fun hno => ?_
      unfold perB at h
      rw [List.all_eq_true] at h
      obtain ⟨i, hi, e⟩ := List.getElem_of_mem hm
      have h1 := h i (List.mem_range.2 hi)
      rw [Bool.and_eq_true] at h1
      have e2 : T.getD i 0 = T[i] := by simp [List.getD, hi]
      have h2 := h1.1
      simp only [inr, Bool.and_eq_true, decide_eq_true_iff] at h2
      omega
    · intro hj
      exact ⟨by omega, hc j hj⟩
/-- The names of a list. -/
def tN (T : List Int) (k : Nat) : Int := T.getD k 0
theorem tN_nms {n : Nat} {T : List Int} (hn : n ≤ 10) (hl : T.length = n) (h : perB n T = true) : Nms (tN T) := fun k hk => by
  unfold tN
  by_cases hkl : k < T.length
  · unfold perB at h
    rw [List.all_eq_true] at h
    have h1 := h k (List.mem_range.2 hkl)
    rw [Bool.and_eq_true] at h1
    have h2 := h1.1
    simp only [inr, Bool.and_eq_true, decide_eq_true_iff] at h2
    exact .inr ⟨by omega, by omega⟩
  · have : T.getD k 0 = 0 := by simp [List.getD, hkl]
    rw [this]
    exact .inr ⟨by omega, by omega⟩
theorem renamed_code {n : Nat} {X : List (List Int)} {T : List Int} (h : renB n X T = true) : glK (att (mapX (tN T) (glK (rf n X) n))) n = renX n X T := by
  obtain ⟨n', t, e, hn, hg, hp, ha, hl, ht, hi⟩ := ren_parts h
  obtain rfl : n = n' := by omega
  obtain ⟨h1, h2, _, _⟩ := ren_made hn ht hi X hp (asc_nd ha)
  rw [glK_rf hg]
  refine glK_back h1 fun z => ?_
  rw [h2]
  unfold mapX
  rw [List.mem_map]
  constructor
  · rintro ⟨p, q, hpn, hqn, hx, rfl⟩
    refine ⟨_, List.mem_filter.2 ⟨hx, ?_⟩, ?_⟩
    · unfold keepX tN
      simp only [List.getD_cons_zero, List.getD_cons_succ, Int.toNat_natCast]
      rw [(ht p hpn).1, (ht q hqn).1]
      simp
    · unfold namX tN
      simp only [List.getD_cons_zero, List.getD_cons_succ, Int.toNat_natCast]
      rw [(ht p hpn).1, (ht q hqn).1]
  · rintro ⟨x, hx, rfl⟩
    obtain ⟨hx, _⟩ := List.mem_filter.1 hx
    obtain ⟨p, q, rfl, hpn, hqn⟩ := hp x hx
    refine ⟨p, q, hpn, hqn, hx, ?_⟩
    unfold namX tN
    simp only [List.getD_cons_zero, List.getD_cons_succ, Int.toNat_natCast]
    rw [(ht p hpn).1, (ht q hqn).1]
end Go.Proofs.YtjhknafajfpldaaDoor

/- Contracts of the code's namesWithout and renamed. Conditions: at most 10 claims, rows below 2^16, names that are claims or none. -/
namespace Go.Proofs.YtjhknafajfpldaaDoor
open Go.ChangeShapes Go.WideShapes Go.ChangeAt Go.RowKit
set_option maxRecDepth 100000
/-- Ten names as cells. -/
def nmC (t : Nat → Int) : Array Value := #[.int .i64 (t 0), .int .i64 (t 1), .int .i64 (t 2), .int .i64 (t 3), .int .i64 (t 4), .int .i64 (t 5), .int .i64 (t 6), .int .i64 (t 7), .int .i64 (t 8), .int .i64 (t 9)]
theorem nmC_at (t : Nat → Int) {k : Nat} (hk : k < 10) : (nmC t)[k]? = some (.int .i64 (t k)) := by
  rcases lt10 hk with rfl | rfl | rfl | rfl | rfl | rfl | rfl | rfl | rfl | rfl <;> rfl
theorem nmC_lit : #[Value.int .i64 0, .int .i64 0, .int .i64 0, .int .i64 0, .int .i64 0, .int .i64 0, .int .i64 0, .int .i64 0, .int .i64 0, .int .i64 0] = nmC fun _ => 0 := rfl
theorem nmC_one (t : Nat → Int) : ∀ v ∈ (nmC t).toList, v.oneCell' = true := by simp [nmC, Value.oneCell']
theorem nmC_set (t : Nat → Int) {k : Nat} (hk : k < 10) : (nmC fun j => if j < k then t j else 0).setIfInBounds k (.int .i64 (t k)) = nmC fun j => if j < k + 1 then t j else 0 := by
  rcases lt10 hk with rfl | rfl | rfl | rfl | rfl | rfl | rfl | rfl | rfl | rfl <;> simp [nmC]
theorem nmC_all (t : Nat → Int) : nmC (fun j => if j < 10 then t j else 0) = nmC t := by simp [nmC]
theorem NM_info : (Tryd.prog.info? 58).map (·.size) = some 10 := by kernel_rfl
section
variable {w : World} {ops : Array Oper} {rest : List Oper} {o : Oper} {a : Act} {Q : Exit → Act → World → Prop} {cs : Array Value}
theorem ldNM (hgd : o.guard = none) (x : Operand) (ho : o.op = .load 58 x) {g : Nat} (h : Bx w g 58 cs) (hs : cs.size = 10) (hx : a.eval x = .pointer (some ⟨g, 0, none⟩)) (K : wpList Tryd.prog ops Q rest (a.put o.dst (.agg cs)) w) : wpList Tryd.prog ops Q (o :: rest) a w :=
  wpList_load_row hgd _ x ho g hx _ cs (0, 0) _ h Tryd.underlying58 rfl (by rw [NM_info, hs]) K
theorem stNM (hgd : o.guard = none) (x y : Operand) (ho : o.op = .store 58 x y) {g : Nat} {t : Nat → Int} (h : Bx w g 58 cs) (hs : cs.size = 10) (hx : a.eval x = .pointer (some ⟨g, 0, none⟩)) (hy : a.eval y = .agg (nmC t)) (K : wpList Tryd.prog ops Q rest (a.put o.dst undef) (w.setRow g (nmC t))) : wpList Tryd.prog ops Q (o :: rest) a w :=
  wpList_store_row hgd _ x y ho g (nmC t) hx hy _ cs h (by rw [NM_info]; rfl) (by rw [hs]; rfl) (by simp [nmC, Value.oneCell']) K
theorem resNM {fn : Func} {p : Tmp} {tmps : Array Value} {g : Nat} (h : fn.results = #[.cell p 58]) (hb : Bx w g 58 cs) (hs : cs.size = 10) (hp : tmps.getD p undef = .pointer (some ⟨g, 0, none⟩)) : (results fn tmps).run Tryd.prog w = .ok (.agg cs) w :=
  results_cell_row h tmps w g _ cs (0, 0) _ hp hb Tryd.underlying58 rfl (by rw [NM_info, hs])
end
theorem two_blocks (w : World) (c1 c2 : Array Value) (t1 t2 : TypeId) : ∃ W1 : World, (w.alloc (Obj.cells c1 t1)).alloc (Obj.cells c2 t2) = W1 ∧ Bx W1 w.heap.size t1 c1 ∧ Bx W1 (w.heap.size + 1) t2 c2 ∧ Below w.heap.size w W1 ∧ W1.heap.size = w.heap.size + 2 := by
  have a1 := (Bx.made w t1 c1).new (alloc_new _ (Obj.cells c2 t2))
  have a2 := Bx.made (w.alloc (Obj.cells c1 t1)) t2 c2
  exact ⟨_, rfl, a1, by simpa using a2, ((Below.refl _ _).alloc (Nat.le_refl _) _).alloc (by simp) _, by simp⟩
theorem setCell_out (w : World) (g k : Nat) (u : Value) : Out g (g + 1) w (w.setCell ⟨g, k, none⟩ u) :=
  ⟨rfl, rfl, rfl, by simp, fun j _ hj => Below.heap_setCell w ⟨g, k, none⟩ u j (by simp; omega)⟩
set_option maxHeartbeats 4000000 in
theorem names_any {w : World} {c : Int} : Calls Tryd.prog 32 #[.int .i64 c] w (fun e w' => e = .returned (.agg (nmC (woN c))) ∧ Below w.heap.size w w') := by
  obtain ⟨W1, hW, bx1, bx2, hb1, hs1⟩ := two_blocks w (nmC fun _ => 0) (nmC fun _ => 0) 58 58
  have HS := Lib.hid hs1
  clear hs1
  rw [← nmC_lit] at hW
  go_enter Tryd.func32, Tryd.ntmps32
  go_wp2_with fail
  try rw [hW]
  clear hW
  generalize hg : w.heap.size = g at *
  go_loopw [5] (fun i wr => ∃ k : Nat, k ≤ 10 ∧ i = .int .i64 k ∧ Bx wr (g + 1) 58 (nmC fun j => if j < k then woN c j else 0) ∧ Out (g + 1) (g + 2) W1 wr) (fun i _ => 10 - (intOf i).toNat)
  case atStart => exact ⟨0, Nat.zero_le _, rfl, bx2, Out.refl⟩
  case round =>
    obtain ⟨k, hk, rfl, hbk, hou⟩ := hrel
    by_cases hlt : k < 10
    · have ck := hbk.at_ (nmC_at _ hlt)
      have fk := hbk.free k
      have hbs := hbk.set k (.int .i64 (woN c k))
      rw [nmC_set _ hlt] at hbs
      have hos := hou.trans (setCell_out wr (g + 1) k (.int .i64 (woN c k)))
      have i0 : (0 : Int) ≤ (k : Int) := by omega
      have i1 : (k : Int) < 10 := by omega
      have i2 : (k : Int) ≤ 9 := by omega
      have HB := Lib.hid hbs
      have HO := Lib.hid hos
      clear hbs hos hbk
      by_cases e1 : (k : Int) < c
      · have HV := Lib.hid (show woN c k = k by unfold woN; rw [if_pos e1])
        rw [HV.out] at HB HO
        go_wp2_with fail
        go_roundw
        case rel => exact ⟨k + 1, by omega, by go_num, HB.out, HO.out⟩
        case measure => simp [intOf]; omega
      · by_cases e2 : (k : Int) = c
        · have HV := Lib.hid (show woN c k = -1 by unfold woN; rw [if_neg e1, if_pos e2])
          have e2' : ((k : Int) == c) = true := by simpa using e2
          rw [HV.out] at HB HO
          clear e2
          go_wp2_with fail
          go_roundw
          case rel => exact ⟨k + 1, by omega, by go_num, HB.out, HO.out⟩
          case measure => simp [intOf]; omega
        · have HV := Lib.hid (show woN c k = k - 1 by unfold woN; rw [if_neg e1, if_neg e2])
          have e2' : ((k : Int) == c) = false := by simpa using e2
          rw [HV.out] at HB HO
          clear e2
          go_wp2_with fail
          go_roundw
          case rel => exact ⟨k + 1, by omega, by go_num, HB.out, HO.out⟩
          case measure => simp [intOf]; omega
    · have e : k = 10 := by omega
      subst e
      rw [nmC_all] at hbk
      have bx1' := bx1.out hou (.inl (by omega))
      go_wp2_with (first | (refine ldNM rfl (.tmp 3) rfl hbk rfl rfl ?_) | (refine stNM rfl (.tmp 2) (.tmp 26) rfl bx1' rfl rfl rfl ?_))
      refine bodyPost_ret (resNM rfl (bx1'.setRow _) rfl rfl) rfl ⟨rfl, ?_⟩
      have hsz := HS.out
      exact hg ▸ ((hb1.trans (hou.below (by omega) (by omega))).trans ((setRow_out wr g (nmC (woN c)) (Nat.le_refl _) (Nat.lt_succ_self _)).below (Nat.le_refl _) (by have := hou.size; omega)))
theorem three_blocks (w : World) (c1 c2 c3 : Array Value) (t1 t2 t3 : TypeId) : ∃ W1 : World, ((w.alloc (Obj.cells c1 t1)).alloc (Obj.cells c2 t2)).alloc (Obj.cells c3 t3) = W1 ∧ Bx W1 w.heap.size t1 c1 ∧ Bx W1 (w.heap.size + 1) t2 c2 ∧ Bx W1 (w.heap.size + 2) t3 c3 ∧ Below w.heap.size w W1 ∧ W1.heap.size = w.heap.size + 3 := by
  obtain ⟨W2, hW, b1, b2, hb, hs⟩ := two_blocks w c1 c2 t1 t2
  have a3 := Bx.made W2 t3 c3
  rw [hW]
  exact ⟨_, rfl, b1.new (alloc_new _ _), b2.new (alloc_new _ _), by rw [hs] at a3; exact a3, hb.alloc (by omega) _, by simp [hs]⟩
theorem rowL_take (f : Nat → Nat) (k : Nat) {j : Nat} {z : Int} (hj : j < (lsT (f k) 10).length) (hz : (lsT (f k) 10)[j] = z) : (rowL f k).take (j + 1) = (rowL f k).take j ++ [[(k : Int), z]] := by
  have h : j < (rowL f k).length := by unfold rowL; rw [List.length_map]; exact hj
  rw [List.take_succ_eq_append_getElem h]
  simp only [rowL, List.getElem_map, hz]
set_option maxHeartbeats 8000000 in
theorem renamed_any {w : World} {n : Nat} {m : Int} {f : Nat → Nat} {t : Nat → Int} (hn : n ≤ 10) (hf : ∀ a, f a < 65536) (ht : Nms t) :
    Calls Tryd.prog 31 #[.agg (arC n f), .agg (nmC t), .int .i64 m] w (fun e w' => e = .returned (.agg (arC m (att (mapX t (glK f n))))) ∧ Below w.heap.size w w') := by
  obtain ⟨W3, hW3, b0, b1, b2, hb3, hs3⟩ := three_blocks w (arC n f) (nmC t) (arC 0 fun _ => 0) 49 58 49
  obtain ⟨W4, W5, hW4, hW5, c4, c5, hb5, hs5⟩ := new_rows W3 m fun _ => 0
  have d0 := b0.new hb5
  have d1 := b1.new hb5
  have d2 := b2.new hb5
  have hb6 := hb3.trans (hb5.mono hb3.size)
  rw [← arC_lit 0] at hW3 hW4
  rw [hs3] at c4 c5 hW5
  have HX := Lib.hid hW5
  have HT := Lib.hid ht
  have HS5 := Lib.hid (show W5.heap.size = w.heap.size + 4 by omega)
  have E0 := d0.at_ (k := 0) (v := .int .i64 n) rfl
  clear hW5 hs5 b0 b1 b2 hb3 hb5 ht
  go_enter Tryd.func31, Tryd.ntmps31
  go_wp2_with (first | (refine stAR (n := m) (f := fun _ => 0) rfl (.tmp 7) (.tmp 12) rfl c4 rfl rfl rfl ?_; rw [HX.out]))
  clear hW3 hW4 c4 HX
  generalize hg : w.heap.size = g at *
  go_loopw [15] (fun i wr => ∃ k : Nat, k ≤ n ∧ i = .int .i64 k ∧ Bx wr (g + 3) 49 (arC m (att (mapX t (glK f k)))) ∧ Out (g + 3) (g + 4) W5 wr) (fun i _ => n - (intOf i).toNat)
  case atStart => exact ⟨0, Nat.zero_le _, rfl, c5, Out.refl⟩
  case round =>
    obtain ⟨k, hk, rfl, hbk, hou⟩ := hrel
    have hs5 := HS5.out
    have hsw := hou.size
    have e0 := d0.out hou (.inl (by omega))
    have e1 := d1.out hou (.inl (by omega))
    have e2 := d2.out hou (.inl (by omega))
    clear c5 d0 d1 d2 E0
    by_cases hlt : k < n
    · have hk10 : k < 10 := by omega
      have ck := e0.at_ (arC_at n f (a := k) hk10)
      have hfk := hf k
      have i1 : (0 : Int) ≤ (k : Int) := by omega
      have i2 : (k : Int) < 10 := by omega
      have HB := Lib.hid hbk
      have HG := Lib.hid (glK_succ f k)
      have HP := Lib.hid (glK_prs f k (by omega))
      have HPR := Lib.hid (rowL_prs f hk10)
      clear hbk
      go_wp2_with fail
      refine (list_any hfk).mono ?_
      rintro e w4 ⟨l, rfl, hrow, hb4⟩
      have HLL := Lib.hid (lsT_len (f k) 10)
      have HRL := Lib.hid (fun (j : Nat) (z : Int) => rowL_take f k (j := j) (z := z))
      have HLM := Lib.hid (fun z => (lsT_mem (f k) 10 z).1)
      have HRN : Hid ((rowL f k).length = (lsT (f k) 10).length) := Lib.hid (by unfold rowL; rw [List.length_map])
      obtain ⟨zs, hzs⟩ : ∃ zs, zs = lsT (f k) 10 := ⟨_, rfl⟩
      rw [← hzs] at hrow HLL HLM HRL HRN
      obtain ⟨Al, cl, rfl, _, _, _⟩ := hrow.rd (n := zs.length) (ivs_len zs)
      have HRW := Lib.hid hrow
      have hs4 := hb4.size
      have bk4 := HB.out.new hb4
      have n0 := e0.new hb4
      have n1 := e1.new hb4
      have n2 := e2.new hb4
      have hou4 := hou.trans (Out.of_below hb4)
      clear hzs hrow ck e0 e1 e2 hou
      go_wp2_with fail
      go_loopw [24] (fun i wr => ∃ j : Nat, j ≤ zs.length ∧ i = .int .i64 j ∧ Bx wr (g + 3) 49 (arC m (att (mapX t (glK f k ++ (rowL f k).take j)))) ∧ Out (g + 3) (g + 4) w4 wr) (fun i _ => zs.length - (intOf i).toNat)
      case atStart => exact ⟨0, Nat.zero_le _, rfl, by simpa using bk4, Out.refl⟩
      case round =>
        obtain ⟨j, hj, rfl, hbj, ho4⟩ := hrel
        have hsz := ho4.size
        have m0 := n0.out ho4 (.inl (by omega))
        have m1 := n1.out ho4 (.inl (by omega))
        have m2 := n2.out ho4 (.inl (by omega))
        clear bk4 n0 n1 n2
        by_cases hjt : j < zs.length
        · obtain ⟨ad, rfl, _, hc⟩ := ivs_at (HRW.out.out ho4 (.inr (by omega))).rd' hjt
          obtain ⟨b, hb10, _, hbz⟩ := HLM.out zs[j] (List.getElem_mem hjt)
          rw [← hbz] at hc
          have HJ := Lib.hid (HRL.out j b hjt hbz.symm)
          have HPX : Hid (Prs 10 (glK f k ++ (rowL f k).take j)) := Lib.hid (prs_app HP.out fun x hx => HPR.out x (List.mem_of_mem_take hx))
          obtain ⟨X, hX⟩ : ∃ X, X = glK f k ++ (rowL f k).take j := ⟨_, rfl⟩
          have HXj : Hid (glK f k ++ (rowL f k).take (j + 1) = X ++ [[(k : Int), (b : Int)]]) := Lib.hid (by rw [HJ.out, ← List.append_assoc, ← hX])
          rw [← hX] at hbj HPX
          have hat := att_lt16 (mapX_prs HT.out HPX.out)
          have hzl := HLL.out
          have j0 : (0 : Int) ≤ (j : Int) := by omega
          have b0 : (0 : Int) ≤ (b : Int) := by omega
          have b1 : (b : Int) < 10 := by omega
          have ta := m1.at_ (nmC_at t hk10)
          have tb := m1.at_ (nmC_at t hb10)
          have HTa := Lib.hid (HT.out k hk10)
          have HTb := Lib.hid (HT.out b hb10)
          clear hbz hX HJ hat
          by_cases h1 : t k = -1
          · have HN := Lib.hid (mapX_no (t := t) X (x := [(k : Int), (b : Int)]) (by unfold keepX; simp [h1]))
            have h1' : (t k != -1) = false := by simp [h1]
            have h1'' : (t k == -1) = true := by simp [h1]
            rw [h1] at ta
            clear h1 h1' h1''
            go_wp2_with fail
            go_roundw
            case rel => exact ⟨j + 1, by omega, by go_num, by rw [HXj.out, HN.out]; exact hbj, ho4⟩
            case measure => simp [intOf]; omega
          · obtain ⟨p, hp⟩ : ∃ p : Nat, t k = p := by
              rcases HTa.out with h | h
              · exact absurd h h1
              · exact ⟨(t k).toNat, by omega⟩
            have hp10 : p < 10 := by have := HTa.out; omega
            rw [hp] at ta
            have hpn : ((p : Int) != -1) = true := by simp
            by_cases h2 : t b = -1
            · have HN := Lib.hid (mapX_no (t := t) X (x := [(k : Int), (b : Int)]) (by unfold keepX; simp [h2]))
              rw [h2] at tb
              clear h1 h2
              go_wp2_with fail
              go_roundw
              case rel => exact ⟨j + 1, by omega, by go_num, by rw [HXj.out, HN.out]; exact hbj, ho4⟩
              case measure => simp [intOf]; omega
            · obtain ⟨q, hq⟩ : ∃ q : Nat, t b = q := by
                rcases HTb.out with h | h
                · exact absurd h h2
                · exact ⟨(t b).toNat, by omega⟩
              have hq10 : q < 10 := by have := HTb.out; omega
              rw [hq] at tb
              have hqn : ((q : Int) != -1) = true := by simp
              have HN := Lib.hid (show att (mapX t (X ++ [[(k : Int), (b : Int)]])) = upd (att (mapX t X)) p q by
                rw [mapX_yes X (by unfold keepX; simp [hp, hq]), att_snoc]
                unfold namX
                simp [hp, hq])
              have hat := att_lt16 (mapX_prs HT.out HPX.out) p
              obtain ⟨F, hF⟩ : ∃ F, F = att (mapX t X) := ⟨_, rfl⟩
              rw [← hF] at hbj HN hat
              obtain ⟨c0, c1, c2, c3, c4, c5, c6, c7, c8, c9, c10⟩ := hbj.eleven
              have HBJ := Lib.hid hbj
              clear h1 h2 hp hq hF hbj
              go_wp2_with fail
              go_region_law (first | (go_simp; go_at_call 51; refine (withAttack_any (n := m) (f := F) (a := p) (b := q) hp10 hq10 hat).mono ?_; rintro e w9 ⟨rfl, hb9⟩; obtain ⟨cs2, hcs2⟩ : ∃ cs2, cs2 = arC m (upd F p q) := ⟨_, rfl⟩; rw [← hcs2]; have hz2 : cs2.size = 11 := (by rw [hcs2]; rfl); have hst := (HBJ.out.drew_.new hb9).store (P := Tryd.prog) (cs' := cs2) (by rw [hcs2]; rfl) (by rw [hcs2]; exact arC_one _ _); have HS2 := Lib.hid hcs2; clear hcs2))
              all_goals
                have hbx9 := (HBJ.out.drew_.new hb9).setRow cs2
                have ho9 : Out (g + 3) (g + 4) w4 (w9.setRow (g + 3) cs2) := ((ho4.drewN 1).trans (Out.of_below hb9)).trans (setRow_out w9 (g + 3) cs2 (Nat.le_refl _) (Nat.lt_succ_self _))
                go_wp2_with fail
                go_roundw
                case rel => exact ⟨j + 1, by omega, by go_num, by rw [HXj.out, HN.out, ← HS2.out]; exact hbx9, ho9⟩
                case measure => simp [intOf]; omega
        · have e : j = zs.length := by omega
          subst e
          have HE : Hid (glK f k ++ (rowL f k).take zs.length = glK f (k + 1)) := Lib.hid (by rw [HG.out, List.take_of_length_le (by rw [HRN.out]; exact Nat.le_refl _)])
          rw [HE.out] at hbj
          have hfin := hou4.trans ho4
          go_wp2_with fail
          go_roundw
          case rel => exact ⟨k + 1, by omega, by go_num, hbj, hfin⟩
          case measure => simp [intOf]; omega
    · have e : k = n := by omega
      subst e
      obtain ⟨F, hF⟩ : ∃ F, F = att (mapX t (glK f k)) := ⟨_, rfl⟩
      rw [← hF] at hbk
      have HF := Lib.hid hF
      clear hF
      go_wp2_with (first | (refine ldAR rfl (.tmp 7) rfl hbk rfl rfl ?_) | (refine stAR rfl (.tmp 6) (.tmp 48) rfl e2 rfl rfl rfl ?_))
      refine bodyPost_ret (resAR rfl (e2.setRow (arC m F)) rfl rfl) rfl ⟨by rw [HF.out], ?_⟩
      exact hg ▸ ((hb6.trans (hou.below (by omega) (by omega))).trans ((setRow_out _ (g + 2) (arC m F) (Nat.le_refl _) (Nat.lt_succ_self _)).below (by omega) (by omega)))
end Go.Proofs.YtjhknafajfpldaaDoor

/- Contracts of the code's Without. Condition: the slices have at most 2^40 elements. -/
namespace Go.Proofs.YtjhknafajfpldaaDoor
open Go.ChangeShapes Go.WideShapes Go.ChangeAt Go.RowKit
set_option maxRecDepth 100000
/-- The graph without a claim, or as it was. -/
def woM (N : Int) (X : List (List Int)) (c : Int) : Int := if woB N X c then N - 1 else N
def woY (N : Int) (X : List (List Int)) (c : Int) : List (List Int) := if woB N X c then woX X c else X
theorem woB_rn {N : Int} {X : List (List Int)} {c : Int} : inr c 0 (rn N X - 1) = woB N X c := by
  unfold woB rn
  cases hg : gB N X with
  | true => rfl
  | false =>
    cases hc : inr c 0 ((if false = true then N else 0) - 1) with
    | false => rfl
    | true => simp [inr] at hc; omega
theorem Out.drew_ {lo hi : Nat} {w w' : World} (h : Out lo hi w w') : Out lo hi w w'.drew := h.drewN 1
theorem two_one {N : Int} {v : Value} (h : v.oneCell' = true) : ∀ x ∈ (#[Value.int .i64 N, v] : Array Value).toList, x.oneCell' = true := by
  intro x hx
  simp at hx
  rcases hx with rfl | rfl
  · rfl
  · exact h
/-- All stays but one block of two cells. -/
structure Kp (q : Nat) (t : TypeId) (W w : World) : Prop where
  out : Out q (q + 1) W w
  two : ∃ cs, Bx w q t cs ∧ cs.size = 2
section
variable {q : Nat} {t : TypeId} {W w w' : World}
theorem Kp.start {a b : Value} (h : Bx W q t #[a, b]) : Kp q t W W := ⟨Out.refl, _, h, rfl⟩
theorem Kp.drew_ (h : Kp q t W w) : Kp q t W w.drew := ⟨h.out.drew_, h.two⟩
theorem Kp.new (h : Kp q t W w) (hb : Below w.heap.size w w') : Kp q t W w' := ⟨h.out.trans (Out.of_below hb), by obtain ⟨cs, h1, h2⟩ := h.two; exact ⟨cs, h1.new hb, h2⟩⟩
theorem Kp.setRow (h : Kp q t W w) {cs : Array Value} (hs : cs.size = 2) : Kp q t W (w.setRow q cs) :=
  ⟨h.out.trans (setRow_out w q cs (Nat.le_refl _) (Nat.lt_succ_self _)), by obtain ⟨cs', h1, h2⟩ := h.two; exact ⟨cs, h1.setRow cs, hs⟩⟩
theorem Kp.eleven {G : Nat} {t' : TypeId} {N : Int} {f : Nat → Nat} (h : Bx W G t' (arC N f)) (hd : G ≠ q) (o : Kp q t W w') :
    Kp q t W w' ∧ w'.cell? ⟨G, 0, none⟩ = some (.int .i64 N) ∧ w'.cell? ⟨G, 1, none⟩ = some (.int .u16 (f 0 : Nat)) ∧ w'.cell? ⟨G, 2, none⟩ = some (.int .u16 (f 1 : Nat)) ∧ w'.cell? ⟨G, 3, none⟩ = some (.int .u16 (f 2 : Nat)) ∧ w'.cell? ⟨G, 4, none⟩ = some (.int .u16 (f 3 : Nat)) ∧ w'.cell? ⟨G, 5, none⟩ = some (.int .u16 (f 4 : Nat)) ∧ w'.cell? ⟨G, 6, none⟩ = some (.int .u16 (f 5 : Nat)) ∧ w'.cell? ⟨G, 7, none⟩ = some (.int .u16 (f 6 : Nat)) ∧ w'.cell? ⟨G, 8, none⟩ = some (.int .u16 (f 7 : Nat)) ∧ w'.cell? ⟨G, 9, none⟩ = some (.int .u16 (f 8 : Nat)) ∧ w'.cell? ⟨G, 10, none⟩ = some (.int .u16 (f 9 : Nat)) :=
  ⟨o, (h.out o.out (by omega)).eleven⟩
theorem Kp.store {P : Program} (h : Kp q t W w) {cs' : Array Value} (hs : cs'.size = 2) (h1 : ∀ v ∈ cs'.toList, v.oneCell' = true) : (storeCells ⟨q, 0, none⟩ cs'.toList 0).run P w = .ok () (w.setRow q cs') := by
  obtain ⟨cs, h2, h3⟩ := h.two
  exact h2.store (by rw [hs, h3]) h1
end
set_option maxHeartbeats 8000000 in
theorem impWithout_any {w : World} {A : Option Addr} {n c : Nat} {N a : Int} {X : List (List Int)} (hl : Hid (X.length = n)) (hn : n ≤ 1099511627776) (hs : Hid (∀ x ∈ X, x.length ≤ 1099511627776)) (hr : RdSS w w.heap.size A X) :
    Calls Tryd.prog 8 #[.agg #[.int .i64 N, .slice A n c], .int .i64 a] w (FreshGB (woM N X a) (woY N X a) (woB N X a) w) := by
  obtain ⟨W2, hW2, bx1, bx2, hb2, hs2⟩ := two_graphs w #[Value.int IntKind.i64 N, Value.slice A n c] #[Value.int IntKind.i64 0, Value.slice none 0 0] 26
  have HR := Lib.hid (hr.below hb2)
  obtain ⟨C0, C1⟩ := bx1.two
  have hW2' := hW2.symm
  have HS2 := Lib.hid hs2
  clear hW2 hr hs2
  go_enter Tryd.func8, Tryd.ntmps8
  go_wp2_with fail
  refine (rowsOf_any hl hn (HR.out.more hb2.size)).mono ?_
  rintro e w3 ⟨rfl, hb3⟩
  have hb4 := hb2.trans (hb3.mono hb2.size)
  have bx13 := bx1.new hb3
  have bx23 := bx2.new hb3
  have hs3 := hb3.size
  have r0 := (rn_le N X).1
  have r1 := (rn_le N X).2
  have hfl := rf_lt N X
  have HWO := Lib.hid (woB_rn (N := N) (X := X) (c := a))
  obtain ⟨rN, hrN⟩ : ∃ z, z = rn N X := ⟨_, rfl⟩
  obtain ⟨f, hf⟩ : ∃ f, f = rf N X := ⟨_, rfl⟩
  rw [← hrN] at r0 r1 HWO ⊢
  rw [← hf] at hfl ⊢
  have HN := Lib.hid hrN
  have HF := Lib.hid hf
  clear hrN hf hW2' C0 C1 bx1 bx2
  obtain ⟨W4, W5, hW4, hW5, bx4, bx5, hb5, hs5⟩ := new_rows w3 rN f
  rw [← arC_lit 0] at hW4
  have HX := Lib.hid hW5
  have bx15 := bx13.new hb5
  have bx25 := bx23.new hb5
  have hb6 := hb4.trans (hb5.mono hb4.size)
  have hrd5 := (HR.out.below (hb3.mono hb2.size)).below (hb5.mono hb4.size)
  have E0 := bx5.at_ (k := 0) (v := .int .i64 rN) rfl
  obtain ⟨D0, D1⟩ := bx15.two
  have HM := Lib.hid (show w.heap.size + 2 ≤ W5.heap.size by rw [hs5]; have := HS2.out; omega)
  clear hs5 hW5
  by_cases ha : inr a 0 (rN - 1) = true
  case neg =>
    have HA := Lib.hid (show inr a 0 (rN - 1) = false by simpa using ha)
    have HCf := Lib.hid (show woB N X a = false by rw [← HWO.out]; exact HA.out)
    have HLx := Lib.hid (show woY N X a = X by unfold woY; rw [HCf.out]; rfl)
    have HLm := Lib.hid (show woM N X a = N by unfold woM; rw [HCf.out]; rfl)
    clear ha
    go_wp2_with (first | (refine stAR (n := rN) (f := f) rfl (.tmp 6) (.tmp 8) rfl bx4 rfl rfl rfl ?_; rw [HX.out]) | (go_at_call 30; refine (isClaim_any (by omega) (by omega)).mono ?_; rintro e w1 ⟨he, rfl⟩; rw [HA.out] at he; subst he))
    refine (impCopy_any hl hn hs (hrd5.more hb6.size)).mono ?_
    rintro e w6 ⟨v, rfl, hown, hb7⟩
    have bx26 := bx25.new hb7
    have hv1 := hown.one
    have hk := keep_result #[.int .i64 N, v] hown (hb6.trans (hb7.mono hb6.size)) HM.out (Nat.le_trans HM.out hb7.size)
    go_wp2_with (first | (refine stGR rfl (.tmp 4) (.tmp 15) rfl bx26 rfl hv1 rfl rfl ?_))
    refine bodyPost_ret (resGB rfl (bx26.setRow _) rfl rfl rfl) rfl ⟨v, by rw [HCf.out, HLm.out]; rfl, by rw [HLx.out]; exact hk.1, hk.2⟩
  case pos =>
    have HA := Lib.hid ha
    have HCf := Lib.hid (show woB N X a = true by rw [← HWO.out]; exact ha)
    have hg : gB N X = true := by have := HCf.out; unfold woB at this; rw [Bool.and_eq_true] at this; exact this.1
    obtain ⟨m, rfl, hm, hP, _⟩ := gB_ok hg
    have e := HN.out.trans (rn_eq hg)
    subst e
    obtain ⟨a0, a1⟩ : 0 ≤ a ∧ a < m := by simp [inr] at ha; omega
    have HC := Lib.hid (without_code hg a0 a1)
    rw [← HF.out] at HC
    have HLx := Lib.hid (show woY m X a = woX X a by unfold woY; rw [HCf.out]; rfl)
    have HLm := Lib.hid (show woM m X a = ((m - 1 : Nat) : Int) by unfold woM; rw [HCf.out]; simp; omega)
    have HM1 := Lib.hid (show IntKind.i64.wrap ((m : Int) - 1) = ((m - 1 : Nat) : Int) by rw [IntWalk.i64_in _ (by omega)]; omega)
    have HNM := Lib.hid (woN_nms a0)
    have HGP := Lib.hid (att_lt16 (mapX_prs HNM.out (glK_prs f m hm)))
    have cc := bx5.eleven
    clear ha hg HN
    go_wp2_with (first | (refine stAR (n := m) (f := f) rfl (.tmp 6) (.tmp 8) rfl bx4 rfl rfl rfl ?_; rw [HX.out]) | (go_at_call 30; refine (isClaim_any (by omega) (by omega)).mono ?_; rintro e w1 ⟨he, rfl⟩; rw [HA.out] at he; subst he))
    obtain ⟨c0, c1, c2, c3, c4, c5, c6, c7, c8, c9, c10⟩ := cc
    clear hW4 bx4
    have KE : ∀ w', Kp (w.heap.size + 1) 26 W5 w' → Kp (w.heap.size + 1) 26 W5 w' ∧ w'.cell? ⟨w3.heap.size, 0, none⟩ = some (.int .i64 m) ∧ w'.cell? ⟨w3.heap.size, 1, none⟩ = some (.int .u16 (f 0 : Nat)) ∧ w'.cell? ⟨w3.heap.size, 2, none⟩ = some (.int .u16 (f 1 : Nat)) ∧ w'.cell? ⟨w3.heap.size, 3, none⟩ = some (.int .u16 (f 2 : Nat)) ∧ w'.cell? ⟨w3.heap.size, 4, none⟩ = some (.int .u16 (f 3 : Nat)) ∧ w'.cell? ⟨w3.heap.size, 5, none⟩ = some (.int .u16 (f 4 : Nat)) ∧ w'.cell? ⟨w3.heap.size, 6, none⟩ = some (.int .u16 (f 5 : Nat)) ∧ w'.cell? ⟨w3.heap.size, 7, none⟩ = some (.int .u16 (f 6 : Nat)) ∧ w'.cell? ⟨w3.heap.size, 8, none⟩ = some (.int .u16 (f 7 : Nat)) ∧ w'.cell? ⟨w3.heap.size, 9, none⟩ = some (.int .u16 (f 8 : Nat)) ∧ w'.cell? ⟨w3.heap.size, 10, none⟩ = some (.int .u16 (f 9 : Nat)) := fun w' o => Kp.eleven bx5 (by have := HS2.out; omega) o
    have K0 := Kp.start bx25
    have HK1 := Lib.hid (show w.heap.size + 2 ≤ w3.heap.size by have := HS2.out; omega)
    generalize hG : w3.heap.size = G at *
    go_region_held3 (fun w' => Kp (w.heap.size + 1) 26 W5 w' ∧ w'.cell? ⟨G, 0, none⟩ = some (.int .i64 m) ∧ w'.cell? ⟨G, 1, none⟩ = some (.int .u16 (f 0 : Nat)) ∧ w'.cell? ⟨G, 2, none⟩ = some (.int .u16 (f 1 : Nat)) ∧ w'.cell? ⟨G, 3, none⟩ = some (.int .u16 (f 2 : Nat)) ∧ w'.cell? ⟨G, 4, none⟩ = some (.int .u16 (f 3 : Nat)) ∧ w'.cell? ⟨G, 5, none⟩ = some (.int .u16 (f 4 : Nat)) ∧ w'.cell? ⟨G, 6, none⟩ = some (.int .u16 (f 5 : Nat)) ∧ w'.cell? ⟨G, 7, none⟩ = some (.int .u16 (f 6 : Nat)) ∧ w'.cell? ⟨G, 8, none⟩ = some (.int .u16 (f 7 : Nat)) ∧ w'.cell? ⟨G, 9, none⟩ = some (.int .u16 (f 8 : Nat)) ∧ w'.cell? ⟨G, 10, none⟩ = some (.int .u16 (f 9 : Nat))) (first | assumption | with_reducible exact KE _ K0 | with_reducible exact KE _ K0.drew_ | with_reducible exact KE _ k9 | with_reducible exact KE _ k9.drew_ | with_reducible exact KE _ (‹Kp (w.heap.size + 1) 26 W5 _ ∧ _›).1.drew_ | with_reducible exact KE _ (k9.setRow hz2))
      (first
      | (go_at_call 32; refine (names_any (c := a)).mono ?_; rintro e u9 ⟨rfl, hb9⟩; have k9 := (‹Kp (w.heap.size + 1) 26 W5 _ ∧ _›).1.new hb9)
      | (go_at_call 31; rw [HM1.out]; refine (renamed_any hm hfl HNM.out).mono ?_; rintro e u9 ⟨rfl, hb9⟩; have k9 := (‹Kp (w.heap.size + 1) 26 W5 _ ∧ _›).1.new hb9)
      | (go_at_call 25; refine (impGraph_any (by omega) HGP.out).mono ?_; rintro e u9 ⟨v, rfl, hown, hb9⟩; have z9 := (‹Kp (w.heap.size + 1) 26 W5 _ ∧ _›).1.out.size; have k9 := (‹Kp (w.heap.size + 1) 26 W5 _ ∧ _›).1.new hb9; have hv1 := hown.one; obtain ⟨cs2, hcs2⟩ : ∃ cs2, cs2 = #[Value.int .i64 ((m - 1 : Nat) : Int), v] := ⟨_, rfl⟩; rw [← hcs2]; have hz2 : cs2.size = 2 := (by rw [hcs2]; rfl); have hst := k9.store (P := Tryd.prog) (cs' := cs2) hz2 (by rw [hcs2]; exact two_one hv1); have HS2 := Lib.hid hcs2; clear hcs2))
    obtain ⟨cs9, h91, _⟩ := k9.two
    have hbx := h91.setRow cs2
    have hb11 : Below w.heap.size w u9 := hb6.trans (k9.out.below (by omega) hb6.size)
    have hk1 := HK1.out
    have hz5 := hb6.size
    have hm5 := HM.out
    have hk := keep_result cs2 hown hb11 (by omega) (by have := k9.out.size; omega)
    go_wp2_with fail
    refine bodyPost_ret (resGB rfl hbx hz2 rfl rfl) rfl ⟨v, by rw [HCf.out, HLm.out, HS2.out]; rfl, by rw [HLx.out, ← HC.out]; exact hk.1, hk.2⟩
end Go.Proofs.YtjhknafajfpldaaDoor
