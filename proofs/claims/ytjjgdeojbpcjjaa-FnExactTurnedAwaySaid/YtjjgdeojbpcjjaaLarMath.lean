/- Mathematics of the largest room (bsN, minR, larI). No conditions. -/
import Derived.Test.YtjjgdeojbpcjjaaRooMath
import Derived.Test.YtjjgdeojbpcjjaaRcmC
namespace Go.Proofs.Ytjjgdeojbpcjjaa
open Go.ChangeShapes Go.WideShapes Go.ChangeAt Go.RowKit
/-- The largest room whose Id is not in S among the first k, the first of such: its place. -/
def bsN (X : List T2) (S : List Int) : Nat → Option Nat
  | 0 => none
  | k + 1 => if S.contains (X.getD k (0, 0)).1 then bsN X S k else match bsN X S k with
    | none => some k
    | some b => if (X.getD b (0, 0)).2 < (X.getD k (0, 0)).2 then some k else some b
def optI : Option Nat → Int
  | none => -1
  | some b => (b : Int)
theorem rD {X : List T2} {k : Nat} (h : k < X.length) : X.getD k (0, 0) = X[k] := by simp [List.getD, List.getElem?_eq_getElem h]
theorem bs_has {X : List T2} {S : List Int} {k : Nat} {x : T2} (hx : X.getD k (0, 0) = x) (h : S.contains x.1 = true) : bsN X S (k + 1) = bsN X S k := by
  show (if S.contains (X.getD k (0, 0)).1 then _ else _) = _
  rw [hx, if_pos h]
theorem bs_new {X : List T2} {S : List Int} {k : Nat} {x : T2} (hx : X.getD k (0, 0) = x) (h : S.contains x.1 = false) (h2 : bsN X S k = none) : bsN X S (k + 1) = some k := by
  show (if S.contains (X.getD k (0, 0)).1 then _ else match bsN X S k with | none => some k | some b => _) = _
  rw [hx, if_neg (by rw [h]; exact Bool.false_ne_true), h2]
theorem bs_cmp {X : List T2} {S : List Int} {k b : Nat} {x y : T2} (hx : X.getD k (0, 0) = x) (h : S.contains x.1 = false) (h2 : bsN X S k = some b) (hy : X.getD b (0, 0) = y) : bsN X S (k + 1) = if y.2 < x.2 then some k else some b := by
  show (if S.contains (X.getD k (0, 0)).1 then _ else match bsN X S k with | none => some k | some b => if (X.getD b (0, 0)).2 < (X.getD k (0, 0)).2 then some k else some b) = _
  rw [hx, if_neg (by rw [h]; exact Bool.false_ne_true), h2]
  simp only [hy]
theorem bs_lt {X : List T2} {S : List Int} : ∀ {k b : Nat}, bsN X S k = some b → b < k := by
  intro k
  induction k with
  | zero => intro b h; cases h
  | succ k ih =>
    intro b h
    by_cases hc : S.contains (X.getD k (0, 0)).1 = true
    · rw [bs_has rfl hc] at h; have := ih h; omega
    · have hc := Bool.eq_false_iff.2 hc
      cases h2 : bsN X S k with
      | none => rw [bs_new rfl hc h2] at h; injection h with h; omega
      | some c =>
        rw [bs_cmp rfl hc h2 rfl] at h
        have := ih h2
        split at h <;> (injection h with h; omega)
/-- The first of the rooms that are least in the order of compareRooms among the first k. -/
def minR (X : List T2) : Nat → T2
  | 0 => X.getD 0 (0, 0)
  | k + 1 => if rcmp (X.getD k (0, 0)) (minR X k) < 0 then X.getD k (0, 0) else minR X k
theorem rcmp_self (x : T2) : rcmp x x = 0 := by
  have h : ∀ a : Int, cmpI a a = 0 := fun a => by unfold cmpI; rw [if_neg (by omega), if_neg (by omega)]
  unfold rcmp; rw [h, h]; rfl
theorem minR_one (X : List T2) : minR X 1 = X.getD 0 (0, 0) := by
  show (if rcmp (X.getD 0 (0, 0)) (X.getD 0 (0, 0)) < 0 then _ else X.getD 0 (0, 0)) = _
  rw [rcmp_self, if_neg (by omega)]
theorem minR_lt {X : List T2} {k : Nat} {x m : T2} (hx : X.getD k (0, 0) = x) (hm : minR X k = m) (h : rcmp x m < 0) : minR X (k + 1) = x := by
  show (if rcmp (X.getD k (0, 0)) (minR X k) < 0 then X.getD k (0, 0) else minR X k) = _
  rw [hx, hm, if_pos h]
theorem minR_ge {X : List T2} {k : Nat} {x m : T2} (hx : X.getD k (0, 0) = x) (hm : minR X k = m) (h : ¬ rcmp x m < 0) : minR X (k + 1) = m := by
  show (if rcmp (X.getD k (0, 0)) (minR X k) < 0 then X.getD k (0, 0) else minR X k) = _
  rw [hx, hm, if_neg h]
theorem rcmp_asc {x m : T2} (h : m.1 < x.1) : rcmp x m < 0 ↔ m.2 < x.2 := by
  unfold rcmp cmpI orI orI orI
  rw [if_pos rfl, if_neg (show ¬ x.1 < m.1 by omega), if_pos h]
  constructor
  · intro h2
    by_cases h3 : m.2 < x.2
    · exact h3
    · exfalso
      rw [if_neg h3] at h2
      by_cases h4 : x.2 < m.2
      · simp [h4, orI] at h2
      · simp [h4, orI] at h2
  · intro h2
    simp [h2]
theorem bs_min {X : List T2} (h : ascB (roIds X) = true) : ∀ k, k < X.length → ∃ b, bsN X [] (k + 1) = some b ∧ b < k + 1 ∧ X.getD b (0, 0) = minR X (k + 1) := by
  intro k
  induction k with
  | zero => intro _; exact ⟨0, bs_new rfl rfl rfl, by omega, (minR_one X).symm⟩
  | succ k ih =>
    intro hk
    obtain ⟨b, h1, h2, h3⟩ := ih (by omega)
    have hlt : (X.getD b (0, 0)).1 < (X.getD (k + 1) (0, 0)).1 := by
      have := asc_lt h b (k + 1) (by unfold roIds; simpa using hk) h2
      rw [rD hk, rD (show b < X.length by omega)]
      simpa [roIds] using this
    have hc := bs_cmp (S := []) (X := X) (k := k + 1) rfl rfl h1 rfl
    by_cases h4 : (X.getD b (0, 0)).2 < (X.getD (k + 1) (0, 0)).2
    · rw [if_pos h4] at hc
      exact ⟨k + 1, hc, by omega, (minR_lt rfl h3.symm ((rcmp_asc hlt).2 h4)).symm⟩
    · rw [if_neg h4] at hc
      refine ⟨b, hc, by omega, ?_⟩
      rw [minR_ge rfl h3.symm (fun h5 => h4 ((rcmp_asc hlt).1 h5))]
def larI (X : List T2) : Int := if roB X then (minR X X.length).1 else 0
theorem lar_no {X : List T2} (h : roB X = false) : larI X = 0 := by unfold larI; rw [h]; rfl
theorem lar_yes {X : List T2} (h : roB X = true) : larI X = (minR X X.length).1 := by unfold larI; rw [if_pos h]
theorem lar_nil {X : List T2} (h : X.length = 0) : larI X = 0 := by
  have : X = [] := List.length_eq_zero_iff.1 h
  subst this
  unfold larI; split <;> rfl
/-- The first of the first k with this Id that the model finds: the last one. -/
def lstI (X : List T2) (a : Int) : Nat → Option Nat
  | 0 => none
  | k + 1 => if (X.getD k (0, 0)).1 = a then some k else lstI X a k
theorem lst_hit {X : List T2} {a : Int} {k : Nat} {x : T2} (hx : X.getD k (0, 0) = x) (h : x.1 = a) : lstI X a (k + 1) = some k := by
  show (if (X.getD k (0, 0)).1 = a then _ else _) = _
  rw [hx, if_pos h]
theorem lst_no {X : List T2} {a : Int} {k : Nat} {x : T2} (hx : X.getD k (0, 0) = x) (h : x.1 ≠ a) : lstI X a (k + 1) = lstI X a k := by
  show (if (X.getD k (0, 0)).1 = a then _ else _) = _
  rw [hx, if_neg h]
theorem lst_lt {X : List T2} {a : Int} : ∀ {k b : Nat}, lstI X a k = some b → b < k ∧ (X.getD b (0, 0)).1 = a := by
  intro k
  induction k with
  | zero => intro b h; cases h
  | succ k ih =>
    intro b h
    by_cases hc : (X.getD k (0, 0)).1 = a
    · rw [lst_hit rfl hc] at h; injection h with h; subst h; exact ⟨by omega, hc⟩
    · rw [lst_no rfl hc] at h; have := ih h; exact ⟨by omega, this.2⟩
theorem lst_none {X : List T2} {a : Int} : ∀ {k : Nat}, (∀ j, j < k → (X.getD j (0, 0)).1 ≠ a) → lstI X a k = none := by
  intro k
  induction k with
  | zero => intro _; rfl
  | succ k ih => intro h; rw [lst_no rfl (h k (by omega)), ih (fun j hj => h j (by omega))]
/-- Under ascending Ids the one found is the only one. -/
theorem lst_at {X : List T2} {a : Int} (h : ascB (roIds X) = true) {b : Nat} (hb : b < X.length) (e : (X.getD b (0, 0)).1 = a) : lstI X a X.length = some b := by
  cases hl : lstI X a X.length with
  | none =>
    exfalso
    have : ∀ k, b < k → lstI X a k ≠ none := by
      intro k
      induction k with
      | zero => intro h; omega
      | succ k ih =>
        intro hk
        by_cases hc : (X.getD k (0, 0)).1 = a
        · rw [lst_hit rfl hc]; simp
        · rw [lst_no rfl hc]
          have : b ≠ k := fun q => hc (q ▸ e)
          exact ih (by omega)
    exact this _ hb hl
  | some c =>
    have := lst_lt hl
    have e2 : (roIds X)[c]'(by unfold roIds; simpa using this.1) = (roIds X)[b]'(by unfold roIds; simpa using hb) := by
      have h1 := this.2
      rw [rD this.1] at h1
      rw [rD hb] at e
      simp [roIds, h1, e]
    have := asc_inj h _ _ e2
    rw [this]
/-- Those turned away of the first k: none where a room is not known or a count is not allowed. -/
def tawS (X : List T2) (H S : List Int) : Nat → Option Int
  | 0 => some 0
  | k + 1 => match tawS X H S k, lstI X (S.getD k 0) X.length with
    | some z, some b => if inr (H.getD k 0) 0 10000 then some (z + mx 0 (H.getD k 0 - (X.getD b (0, 0)).2)) else none
    | _, _ => none
def tawI (X : List T2) (H S : List Int) : Int := if roB X && decide (S.length = H.length) then (match tawS X H S S.length with | some z => z | none => -1) else -1
theorem taw_bad1 {X : List T2} {H S : List Int} {k : Nat} {a : Int} (ha : S.getD k 0 = a) (h : lstI X a X.length = none) : tawS X H S (k + 1) = none := by
  show (match tawS X H S k, lstI X (S.getD k 0) X.length with | some z, some b => _ | _, _ => none) = none
  rw [ha, h]
  split
  · rename_i h1 h2; cases h2
  · rfl
theorem taw_bad2 {X : List T2} {H S : List Int} {k : Nat} {c : Int} (hc : H.getD k 0 = c) (h : inr c 0 10000 = false) : tawS X H S (k + 1) = none := by
  show (match tawS X H S k, lstI X (S.getD k 0) X.length with | some z, some b => if inr (H.getD k 0) 0 10000 then _ else none | _, _ => none) = none
  split
  · rw [hc, h]; rfl
  · rfl
theorem taw_ok {X : List T2} {H S : List Int} {k b : Nat} {a c z : Int} {x : T2} (ha : S.getD k 0 = a) (hc : H.getD k 0 = c) (h : inr c 0 10000 = true) (h2 : lstI X a X.length = some b) (hx : X.getD b (0, 0) = x) (h3 : tawS X H S k = some z) : tawS X H S (k + 1) = some (z + mx 0 (c - x.2)) := by
  show (match tawS X H S k, lstI X (S.getD k 0) X.length with | some z, some b => if inr (H.getD k 0) 0 10000 then some (z + mx 0 (H.getD k 0 - (X.getD b (0, 0)).2)) else none | _, _ => none) = _
  rw [h3, ha, h2]
  simp only [hc, hx, h, if_true]
theorem taw_none {X : List T2} {H S : List Int} {k : Nat} (h : tawS X H S k = none) : ∀ m, k ≤ m → tawS X H S m = none := by
  intro m
  induction m with
  | zero => intro h2; have : k = 0 := by omega
            subst this; exact h
  | succ m ih =>
    intro h2
    rcases Nat.eq_or_lt_of_le h2 with e | e
    · rw [← e]; exact h
    · show (match tawS X H S m, lstI X (S.getD m 0) X.length with | some z, some b => _ | _, _ => none) = none
      rw [ih (by omega)]
theorem taw_in {X : List T2} {H S : List Int} (hr : roB X = true) : ∀ {k : Nat} {z : Int}, tawS X H S k = some z → 0 ≤ z ∧ z ≤ 10000 * (k : Int) := by
  intro k
  induction k with
  | zero => intro z h; injection h with h; omega
  | succ k ih =>
    intro z h
    cases h1 : tawS X H S k with
    | none => rw [taw_none h1 (k + 1) (by omega)] at h; cases h
    | some y =>
      cases h2 : lstI X (S.getD k 0) X.length with
      | none => rw [taw_bad1 rfl h2] at h; cases h
      | some b =>
        cases h3 : inr (H.getD k 0) 0 10000 with
        | false => rw [taw_bad2 rfl h3] at h; cases h
        | true =>
          rw [taw_ok rfl rfl h3 h2 rfl h1] at h
          injection h with h
          have := ih h1
          have hb := (lst_lt h2).1
          have hs := (ro_parts hr).2.1 X[b] (List.getElem_mem _)
          rw [rD hb] at h
          have h4 : 0 ≤ H.getD k 0 ∧ H.getD k 0 ≤ 10000 := by unfold inr at h3; simpa using h3
          unfold mx at h
          split at h <;> omega
theorem taw_noB {X : List T2} {H S : List Int} (h : roB X = false) : tawI X H S = -1 := by unfold tawI; rw [h]; rfl
theorem taw_noL {X : List T2} {H S : List Int} (h : S.length ≠ H.length) : tawI X H S = -1 := by unfold tawI; rw [decide_eq_false h, Bool.and_false]; rfl
theorem taw_noS {X : List T2} {H S : List Int} {k : Nat} (hk : k ≤ S.length) (h : tawS X H S k = none) : tawI X H S = -1 := by unfold tawI; rw [taw_none h _ hk]; split <;> rfl
theorem taw_end {X : List T2} {H S : List Int} {z : Int} (h1 : roB X = true) (h2 : S.length = H.length) (h : tawS X H S S.length = some z) : tawI X H S = z := by unfold tawI; rw [h1, decide_eq_true h2, h]; rfl
end Go.Proofs.Ytjjgdeojbpcjjaa
