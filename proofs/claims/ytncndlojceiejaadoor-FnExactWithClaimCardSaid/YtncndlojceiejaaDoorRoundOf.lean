/- Contracts of the code's Grounded and RoundOf. No conditions but that the slices have at most 2^40 elements. -/
import Derived.Test.YtncndlojceiejaaDoorGrounded
import Derived.Test.YtncndlojceiejaaDoorGroundM2
namespace Go.Proofs.YtncndlojceiejaaDoor
open Go.ChangeShapes Go.WideShapes Go.ChangeAt Go.RowKit Go.Shelf
attribute [local go_sem] Oper.semAt_some
set_option maxRecDepth 100000
theorem stop_it {N : Int} {X : List (List Int)} {K : Nat} (hK : itB (rn N X) (rf N X) (K + 1) = itB (rn N X) (rf N X) K) (hgrow : ∀ j, j < K → itB (rn N X) (rf N X) (j + 1) ≠ itB (rn N X) (rf N X) j) : itS N X K = grd N X :=
  it_fix' (fun j hj e => hgrow j hj ((itB_eq N X _ _).2 e)) ((itB_eq N X _ _).1 hK)
/-- 'has' of what stands after k rounds. -/
theorem has_it (N : Int) (X : List (List Int)) (c : Int) (k : Nat) : (inr c 0 9 && (itB (rn N X) (rf N X) k).testBit c.toNat) = (itS N X k).contains c := by
  rw [itB_code, bS_bit]
  by_cases h : inr c 0 9 = true
  · have h' : 0 ≤ c ∧ c ≤ 9 := by simpa [inr] using h
    obtain ⟨j, rfl⟩ := Int.eq_ofNat_of_zero_le h'.1
    have : j < 10 := by omega
    rw [h, Int.toNat_natCast, decide_eq_true this]
    simp
  · rw [show inr c 0 9 = false by simpa using h, Bool.false_and]
    symm
    rw [← Bool.not_eq_true]
    intro hc
    have hm : c ∈ itS N X k := by simpa using hc
    by_cases hg : gB N X = true
    · have h0 := hg
      obtain ⟨n, rfl, hn, hp, _⟩ := gB_ok hg
      obtain ⟨p, rfl, hlt⟩ := set_lt h0 (it_set h0 hp k) hm
      exact h (inr_t (by omega) (by omega))
    · rw [it_none (by simpa using hg)] at hm
      cases hm
theorem rndT_hit {N : Int} {X : List (List Int)} {c : Int} {x : Nat} (hx : (itS N X (x + 1)).contains c = true) (hno : ∀ y, y < x → (itS N X (y + 1)).contains c = false) : ∀ fu k, k ≤ x → x < k + fu → rndT N X c fu k = ((x + 1 : Nat) : Int)
  | 0, k, h1, h2 => absurd h2 (by omega)
  | fu + 1, k, h1, h2 => by
    unfold rndT
    by_cases e : k = x
    · subst e
      rw [hx]; rfl
    · rw [hno k (by omega)]
      exact rndT_hit hx hno fu (k + 1) (by omega) (by omega)
theorem rndT_miss {N : Int} {X : List (List Int)} {c : Int} (hno : ∀ y, (itS N X (y + 1)).contains c = false) : ∀ fu k, rndT N X c fu k = -1
  | 0, k => rfl
  | fu + 1, k => by
    unfold rndT
    rw [hno k]
    exact rndT_miss hno fu (k + 1)
section
variable {N : Int} {X : List (List Int)} {c : Int} {K : Nat} (hK : itB (rn N X) (rf N X) (K + 1) = itB (rn N X) (rf N X) K) (hgrow : ∀ j, j < K → itB (rn N X) (rf N X) (j + 1) ≠ itB (rn N X) (rf N X) j)
include hK hgrow
theorem rnd_hit {x : Nat} (hxK : x < K) (hx : (inr c 0 9 && (itB (rn N X) (rf N X) (x + 1)).testBit c.toNat) = true) (hno : ∀ y, y < x → (inr c 0 9 && (itB (rn N X) (rf N X) (y + 1)).testBit c.toNat) = false) : rnd N X c = (x : Int) + 1 := by
  rw [has_it] at hx
  have hno' : ∀ y, y < x → (itS N X (y + 1)).contains c = false := fun y hy => by rw [← has_it]; exact hno y hy
  unfold rnd
  by_cases hg : gB N X = true
  · rw [if_pos hg]
    obtain ⟨n, rfl, hn, hp, _⟩ := gB_ok hg
    have h1 := itS_many n X K (fun j hj e => hgrow j hj ((itB_eq n X _ _).2 e))
    have h2 := it_len (n := n) (X := X) K
    rw [rndT_hit hx hno' _ 0 (by omega) (by rw [Int.toNat_natCast]; omega)]
    push_cast
    rfl
  · rw [it_none (by simpa using hg)] at hx
    simp at hx
omit hgrow in
theorem rnd_miss (hno : ∀ y, y < K → (inr c 0 9 && (itB (rn N X) (rf N X) (y + 1)).testBit c.toNat) = false) : rnd N X c = -1 := by
  unfold rnd
  split
  · refine rndT_miss (fun y => ?_) _ _
    rw [← has_it]
    by_cases h : y < K
    · exact hno y h
    · have hst : itB (rn N X) (rf N X) (y + 1) = itB (rn N X) (rf N X) K := by
        rw [itB_eq]
        have := it_stay ((itB_eq N X _ _).1 hK) (y + 1 - K)
        rw [show K + (y + 1 - K) = y + 1 by omega] at this
        exact this
      rw [hst]
      cases K with
      | zero => simp [itB]
      | succ K => exact hno K (by omega)
  · rfl
end
set_option maxHeartbeats 2000000 in
theorem impGrounded_any {w : World} {A : Option Addr} {n c : Nat} {N : Int} {X : List (List Int)} (hl : Hid (X.length = n)) (hn : n ≤ 1099511627776) (hr : RdSS w w.heap.size A X) :
    Calls Tryd.prog 23 #[.agg #[.int .i64 N, .slice A n c]] w (Fresh 3 (ivs (grd N X)) w) := by
  have hb1 : Below w.heap.size w (w.alloc (Obj.cells #[Value.int IntKind.i64 N, Value.slice A n c] 27)) := (Below.refl _ _).alloc (Nat.le_refl _) _
  have HR := Lib.hid hr
  clear hr
  go_enter Tryd.func23, Tryd.ntmps23
  go_wp2_with fail
  obtain ⟨W1, hW⟩ : ∃ u : World, u = w.alloc (Obj.cells #[Value.int IntKind.i64 N, Value.slice A n c] 27) := ⟨_, rfl⟩
  rw [← hW] at hb1 ⊢
  clear hW
  refine (rowsOf_any hl hn ((HR.out.below hb1).more hb1.size)).mono ?_
  rintro e w2 ⟨rfl, hb2⟩
  have hb3 := hb1.trans (hb2.mono hb1.size)
  obtain ⟨K, hK10, hK, hgrow⟩ := stop_ex N X
  have HQ := Lib.hid (show lsT (itB (rn N X) (rf N X) K) 10 = grd N X by rw [lsT_itB]; exact stop_it hK hgrow)
  obtain ⟨r0, r1⟩ := rn_le N X
  have hfl := rf_lt N X
  generalize rf N X = f at hfl HQ hK hgrow ⊢
  generalize rn N X = m at r0 r1 HQ hK hgrow ⊢
  go_wp2_with fail
  refine (grounded_any r0 r1 hfl hK10 hK hgrow).mono ?_
  rintro e w3 ⟨rfl, hb4⟩
  have hb5 := hb3.trans (hb4.mono hb3.size)
  have hx := Nat.lt_trans (itB_lt r1 f K) (show 1024 < 65536 by decide)
  go_wp2_with fail
  refine (list_any hx).mono ?_
  rintro e w4 ⟨v, rfl, hrow, hb6⟩
  go_wp2_with fail
  go_ret
  exact ⟨v, rfl, by rw [← HQ.out]; exact hrow.wide hb5.size (Nat.le_refl _), hb5.trans (hb6.mono hb5.size)⟩
end Go.Proofs.YtncndlojceiejaaDoor
