/- Contracts of the code of chapter 13: cmp.Compare, slices.BinarySearchFunc, placeOfPoint. Condition: the points have at most 2^40 elements. -/
import Derived.Test.YtignchefkihdaaaRaiMath
import Derived.Test.YtignchefkihdaaaPntC
namespace Go.Proofs.Ytignchefkihdaaa
open Go.ChangeShapes Go.WideShapes Go.ChangeAt Go.RowKit
set_option maxRecDepth 100000
def cmpZ (a b : Int) : Int := if a < b then -1 else if b < a then 1 else 0
theorem cmpZ_lt {a b : Int} : cmpZ a b < 0 ↔ a < b := by
  unfold cmpZ
  split
  · simp [*]
  · split <;> omega
theorem cmpZ_eq {a b : Int} : cmpZ a b = 0 ↔ a = b := by
  unfold cmpZ
  split
  · omega
  · split <;> omega
theorem isNaN_any {w : World} {a : Int} : Calls Try.prog 153 #[.int .i64 a] w (fun e w' => e = .returned (.bool false) ∧ w = w') := by
  have h : (a != a) = false := by simp
  go_enter Try.func153, Try.ntmps153
  go_wp2_with fail
  go_ret
  exact ⟨rfl, rfl⟩
set_option maxHeartbeats 1000000 in
theorem cmpInt_any {w : World} {a b : Int} : Calls Try.prog 137 #[.int .i64 a, .int .i64 b] w (fun e w' => e = .returned (.int .i64 (cmpZ a b)) ∧ w = w') := by
  by_cases h1 : a < b
  · have HV := Lib.hid (show cmpZ a b = -1 by unfold cmpZ; rw [if_pos h1])
    go_enter Try.func137, Try.ntmps137
    go_wp2_with fail
    refine isNaN_any.mono ?_
    rintro e u ⟨rfl, rfl⟩
    go_wp2_with fail
    refine isNaN_any.mono ?_
    rintro e u ⟨rfl, rfl⟩
    go_wp2_with fail
    go_ret
    exact ⟨ret_i HV.out.symm, rfl⟩
  · by_cases h2 : b < a
    · have HV := Lib.hid (show cmpZ a b = 1 by unfold cmpZ; rw [if_neg h1, if_pos h2])
      go_enter Try.func137, Try.ntmps137
      go_wp2_with fail
      refine isNaN_any.mono ?_
      rintro e u ⟨rfl, rfl⟩
      go_wp2_with fail
      refine isNaN_any.mono ?_
      rintro e u ⟨rfl, rfl⟩
      go_wp2_with fail
      go_ret
      exact ⟨ret_i HV.out.symm, rfl⟩
    · have HV := Lib.hid (show cmpZ a b = 0 by unfold cmpZ; rw [if_neg h1, if_neg h2])
      go_enter Try.func137, Try.ntmps137
      go_wp2_with fail
      refine isNaN_any.mono ?_
      rintro e u ⟨rfl, rfl⟩
      go_wp2_with fail
      refine isNaN_any.mono ?_
      rintro e u ⟨rfl, rfl⟩
      go_wp2_with fail
      go_ret
      exact ⟨ret_i HV.out.symm, rfl⟩
set_option maxHeartbeats 1000000 in
theorem place1_any {w : World} {a b c k : Int} : Calls Try.prog 136 #[.agg #[.int .i64 a, .int .i64 b, .int .i64 c], .int .i64 k] w (fun e w' => e = .returned (.int .i64 (cmpZ a k)) ∧ Below w.heap.size w w') := by
  have hb := alloc_new' w (Obj.cells #[.int .i64 a, .int .i64 b, .int .i64 c] 48)
  go_enter Try.func136, Try.ntmps136
  go_wp2_with fail
  refine cmpInt_any.mono ?_
  rintro e u ⟨rfl, rfl⟩
  go_wp2_with fail
  go_ret
  exact ⟨rfl, hb⟩
/-- What the search hands back. -/
def Found (X : List T3) (k : Int) (w : World) (e : Ending) (w' : World) : Prop :=
  ∃ (p : Nat) (f : Bool), e = .returned (.tuple #[.int .i64 (p : Int), .bool f]) ∧ Plc X k p ∧ f = (decide (p < X.length) && decide ((X.getD p (0, 0, 0)).1 = k)) ∧ Below w.heap.size w w'
set_option maxHeartbeats 4000000 in
theorem bin_any {w : World} {A : Option Addr} {n c : Nat} {k : Int} {X : List T3} (hl : Hid (X.length = n)) (hn : n ≤ 1099511627776) (hr : Rd w w.heap.size A (t3s X)) :
    Calls Try.prog 135 #[.slice A n c, .int .i64 k, .func (.func 136) #[] #[]] w (Found X k w) := by
  have HR := Lib.hid hr
  clear hr
  go_enter Try.func135, Try.ntmps135
  go_wp2_with fail
  go_loopw [9, 10] (fun s t wr => ∃ i j : Nat, i ≤ j ∧ j ≤ n ∧ s = .int .i64 i ∧ t = .int .i64 j ∧ Hid ((∀ q, q + 1 = i → (X.getD q (0, 0, 0)).1 < k) ∧ (j < n → ¬ (X.getD j (0, 0, 0)).1 < k)) ∧ Below w.heap.size w wr) (fun s t _ => (intOf t - intOf s).toNat)
  case atStart => exact ⟨0, n, Nat.zero_le _, Nat.le_refl _, rfl, rfl, Lib.hid ⟨fun q h => by omega, fun h => absurd h (by omega)⟩, Below.refl _ _⟩
  case round =>
    obtain ⟨i, j, hij, hjn, rfl, rfl, hI, hb⟩ := hrel
    have hsz := hb.size
    by_cases hlt : i < j
    · obtain ⟨h, hh⟩ : ∃ h, h = (i + j) / 2 := ⟨_, rfl⟩
      have hh1 : i ≤ h := by omega
      have hh2 : h < j := by omega
      have hdiv : ((i : Int) + (j : Int)) / 2 = (h : Int) := by omega
      have hkz : h < X.length := by rw [hl.out]; omega
      obtain ⟨ad, p, rfl, hp, hab, c0, c1, c2⟩ := t3_cells ((HR.out.below hb).more hsz) hkz
      have HG := Lib.hid (getT hkz)
      obtain ⟨x, hx⟩ : ∃ x, x = X[h] := ⟨_, rfl⟩
      rw [← hx] at c0 c1 c2 HG
      have i0 : (0 : Int) ≤ (h : Int) := by omega
      have i1 : (h : Int) < (n : Int) := by omega
      clear hx hh
      go_wp2_with fail
      refine place1_any.mono ?_
      rintro e u ⟨rfl, r⟩
      obtain ⟨z, hz⟩ : ∃ z, cmpZ x.1 k = z := ⟨_, rfl⟩
      have hzl : z < 0 ↔ x.1 < k := by rw [← hz]; exact cmpZ_lt
      rw [hz]
      have hbu := hb.trans (r.mono hsz)
      have HI := Lib.hid hI.out
      have w1 := IntWalk.i64_in ((h : Int) + 1) (by omega)
      clear hz r hb hdiv c0 c1 c2 hI
      by_cases hneg : z < 0
      · have HX := Lib.hid (hzl.1 hneg)
        clear hzl
        go_wp2_with fail
        go_roundw
        case rel => exact ⟨h + 1, j, by omega, hjn, by go_num, rfl, Lib.hid ⟨fun q hq => by have : q = h := (by omega); subst this; rw [HG.out]; exact HX.out, fun hq => by have := HI.out.2 hq; omega⟩, hbu⟩
        case measure => simp [intOf]; omega
      · have HX := Lib.hid (fun e => hneg (hzl.2 e))
        clear hzl
        go_wp2_with fail
        go_roundw
        case rel => exact ⟨i, h, by omega, by omega, rfl, by go_num, Lib.hid ⟨HI.out.1, fun _ => by rw [HG.out]; exact HX.out⟩, hbu⟩
        case measure => simp [intOf]; omega
    · have e : j = i := by omega
      subst e
      have HP := Lib.hid (show Plc X k j from ⟨by rw [hl.out]; exact hjn, hI.out.1, fun h => hI.out.2 (by rw [← hl.out]; exact h)⟩)
      by_cases hjl : j < n
      · have hkz : j < X.length := by rw [hl.out]; exact hjl
        obtain ⟨ad, p, rfl, hp, hab, c0, c1, c2⟩ := t3_cells ((HR.out.below hb).more hsz) hkz
        have HF := Lib.hid (show (decide (j < X.length) && decide ((X.getD j (0, 0, 0)).1 = k)) = decide (X[j].1 = k) by rw [decide_eq_true hkz, getT hkz, Bool.true_and])
        obtain ⟨x, hx⟩ : ∃ x, x = X[j] := ⟨_, rfl⟩
        rw [← hx] at c0 c1 c2 HF
        have i0 : (0 : Int) ≤ (j : Int) := by omega
        have i1 : (j : Int) < (n : Int) := by omega
        clear hx hI
        go_wp2_with fail
        refine place1_any.mono ?_
        rintro e u ⟨rfl, r⟩
        obtain ⟨z, hz⟩ : ∃ z, cmpZ x.1 k = z := ⟨_, rfl⟩
        have hzl : z = 0 ↔ x.1 = k := by rw [← hz]; exact cmpZ_eq
        rw [hz]
        have hbu := hb.trans (r.mono hsz)
        clear hz r hb c0 c1 c2
        by_cases hz0 : z = 0
        · have HX := Lib.hid (hzl.1 hz0)
          have hzb : (z == 0) = true := by simpa using hz0
          clear hzl hz0
          go_wp2_with fail
          refine bodyPost_ret (v := .tuple #[.int .i64 (j : Int), .bool true]) (by simp [results, Try.results135, go_sem]) rfl ?_
          exact ⟨j, true, rfl, HP.out, by rw [HF.out, decide_eq_true HX.out], hbu⟩
        · have HX := Lib.hid (fun e => hz0 (hzl.2 e))
          have hzb : (z == 0) = false := by simpa using hz0
          clear hzl hz0
          go_wp2_with fail
          refine bodyPost_ret (v := .tuple #[.int .i64 (j : Int), .bool false]) (by simp [results, Try.results135, go_sem]) rfl ?_
          exact ⟨j, false, rfl, HP.out, by rw [HF.out, decide_eq_false HX.out], hbu⟩
      · have HF := Lib.hid (show (decide (j < X.length) && decide ((X.getD j (0, 0, 0)).1 = k)) = false by rw [decide_eq_false (by rw [hl.out]; exact hjl), Bool.false_and])
        have i1 : ¬ (j : Int) < (n : Int) := by omega
        go_wp2_with fail
        refine bodyPost_ret (v := .tuple #[.int .i64 (j : Int), .bool false]) (by simp [results, Try.results135, go_sem]) rfl ?_
        exact ⟨j, false, rfl, HP.out, HF.out.symm, hb⟩
theorem placeOf_any {w : World} {A : Option Addr} {n c : Nat} {k : Int} {X : List T3} (hl : Hid (X.length = n)) (hn : n ≤ 1099511627776) (hr : Rd w w.heap.size A (t3s X)) :
    Calls Try.prog 90 #[.slice A n c, .int .i64 k] w (Found X k w) := by
  have HR := Lib.hid hr
  clear hr
  go_enter Try.func90, Try.ntmps90
  go_wp2_with fail
  refine (bin_any hl hn HR.out).mono ?_
  rintro e u ⟨p, f, rfl, hp, hf, hb⟩
  have HP := Lib.hid (And.intro hp hf)
  clear hp hf
  go_wp2_with fail
  refine bodyPost_ret (v := .tuple #[.int .i64 (p : Int), .bool f]) (by simp [results, Try.results90, go_sem]) rfl ?_
  exact ⟨p, f, rfl, HP.out.1, HP.out.2, hb⟩
end Go.Proofs.Ytignchefkihdaaa
