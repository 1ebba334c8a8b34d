/- Contracts of the code of chapter 12: placeOf, areDifferent, IsStore, MustAdmit. Condition: the slices have at most 2^40 elements. -/
import Derived.Test.YtignchefkihdaaaFndMath
import Derived.Test.YtignchefkihdaaaTabC3
import Derived.Test.YtignchefkihdaaaEqI
namespace Go.Proofs.Ytignchefkihdaaa
open Go.ChangeShapes Go.WideShapes Go.ChangeAt Go.RowKit
set_option maxRecDepth 100000
section
variable {w : World} {A A' : Option Addr} {n c n' c' : Nat} {X : List (List Int)} {f : List Int}
theorem placeF_any {g : Nat} {x : List Int} (hg : w.cell? ⟨g, 0, none⟩ = some (.slice A' n' c')) (hl : Hid (x.length = n)) (hn : n ≤ 1099511627776) (hr : Rd w w.heap.size A (ivs x)) (hl' : Hid (f.length = n')) (hn' : n' ≤ 1099511627776) (hr' : Rd w w.heap.size A' (ivs f)) :
    Calls Try.prog 127 #[.slice A n c, .pointer (some ⟨g, 0, none⟩)] w (Tells (decide (x = f)) w) := by
  go_enter Try.func127, Try.ntmps127
  go_wp2_with fail
  refine (impEqualInts_any (zs := x) (ys := f) hl hl' (by omega) (by omega) hr hr').mono ?_
  rintro e w1 ⟨rfl, r⟩
  go_wp2_with fail
  go_ret
  exact ⟨rfl, r⟩
theorem indexF_any {g : Nat} (hg : w.cell? ⟨g, 0, none⟩ = some (.slice A' n' c')) (hl : Hid (X.length = n)) (hn : n ≤ 1099511627776) (hs : Hid (∀ x ∈ X, x.length ≤ 1099511627776)) (hr : RdSS w w.heap.size A X) (hl' : Hid (f.length = n')) (hn' : n' ≤ 1099511627776) (hr' : Rd w w.heap.size A' (ivs f)) :
    Calls Try.prog 126 #[.slice A n c, .func (.func 127) #[] #[.pointer (some ⟨g, 0, none⟩)]] w (fun e w' => e = .returned (.int .i64 (fndI X f)) ∧ Below w.heap.size w w') := by
  have HR := Lib.hid hr
  have HR' := Lib.hid hr'
  have HG := Lib.hid hg
  clear hr hr' hg
  go_enter Try.func126, Try.ntmps126
  go_wp2_with fail
  go_loopw [8] (fun i wr => ∃ k : Nat, k ≤ n ∧ i = .int .i64 k ∧ Below w.heap.size w wr ∧ Hid (∀ j (hj : j < k) (hx : j < X.length), X[j] ≠ f)) (fun i _ => n - (intOf i).toNat)
  case atStart => exact ⟨0, Nat.zero_le _, rfl, Below.refl _ _, Lib.hid (fun j hj => absurd hj (Nat.not_lt_zero _))⟩
  case round =>
    obtain ⟨k, hk, rfl, hbw, hno⟩ := hrel
    have hsz := hbw.size
    by_cases hlt : k < n
    · have hkz : k < X.length := by rw [hl.out]; exact hlt
      obtain ⟨ad, Aj, cj, rfl, hab, hc, _, _, hrd⟩ := ((HR.out.below hbw).more hsz).at_ hkz
      have hxl := hs.out X[k] (List.getElem_mem _)
      have HYS := Lib.hid (fun (h : decide (X[k] = f) = true) => fnd_at hkz (of_decide_eq_true h) (fun j hj => hno.out j hj (by omega)))
      have HNX := Lib.hid (show decide (X[k] = f) = false → ∀ j (hj : j < k + 1) (hx : j < X.length), X[j] ≠ f from fun h j hj hx => by
        by_cases e : j = k
        · subst e; exact of_decide_eq_false h
        · exact hno.out j (by omega) hx)
      obtain ⟨x, hx⟩ : ∃ x, x = X[k] := ⟨_, rfl⟩
      rw [← hx] at hc hrd hxl HNX HYS
      have i0 : (0 : Int) ≤ (k : Int) := by omega
      obtain ⟨b, hb⟩ : ∃ b, b = decide (x = f) := ⟨_, rfl⟩
      have HB := Lib.hid hb.symm
      rw [← hb] at HNX HYS
      have HG2 := Lib.hid ((hbw.cell (p := ⟨g, 0, none⟩) (cell_lt HG.out)).trans HG.out)
      clear hx hno hb
      go_wp2_with fail
      refine (placeF_any (x := x) (f := f) HG2.out (Lib.hid rfl) hxl hrd hl' hn' ((HR'.out.below hbw).more hsz)).mono ?_
      rintro e w1 ⟨he, r⟩
      rw [HB.out] at he
      subst he
      have q := hbw.trans (r.mono hsz)
      cases b with
      | true =>
        go_wp2_with fail
        go_ret
        exact ⟨ret_i (HYS.out (by trivial)).symm, q⟩
      | false =>
        go_wp2_with fail
        go_roundw
        case rel => exact ⟨k + 1, by omega, by go_num, q, Lib.hid (HNX.out (by trivial))⟩
        case measure => simp [intOf]; omega
    · have e : k = n := by omega
      subst e
      have HV := Lib.hid (show fndI X f = -1 from fnd_none fun j hj => hno.out j (by rw [← hl.out]; exact hj) hj)
      go_wp2_with fail
      go_ret
      exact ⟨ret_i HV.out.symm, hbw⟩
theorem placeOf_any (hl : Hid (X.length = n)) (hn : n ≤ 1099511627776) (hs : Hid (∀ x ∈ X, x.length ≤ 1099511627776)) (hr : RdSS w w.heap.size A X) (hl' : Hid (f.length = n')) (hn' : n' ≤ 1099511627776) (hr' : Rd w w.heap.size A' (ivs f)) :
    Calls Try.prog 75 #[.slice A n c, .slice A' n' c'] w (fun e w' => e = .returned (.int .i64 (fndI X f)) ∧ Below w.heap.size w w') := by
  have bx := Bx.made w 25 #[.slice A' n' c']
  have hb := alloc_new w (Obj.cells #[.slice A' n' c'] 25)
  obtain ⟨W1, hW⟩ : ∃ v : World, v = w.alloc (Obj.cells #[.slice A' n' c'] 25) := ⟨_, rfl⟩
  rw [← hW] at bx hb
  have HW := Lib.hid hW.symm
  have HR := Lib.hid ((hr.below hb).more hb.size)
  have HR' := Lib.hid ((hr'.below hb).more hb.size)
  have HG := Lib.hid (bx.at_ (k := 0) (v := .slice A' n' c') rfl)
  clear hW hr hr'
  go_enter Try.func75, Try.ntmps75
  go_wp2_with fail
  rw [HW.out]
  refine (indexF_any HG.out hl hn hs HR.out hl' hn' HR'.out).mono ?_
  rintro e w1 ⟨rfl, r⟩
  go_wp2_with fail
  go_ret
  exact ⟨rfl, hb.trans (r.mono hb.size)⟩
theorem areDiff_any (hl : Hid (X.length = n)) (hn : n ≤ 1099511627776) (hs : Hid (∀ x ∈ X, x.length ≤ 1099511627776)) (hr : RdSS w w.heap.size A X) :
    Calls Try.prog 73 #[.slice A n c] w (Tells (difB X) w) := by
  have HR := Lib.hid hr
  clear hr
  go_enter Try.func73, Try.ntmps73
  go_wp2_with fail
  go_loopw [7] (fun i wr => ∃ k : Nat, k ≤ n ∧ i = .int .i64 k ∧ Below w.heap.size w wr ∧ Hid (∀ j, j < k → dupS X j = false)) (fun i _ => n - (intOf i).toNat)
  case atStart => exact ⟨0, Nat.zero_le _, rfl, Below.refl _ _, Lib.hid (fun j hj => absurd hj (Nat.not_lt_zero _))⟩
  case round =>
    obtain ⟨k, hk, rfl, hbw, hno⟩ := hrel
    have hsz := hbw.size
    by_cases hlt : k < n
    · have hkz : k < X.length := by rw [hl.out]; exact hlt
      have HRW := Lib.hid ((HR.out.below hbw).more hsz)
      obtain ⟨ad, Aj, cj, rfl, hab, hc2, _, _, hrd⟩ := HRW.out.at_ hkz
      have hxl := hs.out X[k] (List.getElem_mem _)
      have HP := Lib.hid (dup_fnd hkz)
      have HYS := Lib.hid (fun (h : dupS X k = true) => difB_bad hkz h)
      have HNX := Lib.hid (show dupS X k = false → ∀ j, j < k + 1 → dupS X j = false from fun h j hj => by
        by_cases e : j = k
        · subst e; exact h
        · exact hno.out j (by omega))
      obtain ⟨x, hx⟩ : ∃ x, x = X[k] := ⟨_, rfl⟩
      rw [← hx] at hc2 hrd hxl HP
      obtain ⟨y, hy⟩ : ∃ y, y = fndI X x := ⟨_, rfl⟩
      obtain ⟨b, hb⟩ : ∃ b, b = dupS X k := ⟨_, rfl⟩
      rw [← hy, ← hb] at HP
      rw [← hb] at HYS HNX
      have HY := Lib.hid hy.symm
      have i0 : (0 : Int) ≤ (k : Int) := by omega
      have hdb : decide (y < (k : Int)) = b := HP.out
      clear hx hno hy hb
      go_wp2_with fail
      refine (placeOf_any (X := X) (f := x) hl hn hs HRW.out (Lib.hid rfl) hxl hrd).mono ?_
      rintro e u1 ⟨he, r⟩
      rw [HY.out] at he
      subst he
      have q := hbw.trans (r.mono hsz)
      cases b with
      | true =>
        have HV := Lib.hid (HYS.out (by trivial))
        go_wp2_with fail
        go_ret
        exact ⟨ret_b HV.out.symm, q⟩
      | false =>
        go_wp2_with fail
        go_roundw
        case rel => exact ⟨k + 1, by omega, by go_num, q, Lib.hid (HNX.out (by trivial))⟩
        case measure => simp [intOf]; omega
    · have e : k = n := by omega
      subst e
      have HV := Lib.hid (show difB X = true from difB_good fun j hj => hno.out j (by rw [← hl.out]; exact hj))
      go_wp2_with fail
      go_ret
      exact ⟨ret_b HV.out.symm, hbw⟩
theorem impIsStore_any (hl : Hid (X.length = n)) (hn : n ≤ 1099511627776) (hs : Hid (∀ x ∈ X, x.length ≤ 1099511627776)) (hr : RdSS w w.heap.size A X) :
    Calls Try.prog 16 #[.slice A n c] w (Tells (storeB X) w) := by
  obtain ⟨b, hb⟩ : ∃ b, b = canR X := ⟨_, rfl⟩
  have HB := Lib.hid hb.symm
  have HV := Lib.hid (show storeB X = (decide ((n : Int) ≤ 12) && b && difB X) by
    rw [storeB_eq, hb, hl.out, show decide ((n : Int) ≤ 12) = decide (n ≤ 12) by rw [decide_eq_decide]; omega]
    cases difB X <;> cases canR X <;> simp)
  clear hb
  by_cases h12 : (n : Int) ≤ 12
  · have hd12 : decide ((n : Int) ≤ 12) = true := decide_eq_true h12
    rw [hd12] at HV
    clear hd12
    go_enter Try.func16, Try.ntmps16
    go_wp2_with fail
    refine (impCanHold_any hl hn hr).mono ?_
    rintro e w1 ⟨he, r⟩
    rw [HB.out] at he
    subst he
    cases b with
    | false =>
      go_wp2_with fail
      go_ret
      exact ⟨ret_b (by rw [HV.out]; rfl), r⟩
    | true =>
      go_wp2_with fail
      refine (areDiff_any hl hn hs ((hr.below r).more r.size)).mono ?_
      rintro e w2 ⟨rfl, r2⟩
      go_wp2_with fail
      go_ret
      exact ⟨ret_b (by rw [HV.out]; rfl), r.trans (r2.mono r.size)⟩
  · have hd12 : decide ((n : Int) ≤ 12) = false := decide_eq_false h12
    rw [hd12] at HV
    go_enter Try.func16, Try.ntmps16
    go_wp2_with fail
    go_ret
    exact ⟨ret_b (by rw [HV.out]; rfl), Below.refl _ _⟩
theorem impMustAdmit_any (hl : Hid (X.length = n)) (hn : n ≤ 1000000000000) (hc : n ≤ c) (hcm : c ≤ maxLen) (hs : Hid (∀ x ∈ X, x.length ≤ 1099511627776)) (hr : RdSS w w.heap.size A X) (hl' : Hid (f.length = n')) (hc' : n' ≤ c') (hcm' : c' ≤ maxLen) (hr' : Rd w w.heap.size A' (ivs f)) :
    Calls Try.prog 17 #[.slice A n c, .slice A' n' c'] w (Tells (admF X f) w) := by
  obtain ⟨b, hb⟩ : ∃ b, b = storeB X := ⟨_, rfl⟩
  have HB := Lib.hid hb.symm
  have HV := Lib.hid (show admF X f = (b && folR X f) by rw [hb]; rfl)
  clear hb
  go_enter Try.func17, Try.ntmps17
  go_wp2_with fail
  refine (impIsStore_any hl (by omega) hs hr).mono ?_
  rintro e w1 ⟨he, r⟩
  rw [HB.out] at he
  subst he
  cases b with
  | false =>
    go_wp2_with fail
    go_ret
    exact ⟨ret_b (by rw [HV.out]; rfl), r⟩
  | true =>
    go_wp2_with fail
    refine (impFollows_any hl hn hc hcm ((hr.below r).more r.size) hl' hc' hcm' ((hr'.below r).more r.size)).mono ?_
    rintro e w2 ⟨rfl, r2⟩
    go_wp2_with fail
    go_ret
    exact ⟨ret_b (by rw [HV.out]; rfl), r.trans (r2.mono r.size)⟩
end
end Go.Proofs.Ytignchefkihdaaa
