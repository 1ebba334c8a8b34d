/- Contracts of the models of chapter 12: l12Find, IsStore, MustAdmit. Condition: the slices have at most 2^40 elements. -/
import Derived.Test.YtignchefkihdaaaFndMath
import Derived.Test.YtignchefkihdaaaTabM3
import Derived.Test.YtignchefkihdaaaEqI
import Derived.Test.YtignchefkihdaaaMg6
namespace Go.Proofs.Ytignchefkihdaaa
open Go.ChangeShapes Go.WideShapes Go.ChangeAt Go.RowKit
set_option maxRecDepth 100000
theorem FS_info : (Try.prog.info? 25).map (fun i => (i.zero, i.size, i.bytes)) = some (some (.slice none 0 0), 1, 24) := by kernel_rfl
section
variable {w : World} {A A' : Option Addr} {n c n' c' : Nat} {X : List (List Int)} {f : List Int}
theorem rdSS_take {B : Nat} (h : RdSS w B A X) (k : Nat) : RdSS w B A (X.take k) := fun j x hx => by
  rw [List.getElem?_take] at hx
  split at hx
  · exact h j x hx
  · cases hx
theorem specFind_any (hl : Hid (X.length = n)) (hn : n ≤ 1099511627776) (hs : Hid (∀ x ∈ X, x.length ≤ 1099511627776)) (hr : RdSS w w.heap.size A X) (hl' : Hid (f.length = n')) (hn' : n' ≤ 1099511627776) (hr' : Rd w w.heap.size A' (ivs f)) :
    Calls Try.prog 159 #[.slice A n c, .slice A' n' c'] w (fun e w' => e = .returned (.int .i64 (fndI X f)) ∧ Below w.heap.size w w') := by
  have HR := Lib.hid hr
  have HR' := Lib.hid hr'
  clear hr hr'
  go_enter Try.func159, Try.ntmps159
  go_wp2
  go_loopw [5] (fun i wr => ∃ k : Nat, k ≤ n ∧ i = .int .i64 k ∧ Below w.heap.size w wr ∧ Hid (∀ j (hj : j < k) (hx : j < X.length), X[j] ≠ f)) (fun i _ => n - (intOf i).toNat)
  case atStart => exact ⟨0, Nat.zero_le _, rfl, Below.refl _ _, Lib.hid (fun j hj => absurd hj (Nat.not_lt_zero _))⟩
  case round =>
    obtain ⟨k, hk, rfl, hbw, hno⟩ := hrel
    have hsz := hbw.size
    by_cases hlt : k < n
    · have hkz : k < X.length := by rw [hl.out]; exact hlt
      obtain ⟨ad, Aj, cj, rfl, hab, hc, _, _, hrd⟩ := ((HR.out.below hbw).more hsz).at_ hkz
      have hxl := hs.out X[k] (List.getElem_mem _)
      have HYS := Lib.hid (fun (h : decide (X[k] = f) = true) => fnd_at hkz (of_decide_eq_true h) (fun j hj => hno.out j hj (by omega)))
      have HNX := Lib.hid (show decide (X[k] = f) = false → ∀ j (hj : j < k + 1) (hx : j < X.length), X[j] ≠ f from fun h j hj hx => by
        by_cases e : j = k
        · subst e; exact of_decide_eq_false h
        · exact hno.out j (by omega) hx)
      obtain ⟨x, hx⟩ : ∃ x, x = X[k] := ⟨_, rfl⟩
      rw [← hx] at hc hrd hxl HNX HYS
      have i0 : (0 : Int) ≤ (k : Int) := by omega
      obtain ⟨b, hb⟩ : ∃ b, b = decide (x = f) := ⟨_, rfl⟩
      have HB := Lib.hid hb.symm
      rw [← hb] at HNX HYS
      clear hx hno hb
      go_wp2_with fail
      refine (specEqualInts_any (zs := x) (ys := f) (Lib.hid rfl) hl' (by omega) (by omega) hrd ((HR'.out.below hbw).more hsz)).mono ?_
      rintro e w1 ⟨he, r⟩
      rw [HB.out] at he
      subst he
      have q := hbw.trans (r.mono hsz)
      cases b with
      | true =>
        go_wp2_with fail
        go_ret
        exact ⟨ret_i (HYS.out (by trivial)).symm, q⟩
      | false =>
        go_wp2_with fail
        go_roundw
        case rel => exact ⟨k + 1, by omega, by go_num, q, Lib.hid (HNX.out (by trivial))⟩
        case measure => simp [intOf]; omega
    · have e : k = n := by omega
      subst e
      have HV := Lib.hid (show fndI X f = -1 from fnd_none fun j hj => hno.out j (by rw [← hl.out]; exact hj) hj)
      go_wp2
      go_ret
      exact ⟨ret_i HV.out.symm, hbw⟩
set_option maxHeartbeats 2000000 in
theorem specIsStore_any (hl : Hid (X.length = n)) (hn : n ≤ 1099511627776) (hc : n ≤ c) (hs : Hid (∀ x ∈ X, x.length ≤ 1099511627776)) (hr : RdSS w w.heap.size A X) :
    Calls Try.prog 156 #[.slice A n c] w (Tells (storeB X) w) := by
  obtain ⟨i0, hi, hz0, hz1, hz2⟩ := info_parts FS_info
  have zz : ∀ w, (Go.sizeOf 25).run Try.prog w = .ok 1 w := fun w => by simp [sizeOf, typeInfo, hi, hz1]
  have HR := Lib.hid hr
  clear hr
  go_enter Try.func156, Try.ntmps156
  go_wp2_with fail
  go_loopw [3] (fun i wr => ∃ k : Nat, k ≤ n ∧ i = .int .i64 k ∧ Below w.heap.size w wr ∧ Hid (∀ j, j < k → dupS X j = false)) (fun i _ => n - (intOf i).toNat)
  case atStart => exact ⟨0, Nat.zero_le _, rfl, Below.refl _ _, Lib.hid (fun j hj => absurd hj (Nat.not_lt_zero _))⟩
  case round =>
    obtain ⟨k, hk, rfl, hbw, hno⟩ := hrel
    have hsz := hbw.size
    by_cases hlt : k < n
    · have hkz : k < X.length := by rw [hl.out]; exact hlt
      have HRW := Lib.hid ((HR.out.below hbw).more hsz)
      obtain ⟨ad, Aj, cj, rfl, hab, hc2, _, _, hrd⟩ := HRW.out.at_ hkz
      have hxl := hs.out X[k] (List.getElem_mem _)
      have HP := Lib.hid (dup_pre hkz)
      have HYS := Lib.hid (fun (h : dupS X k = true) => difB_bad hkz h)
      have HNX := Lib.hid (fun (h : dupS X k = false) => lt_step hno.out h)
      obtain ⟨x, hx⟩ : ∃ x, x = X[k] := ⟨_, rfl⟩
      rw [← hx] at hc2 hrd hxl HP
      obtain ⟨y, hy⟩ : ∃ y, y = fndI (X.take k) x := ⟨_, rfl⟩
      obtain ⟨b, hb⟩ : ∃ b, b = dupS X k := ⟨_, rfl⟩
      rw [← hy, ← hb] at HP
      rw [← hb] at HYS HNX
      have HY := Lib.hid hy.symm
      have i0 : (0 : Int) ≤ (k : Int) := by omega
      have hs1 := fun (w : World) => run_to w 24 25 Try.underlying24 zz (some ad) (n := n) (c := c) (k := k) (by omega)
      have HTS := Lib.hid (show ∀ z ∈ X.take k, z.length ≤ 1099511627776 from fun z hz => hs.out z (List.mem_of_mem_take hz))
      have HTL := Lib.hid (show (X.take k).length = k by rw [List.length_take]; omega)
      have hdb : decide (0 ≤ y) = b := HP.out
      clear hx hno hy hb
      go_wp2_with fail
      go_region_law (first | (go_simp; go_at_call 159; refine (specFind_any (X := X.take k) (f := x) (A := some ad) (Lib.hid HTL.out) (by omega) HTS (by exact rdSS_take HRW.out k) (Lib.hid rfl) hxl (by exact hrd)).mono ?_; rintro e u1 ⟨he, r⟩; rw [HY.out] at he; subst he; have q1 : Below wr.heap.size wr u1 := (by first | exact r | exact (Below.refl _ _).drew.trans r)))
      all_goals
        have q := hbw.trans (q1.mono hsz)
        cases b with
        | true =>
          have HV := Lib.hid (show storeB X = false by rw [storeB_eq, HYS.out (by trivial)]; rfl)
          go_wp2_with fail
          go_ret
          exact ⟨ret_b HV.out.symm, q⟩
        | false =>
          go_wp2_with fail
          go_roundw
          case rel => exact ⟨k + 1, by omega, by go_num, q, Lib.hid (HNX.out (by trivial))⟩
          case measure => simp [intOf]; omega
    · have e : k = n := by omega
      subst e
      have hd : difB X = true := difB_good fun j hj => hno.out j (by rw [← hl.out]; exact hj)
      have HV := Lib.hid (show storeB X = (decide ((k : Int) ≤ 12) && canR X) by rw [storeB_eq, hd, Bool.true_and, hl.out]; congr 1; rw [decide_eq_decide]; omega)
      clear hd
      by_cases h12 : (k : Int) ≤ 12
      · have hd12 : decide ((k : Int) ≤ 12) = true := decide_eq_true h12
        rw [hd12] at HV
        clear hd12
        go_wp2_with fail
        refine (specCanHold_any hl hn hs ((HR.out.below hbw).more hsz)).mono ?_
        rintro e w2 ⟨rfl, r⟩
        go_wp2_with fail
        go_ret
        exact ⟨ret_b (by rw [HV.out]; rfl), hbw.trans (r.mono hsz)⟩
      · have hd12 : decide ((k : Int) ≤ 12) = false := decide_eq_false h12
        rw [hd12] at HV
        go_wp2_with fail
        go_ret
        exact ⟨ret_b (by rw [HV.out]; rfl), hbw⟩
end
end Go.Proofs.Ytignchefkihdaaa
