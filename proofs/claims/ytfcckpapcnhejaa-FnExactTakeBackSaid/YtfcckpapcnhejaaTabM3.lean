/- Contracts of the models of chapter 11: CanHold, Follows, AreAlike, FirstRow, IsAlways. Condition: the slices have at most 2^40 elements. -/
import Derived.Test.YtfcckpapcnhejaaTabM2
namespace Go.Proofs.Ytfcckpapcnhejaa
open Go.ChangeShapes Go.WideShapes Go.ChangeAt Go.RowKit
set_option maxRecDepth 100000
theorem canR_row {X : List (List Int)} {m : Nat} (hok : okR X = true) (hm : m < 64) (h : allR X m = true) : canR X = true := by
  unfold canR
  rw [hok, Bool.true_and, List.any_eq_true]
  exact ⟨m, List.mem_range.2 hm, h⟩
theorem canR_none {X : List (List Int)} (h : ∀ j, j < 64 → allR X j = false) : canR X = false := by
  unfold canR
  have : (List.range 64).any (allR X) = false := by
    rw [List.any_eq_false]
    intro j hj
    rw [h j (List.mem_range.1 hj)]
    simp
  rw [this, Bool.and_false]
theorem lt_step {P : Nat → Prop} {m : Nat} (h : ∀ j, j < m → P j) (hm : P m) : ∀ j, j < m + 1 → P j := fun j hj => by
  by_cases e : j = m
  · subst e; exact hm
  · exact h j (by omega)
section
variable {w : World} {A A' : Option Addr} {n c n' c' : Nat} {X : List (List Int)} {f : List Int}
theorem specCanHold_any (hl : Hid (X.length = n)) (hn : n ≤ 1099511627776) (hs : Hid (∀ x ∈ X, x.length ≤ 1099511627776)) (hr : RdSS w w.heap.size A X) :
    Calls Try.prog 19 #[.slice A n c] w (Tells (canR X) w) := by
  have HR := Lib.hid hr
  by_cases hok : okR X = true
  · have HOK := Lib.hid hok
    clear hok hr
    go_enter Try.func19, Try.ntmps19
    go_wp2_with fail
    go_loopw [3] (fun i wr => ∃ m : Nat, m ≤ 64 ∧ i = .int .i64 m ∧ Below w.heap.size w wr ∧ Hid (∀ j, j < m → allR X j = false)) (fun i _ => 64 - (intOf i).toNat)
    case atStart => exact ⟨0, Nat.zero_le _, rfl, Below.refl _ _, Lib.hid (fun j hj => absurd hj (Nat.not_lt_zero _))⟩
    case round =>
      obtain ⟨m, hm, rfl, hbw, hno⟩ := hrel
      have hsz := hbw.size
      by_cases hlt : m < 64
      · have HNX := Lib.hid (fun (h : allR X m = false) => lt_step hno.out h)
        have HYS := Lib.hid (fun (h : allR X m = true) => canR_row HOK.out hlt h)
        obtain ⟨b, hb⟩ : ∃ b, b = allR X m := ⟨_, rfl⟩
        rw [← hb] at HNX HYS
        have HB := Lib.hid hb.symm
        clear hb
        go_wp2_with fail
        refine (specL11Ok_any hl hn hs ((HR.out.below hbw).more hsz)).mono ?_
        rintro e w1 ⟨rfl, rfl⟩
        rw [HOK.out]
        go_wp2_with fail
        refine (specL11All_any hlt hl hn hs ((HR.out.below hbw).more hsz)).mono ?_
        rintro e w2 ⟨he, r⟩
        rw [HB.out] at he
        subst he
        have q := hbw.trans (r.mono hsz)
        cases b with
        | true =>
          go_wp2_with fail
          go_ret
          exact ⟨ret_b (HYS.out (by trivial)).symm, q⟩
        | false =>
          go_wp2_with fail
          go_roundw
          case rel => exact ⟨m + 1, by omega, by go_num, q, Lib.hid (HNX.out (by trivial))⟩
          case measure => simp [intOf]; omega
      · have e : m = 64 := by omega
        subst e
        have HV := Lib.hid (canR_none hno.out)
        go_wp2_with fail
        go_ret
        exact ⟨ret_b HV.out.symm, hbw⟩
  · have HOK := Lib.hid (show okR X = false by simpa using hok)
    have HV := Lib.hid (show canR X = false by unfold canR; rw [HOK.out]; rfl)
    clear hok hr
    go_enter Try.func19, Try.ntmps19
    go_wp2_with fail
    go_loopw [3] (fun i wr => ∃ m : Nat, m ≤ 64 ∧ i = .int .i64 m ∧ Below w.heap.size w wr) (fun i _ => 64 - (intOf i).toNat)
    case atStart => exact ⟨0, Nat.zero_le _, rfl, Below.refl _ _⟩
    case round =>
      obtain ⟨m, hm, rfl, hbw⟩ := hrel
      have hsz := hbw.size
      by_cases hlt : m < 64
      · go_wp2_with fail
        refine (specL11Ok_any hl hn hs ((HR.out.below hbw).more hsz)).mono ?_
        rintro e w1 ⟨rfl, rfl⟩
        rw [HOK.out]
        go_wp2_with fail
        go_ret
        exact ⟨ret_b HV.out.symm, hbw⟩
      · have e : m = 64 := by omega
        subst e
        go_wp2_with fail
        go_ret
        exact ⟨ret_b HV.out.symm, hbw⟩
theorem folR_bad {m : Nat} (hm : m < 64) (h : allR X m = true) (hv : valR f m = false) : folR X f = false := by
  unfold folR
  have : ((List.range 64).all fun m => !(allR X m) || valR f m) = false := by
    refine all_bad (k := m) (by simpa using hm) ?_
    simp [h, hv]
  rw [this, Bool.and_false]
theorem folR_good (h : ∀ j, j < 64 → (allR X j = true → valR f j = true)) : folR X f = (okR X && isF f) := by
  unfold folR
  have : ((List.range 64).all fun m => !(allR X m) || valR f m) = true := by
    rw [List.all_eq_true]
    intro m hm
    have := h m (List.mem_range.1 hm)
    cases ha : allR X m with
    | false => rfl
    | true => rw [this ha]; rfl
  rw [this, Bool.and_true]
set_option maxHeartbeats 2000000 in
theorem specFollows_any (hl : Hid (X.length = n)) (hn : n ≤ 1099511627776) (hs : Hid (∀ x ∈ X, x.length ≤ 1099511627776)) (hr : RdSS w w.heap.size A X) (hl' : Hid (f.length = n')) (hn' : n' ≤ 1099511627776) (hr' : Rd w w.heap.size A' (ivs f)) :
    Calls Try.prog 23 #[.slice A n c, .slice A' n' c'] w (Tells (folR X f) w) := by
  have HR := Lib.hid hr
  have HR' := Lib.hid hr'
  clear hr hr'
  go_enter Try.func23, Try.ntmps23
  go_wp2_with fail
  go_loopw [5] (fun i wr => ∃ m : Nat, m ≤ 64 ∧ i = .int .i64 m ∧ Below w.heap.size w wr ∧ Hid (∀ j, j < m → (allR X j = true → valR f j = true))) (fun i _ => 64 - (intOf i).toNat)
  case atStart => exact ⟨0, Nat.zero_le _, rfl, Below.refl _ _, Lib.hid (fun j hj => absurd hj (Nat.not_lt_zero _))⟩
  case round =>
    obtain ⟨m, hm, rfl, hbw, hno⟩ := hrel
    have hsz := hbw.size
    by_cases hlt : m < 64
    · have HNX := Lib.hid (fun (h : allR X m = true → valR f m = true) => lt_step hno.out h)
      have HYS := Lib.hid (fun (h : allR X m = true) (hv : valR f m = false) => folR_bad hlt h hv)
      obtain ⟨b, hb⟩ : ∃ b, b = allR X m := ⟨_, rfl⟩
      obtain ⟨d, hd⟩ : ∃ d, d = valR f m := ⟨_, rfl⟩
      rw [← hb, ← hd] at HNX HYS
      have HB := Lib.hid hb.symm
      have HD : Hid (valB f (rowR m) = d) := Lib.hid hd.symm
      clear hb hd
      go_wp2_with fail
      refine (specL11All_any hlt hl hn hs ((HR.out.below hbw).more hsz)).mono ?_
      rintro e w2 ⟨he, r⟩
      rw [HB.out] at he
      subst he
      have q := hbw.trans (r.mono hsz)
      cases b with
      | false =>
        go_wp2_with fail
        go_roundw
        case rel => exact ⟨m + 1, by omega, by go_num, q, Lib.hid (HNX.out (fun h => by first | cases h | exact absurd h (by simp)))⟩
        case measure => simp [intOf]; omega
      | true =>
        go_wp2_with fail
        refine (l11Row_any hlt).mono ?_
        rintro e u1 ⟨v, rfl, hrow, r1⟩
        obtain ⟨Ab, cb, rfl, hrb, _, _⟩ := hrow.rd (n := 6) (by rw [bls_len, rowR_len])
        have q1 := q.trans (r1.mono q.size)
        go_wp2_with fail
        refine (specValue_any (f := f) (L := rowR m) hl' hn' ((HR'.out.below q1).more q1.size) (Lib.hid (rowR_len m)) hrb).mono ?_
        rintro e u2 ⟨he, r2⟩
        rw [HD.out] at he
        subst he
        have q2 := q1.trans (r2.mono q1.size)
        cases d with
        | true =>
          go_wp2_with fail
          go_roundw
          case rel => exact ⟨m + 1, by omega, by go_num, q2, Lib.hid (HNX.out (fun _ => by trivial))⟩
          case measure => simp [intOf]; omega
        | false =>
          go_wp2_with fail
          go_ret
          exact ⟨ret_b (HYS.out (by trivial) (by trivial)).symm, q2⟩
    · have e : m = 64 := by omega
      subst e
      have HV := Lib.hid (folR_good hno.out)
      obtain ⟨b, hb⟩ : ∃ b, b = okR X := ⟨_, rfl⟩
      have HB := Lib.hid hb.symm
      rw [← hb] at HV
      clear hb
      go_wp2_with fail
      refine (specL11Ok_any hl hn hs ((HR.out.below hbw).more hsz)).mono ?_
      rintro e w1 ⟨he, rfl⟩
      rw [HB.out] at he
      subst he
      cases b with
      | false =>
        go_wp2_with fail
        go_ret
        exact ⟨ret_b (by rw [HV.out]; rfl), hbw⟩
      | true =>
        go_wp2_with fail
        refine (specIsFormula_any (f := f) hl' hn' ((HR'.out.below hbw).more hsz)).mono ?_
        rintro e w1 ⟨rfl, rfl⟩
        go_wp2_with fail
        go_ret
        exact ⟨ret_b (by rw [HV.out]; rfl), hbw⟩
theorem alkR_bad {a b : List Int} {m : Nat} (hm : m < 64) (h : valR a m ≠ valR b m) : alkR a b = false := by
  unfold alkR
  have : ((List.range 64).all fun m => valR a m == valR b m) = false := by
    refine all_bad (k := m) (by simpa using hm) ?_
    simpa using h
  rw [this, Bool.and_false]
theorem alkR_good {a b : List Int} (h : ∀ j, j < 64 → valR a j = valR b j) : alkR a b = (isF a && isF b) := by
  unfold alkR
  have : ((List.range 64).all fun m => valR a m == valR b m) = true := by
    rw [List.all_eq_true]
    intro m hm
    simpa using h m (List.mem_range.1 hm)
  rw [this, Bool.and_true]
set_option maxHeartbeats 2000000 in
theorem specAreAlike_any {a b : List Int} (hl : Hid (a.length = n)) (hn : n ≤ 1099511627776) (hr : Rd w w.heap.size A (ivs a)) (hl' : Hid (b.length = n')) (hn' : n' ≤ 1099511627776) (hr' : Rd w w.heap.size A' (ivs b)) :
    Calls Try.prog 27 #[.slice A n c, .slice A' n' c'] w (Tells (alkR a b) w) := by
  have HR := Lib.hid hr
  have HR' := Lib.hid hr'
  clear hr hr'
  go_enter Try.func27, Try.ntmps27
  go_wp2_with fail
  go_loopw [5] (fun i wr => ∃ m : Nat, m ≤ 64 ∧ i = .int .i64 m ∧ Below w.heap.size w wr ∧ Hid (∀ j, j < m → valR a j = valR b j)) (fun i _ => 64 - (intOf i).toNat)
  case atStart => exact ⟨0, Nat.zero_le _, rfl, Below.refl _ _, Lib.hid (fun j hj => absurd hj (Nat.not_lt_zero _))⟩
  case round =>
    obtain ⟨m, hm, rfl, hbw, hno⟩ := hrel
    have hsz := hbw.size
    by_cases hlt : m < 64
    · have HNX := Lib.hid (fun (h : valR a m = valR b m) => lt_step hno.out h)
      have HYS := Lib.hid (fun (h : valR a m ≠ valR b m) => alkR_bad hlt h)
      obtain ⟨p, hp⟩ : ∃ p, p = valR a m := ⟨_, rfl⟩
      obtain ⟨q, hq⟩ : ∃ q, q = valR b m := ⟨_, rfl⟩
      rw [← hp, ← hq] at HNX HYS
      have HP : Hid (valB a (rowR m) = p) := Lib.hid hp.symm
      have HQ : Hid (valB b (rowR m) = q) := Lib.hid hq.symm
      clear hp hq
      go_wp2_with fail
      refine (l11Row_any hlt).mono ?_
      rintro e u1 ⟨v, rfl, hrow, r1⟩
      obtain ⟨Ab, cb, rfl, hrb, _, _⟩ := hrow.rd (n := 6) (by rw [bls_len, rowR_len])
      have q1 := hbw.trans (r1.mono hsz)
      go_wp2_with fail
      refine (specValue_any (f := a) (L := rowR m) hl hn ((HR.out.below q1).more q1.size) (Lib.hid (rowR_len m)) hrb).mono ?_
      rintro e u2 ⟨he, r2⟩
      rw [HP.out] at he
      subst he
      have q2 := q1.trans (r2.mono q1.size)
      clear hrow hrb
      go_wp2_with fail
      refine (l11Row_any hlt).mono ?_
      rintro e u3 ⟨v, rfl, hrow, r3⟩
      obtain ⟨Ab, cb, rfl, hrb, _, _⟩ := hrow.rd (n := 6) (by rw [bls_len, rowR_len])
      have q3 := q2.trans (r3.mono q2.size)
      go_wp2_with fail
      refine (specValue_any (f := b) (L := rowR m) hl' hn' ((HR'.out.below q3).more q3.size) (Lib.hid (rowR_len m)) hrb).mono ?_
      rintro e u4 ⟨he, r4⟩
      rw [HQ.out] at he
      subst he
      have q4 := q3.trans (r4.mono q3.size)
      cases p <;> cases q
      · go_wp2_with fail
        go_roundw
        case rel => exact ⟨m + 1, by omega, by go_num, q4, Lib.hid (HNX.out (by trivial))⟩
        case measure => simp [intOf]; omega
      · go_wp2_with fail
        go_ret
        exact ⟨ret_b (HYS.out (by simp)).symm, q4⟩
      · go_wp2_with fail
        go_ret
        exact ⟨ret_b (HYS.out (by simp)).symm, q4⟩
      · go_wp2_with fail
        go_roundw
        case rel => exact ⟨m + 1, by omega, by go_num, q4, Lib.hid (HNX.out (by trivial))⟩
        case measure => simp [intOf]; omega
    · have e : m = 64 := by omega
      subst e
      have HV := Lib.hid (alkR_good hno.out)
      obtain ⟨p, hp⟩ : ∃ p, p = isF a := ⟨_, rfl⟩
      have HP := Lib.hid hp.symm
      rw [← hp] at HV
      clear hp
      go_wp2_with fail
      refine (specIsFormula_any (f := a) hl hn ((HR.out.below hbw).more hsz)).mono ?_
      rintro e w1 ⟨he, rfl⟩
      rw [HP.out] at he
      subst he
      cases p with
      | false =>
        go_wp2_with fail
        go_ret
        exact ⟨ret_b (by rw [HV.out]; rfl), hbw⟩
      | true =>
        go_wp2_with fail
        refine (specIsFormula_any (f := b) hl' hn' ((HR'.out.below hbw).more hsz)).mono ?_
        rintro e w1 ⟨rfl, rfl⟩
        go_wp2_with fail
        go_ret
        exact ⟨ret_b (by rw [HV.out]; rfl), hbw⟩
theorem specIsAlways_any (hl : Hid (f.length = n)) (hn : n ≤ 1099511627776) (hr : Rd w w.heap.size A (ivs f)) :
    Calls Try.prog 14 #[.slice A n c] w (Tells (alwR f) w) := by
  have HV := Lib.hid (show alwR f = ((cntR f : Int) == 64) by unfold alwR; rw [Bool.eq_iff_iff, beq_iff_eq, beq_iff_eq]; omega)
  have hc := cntR_le f
  go_enter Try.func14, Try.ntmps14
  go_wp2_with fail
  refine (specCountRows_any (f := f) hl hn hr).mono ?_
  rintro e w1 ⟨rfl, hb⟩
  go_wp2_with fail
  go_ret
  exact ⟨ret_b HV.out.symm, hb⟩
theorem fstR_at {m : Nat} (hm : m < 64) (h : valR f m = true) (hno : ∀ j, j < m → valR f j = false) : fstR f = (m : Int) := by
  have hf : (List.range 64).find? (valR f) = some m := by
    rw [List.find?_eq_some_iff_getElem]
    refine ⟨h, m, by simpa using hm, by simp, fun j hj => ?_⟩
    simp [hno j hj]
  unfold fstR
  rw [hf]
theorem fstR_no (hno : ∀ j, j < 64 → valR f j = false) : fstR f = -1 := by
  have hf : (List.range 64).find? (valR f) = none := List.find?_eq_none.2 fun m hm => by rw [hno m (List.mem_range.1 hm)]; simp
  unfold fstR
  rw [hf]
end
end Go.Proofs.Ytfcckpapcnhejaa
