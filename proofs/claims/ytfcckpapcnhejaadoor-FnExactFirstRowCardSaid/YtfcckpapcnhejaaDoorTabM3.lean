/- Contracts of the models of chapter 11: CanHold, Follows, AreAlike, FirstRow, IsAlways. Condition: the slices have at most 2^40 elements. -/
import Derived.Test.YtfcckpapcnhejaaDoorTabM2
namespace Go.Proofs.YtfcckpapcnhejaaDoor
open Go.ChangeShapes Go.WideShapes Go.ChangeAt Go.RowKit
set_option maxRecDepth 100000
theorem canR_row {X : List (List Int)} {m : Nat} (hok : okR X = true) (hm : m < 64) (h : allR X m = true) : canR X = true := by
  unfold canR
  rw [hok, Bool.true_and, List.any_eq_true]
  exact ⟨m, List.mem_range.2 hm, h⟩
theorem canR_none {X : List (List Int)} (h : ∀ j, j < 64 → allR X j = false) : canR X = false := by
  unfold canR
  have : (List.range 64).any (allR X) = false := by
    rw [List.any_eq_false]
    intro j hj
    rw [h j (List.mem_range.1 hj)]
    simp
  rw [this, Bool.and_false]
theorem lt_step {P : Nat → Prop} {m : Nat} (h : ∀ j, j < m → P j) (hm : P m) : ∀ j, j < m + 1 → P j := fun j hj => by
  by_cases e : j = m
  · subst e; exact hm
  · exact h j (by omega)
section
variable {w : World} {A A' : Option Addr} {n c n' c' : Nat} {X : List (List Int)} {f : List Int}
theorem folR_bad {m : Nat} (hm : m < 64) (h : allR X m = true) (hv : valR f m = false) : folR X f = false := by
  unfold folR
  have : ((List.range 64).all fun m => !(allR X m) || valR f m) = false := by
    refine all_bad (k := m) (by simpa using hm) ?_
    simp [h, hv]
  rw [this, Bool.and_false]
theorem folR_good (h : ∀ j, j < 64 → (allR X j = true → valR f j = true)) : folR X f = (okR X && isF f) := by
  unfold folR
  have : ((List.range 64).all fun m => !(allR X m) || valR f m) = true := by
    rw [List.all_eq_true]
    intro m hm
    have := h m (List.mem_range.1 hm)
    cases ha : allR X m with
    | false => rfl
    | true => rw [this ha]; rfl
  rw [this, Bool.and_true]
theorem alkR_bad {a b : List Int} {m : Nat} (hm : m < 64) (h : valR a m ≠ valR b m) : alkR a b = false := by
  unfold alkR
  have : ((List.range 64).all fun m => valR a m == valR b m) = false := by
    refine all_bad (k := m) (by simpa using hm) ?_
    simpa using h
  rw [this, Bool.and_false]
theorem alkR_good {a b : List Int} (h : ∀ j, j < 64 → valR a j = valR b j) : alkR a b = (isF a && isF b) := by
  unfold alkR
  have : ((List.range 64).all fun m => valR a m == valR b m) = true := by
    rw [List.all_eq_true]
    intro m hm
    simpa using h m (List.mem_range.1 hm)
  rw [this, Bool.and_true]
theorem fstR_at {m : Nat} (hm : m < 64) (h : valR f m = true) (hno : ∀ j, j < m → valR f j = false) : fstR f = (m : Int) := by
  have hf : (List.range 64).find? (valR f) = some m := by
    rw [List.find?_eq_some_iff_getElem]
    refine ⟨h, m, by simpa using hm, by simp, fun j hj => ?_⟩
    simp [hno j hj]
  unfold fstR
  rw [hf]
theorem fstR_no (hno : ∀ j, j < 64 → valR f j = false) : fstR f = -1 := by
  have hf : (List.range 64).find? (valR f) = none := List.find?_eq_none.2 fun m hm => by rw [hno m (List.mem_range.1 hm)]; simp
  unfold fstR
  rw [hf]
theorem specFirstRow_any (hl : Hid (f.length = n)) (hn : n ≤ 1099511627776) (hr : Rd w w.heap.size A (ivs f)) :
    Calls Tryd.prog 4 #[.slice A n c] w (fun e w' => e = .returned (.int .i64 (fstR f)) ∧ Below w.heap.size w w') := by
  have HR := Lib.hid hr
  clear hr
  go_enter Tryd.func4, Tryd.ntmps4
  go_wp2_with fail
  go_loopw [3] (fun i wr => ∃ m : Nat, m ≤ 64 ∧ i = .int .i64 m ∧ Below w.heap.size w wr ∧ Hid (∀ j, j < m → valR f j = false)) (fun i _ => 64 - (intOf i).toNat)
  case atStart => exact ⟨0, Nat.zero_le _, rfl, Below.refl _ _, Lib.hid (fun j hj => absurd hj (Nat.not_lt_zero _))⟩
  case round =>
    obtain ⟨m, hm, rfl, hbw, hno⟩ := hrel
    have hsz := hbw.size
    by_cases hlt : m < 64
    · have HNX := Lib.hid (fun (h : valR f m = false) => lt_step hno.out h)
      have HYS := Lib.hid (fun (h : valR f m = true) => fstR_at hlt h hno.out)
      obtain ⟨p, hp⟩ : ∃ p, p = valR f m := ⟨_, rfl⟩
      rw [← hp] at HNX HYS
      have HP : Hid (valB f (rowR m) = p) := Lib.hid hp.symm
      clear hp
      go_wp2_with fail
      refine (l11Row_any hlt).mono ?_
      rintro e u1 ⟨v, rfl, hrow, r1⟩
      obtain ⟨Ab, cb, rfl, hrb, _, _⟩ := hrow.rd (n := 6) (by rw [bls_len, rowR_len])
      have q1 := hbw.trans (r1.mono hsz)
      go_wp2_with fail
      refine (specValue_any (f := f) (L := rowR m) hl hn ((HR.out.below q1).more q1.size) (Lib.hid (rowR_len m)) hrb).mono ?_
      rintro e u2 ⟨he, r2⟩
      rw [HP.out] at he
      subst he
      have q2 := q1.trans (r2.mono q1.size)
      cases p with
      | true =>
        go_wp2_with fail
        go_ret
        exact ⟨ret_i (HYS.out (by trivial)).symm, q2⟩
      | false =>
        go_wp2_with fail
        go_roundw
        case rel => exact ⟨m + 1, by omega, by go_num, q2, Lib.hid (HNX.out (by trivial))⟩
        case measure => simp [intOf]; omega
    · have e : m = 64 := by omega
      subst e
      have HV := Lib.hid (fstR_no hno.out)
      go_wp2_with fail
      go_ret
      exact ⟨ret_i HV.out.symm, hbw⟩
end
end Go.Proofs.YtfcckpapcnhejaaDoor
