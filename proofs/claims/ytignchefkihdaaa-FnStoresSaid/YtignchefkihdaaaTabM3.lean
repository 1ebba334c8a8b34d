/- Contracts of the models of chapter 11: CanHold, Follows, AreAlike, FirstRow, IsAlways. Condition: the slices have at most 2^40 elements. -/
import Derived.Test.YtignchefkihdaaaTabM2
namespace Go.Proofs.Ytignchefkihdaaa
open Go.ChangeShapes Go.WideShapes Go.ChangeAt Go.RowKit
set_option maxRecDepth 100000
theorem canR_row {X : List (List Int)} {m : Nat} (hok : okR X = true) (hm : m < 64) (h : allR X m = true) : canR X = true := by
  unfold canR
  rw [hok, Bool.true_and, List.any_eq_true]
  exact ⟨m, List.mem_range.2 hm, h⟩
theorem canR_none {X : List (List Int)} (h : ∀ j, j < 64 → allR X j = false) : canR X = false := by
  unfold canR
  have : (List.range 64).any (allR X) = false := by
    rw [List.any_eq_false]
    intro j hj
    rw [h j (List.mem_range.1 hj)]
    simp
  rw [this, Bool.and_false]
theorem lt_step {P : Nat → Prop} {m : Nat} (h : ∀ j, j < m → P j) (hm : P m) : ∀ j, j < m + 1 → P j := fun j hj => by
  by_cases e : j = m
  · subst e; exact hm
  · exact h j (by omega)
section
variable {w : World} {A A' : Option Addr} {n c n' c' : Nat} {X : List (List Int)} {f : List Int}
theorem specCanHold_any (hl : Hid (X.length = n)) (hn : n ≤ 1099511627776) (hs : Hid (∀ x ∈ X, x.length ≤ 1099511627776)) (hr : RdSS w w.heap.size A X) :
    Calls Try.prog 160 #[.slice A n c] w (Tells (canR X) w) := by
  have HR := Lib.hid hr
  by_cases hok : okR X = true
  · have HOK := Lib.hid hok
    clear hok hr
    go_enter Try.func160, Try.ntmps160
    go_wp2_with fail
    go_loopw [3] (fun i wr => ∃ m : Nat, m ≤ 64 ∧ i = .int .i64 m ∧ Below w.heap.size w wr ∧ Hid (∀ j, j < m → allR X j = false)) (fun i _ => 64 - (intOf i).toNat)
    case atStart => exact ⟨0, Nat.zero_le _, rfl, Below.refl _ _, Lib.hid (fun j hj => absurd hj (Nat.not_lt_zero _))⟩
    case round =>
      obtain ⟨m, hm, rfl, hbw, hno⟩ := hrel
      have hsz := hbw.size
      by_cases hlt : m < 64
      · have HNX := Lib.hid (fun (h : allR X m = false) => lt_step hno.out h)
        have HYS := Lib.hid (fun (h : allR X m = true) => canR_row HOK.out hlt h)
        obtain ⟨b, hb⟩ : ∃ b, b = allR X m := ⟨_, rfl⟩
        rw [← hb] at HNX HYS
        have HB := Lib.hid hb.symm
        clear hb
        go_wp2_with fail
        refine (specL11Ok_any hl hn hs ((HR.out.below hbw).more hsz)).mono ?_
        rintro e w1 ⟨rfl, rfl⟩
        rw [HOK.out]
        go_wp2_with fail
        refine (specL11All_any hlt hl hn hs ((HR.out.below hbw).more hsz)).mono ?_
        rintro e w2 ⟨he, r⟩
        rw [HB.out] at he
        subst he
        have q := hbw.trans (r.mono hsz)
        cases b with
        | true =>
          go_wp2_with fail
          go_ret
          exact ⟨ret_b (HYS.out (by trivial)).symm, q⟩
        | false =>
          go_wp2_with fail
          go_roundw
          case rel => exact ⟨m + 1, by omega, by go_num, q, Lib.hid (HNX.out (by trivial))⟩
          case measure => simp [intOf]; omega
      · have e : m = 64 := by omega
        subst e
        have HV := Lib.hid (canR_none hno.out)
        go_wp2_with fail
        go_ret
        exact ⟨ret_b HV.out.symm, hbw⟩
  · have HOK := Lib.hid (show okR X = false by simpa using hok)
    have HV := Lib.hid (show canR X = false by unfold canR; rw [HOK.out]; rfl)
    clear hok hr
    go_enter Try.func160, Try.ntmps160
    go_wp2_with fail
    go_loopw [3] (fun i wr => ∃ m : Nat, m ≤ 64 ∧ i = .int .i64 m ∧ Below w.heap.size w wr) (fun i _ => 64 - (intOf i).toNat)
    case atStart => exact ⟨0, Nat.zero_le _, rfl, Below.refl _ _⟩
    case round =>
      obtain ⟨m, hm, rfl, hbw⟩ := hrel
      have hsz := hbw.size
      by_cases hlt : m < 64
      · go_wp2_with fail
        refine (specL11Ok_any hl hn hs ((HR.out.below hbw).more hsz)).mono ?_
        rintro e w1 ⟨rfl, rfl⟩
        rw [HOK.out]
        go_wp2_with fail
        go_ret
        exact ⟨ret_b HV.out.symm, hbw⟩
      · have e : m = 64 := by omega
        subst e
        go_wp2_with fail
        go_ret
        exact ⟨ret_b HV.out.symm, hbw⟩
theorem folR_bad {m : Nat} (hm : m < 64) (h : allR X m = true) (hv : valR f m = false) : folR X f = false := by
  unfold folR
  have : ((List.range 64).all fun m => !(allR X m) || valR f m) = false := by
    refine all_bad (k := m) (by simpa using hm) ?_
    simp [h, hv]
  rw [this, Bool.and_false]
theorem folR_good (h : ∀ j, j < 64 → (allR X j = true → valR f j = true)) : folR X f = (okR X && isF f) := by
  unfold folR
  have : ((List.range 64).all fun m => !(allR X m) || valR f m) = true := by
    rw [List.all_eq_true]
    intro m hm
    have := h m (List.mem_range.1 hm)
    cases ha : allR X m with
    | false => rfl
    | true => rw [this ha]; rfl
  rw [this, Bool.and_true]
theorem alkR_bad {a b : List Int} {m : Nat} (hm : m < 64) (h : valR a m ≠ valR b m) : alkR a b = false := by
  unfold alkR
  have : ((List.range 64).all fun m => valR a m == valR b m) = false := by
    refine all_bad (k := m) (by simpa using hm) ?_
    simpa using h
  rw [this, Bool.and_false]
theorem alkR_good {a b : List Int} (h : ∀ j, j < 64 → valR a j = valR b j) : alkR a b = (isF a && isF b) := by
  unfold alkR
  have : ((List.range 64).all fun m => valR a m == valR b m) = true := by
    rw [List.all_eq_true]
    intro m hm
    simpa using h m (List.mem_range.1 hm)
  rw [this, Bool.and_true]
theorem fstR_at {m : Nat} (hm : m < 64) (h : valR f m = true) (hno : ∀ j, j < m → valR f j = false) : fstR f = (m : Int) := by
  have hf : (List.range 64).find? (valR f) = some m := by
    rw [List.find?_eq_some_iff_getElem]
    refine ⟨h, m, by simpa using hm, by simp, fun j hj => ?_⟩
    simp [hno j hj]
  unfold fstR
  rw [hf]
theorem fstR_no (hno : ∀ j, j < 64 → valR f j = false) : fstR f = -1 := by
  have hf : (List.range 64).find? (valR f) = none := List.find?_eq_none.2 fun m hm => by rw [hno m (List.mem_range.1 hm)]; simp
  unfold fstR
  rw [hf]
end
end Go.Proofs.Ytignchefkihdaaa
