/- Contracts of the models of chapter 11: l11All, l11Ok, CanHold, Follows, AreAlike, FirstRow, IsAlways. Condition: the slices have at most 2^40 elements. -/
import Derived.Test.YtignchefkihdaaaTabM
import Derived.Test.YtignchefkihdaaaMg5
namespace Go.Proofs.Ytignchefkihdaaa
open Go.ChangeShapes Go.WideShapes Go.ChangeAt Go.RowKit
set_option maxRecDepth 100000
theorem all_take {α : Type} {p : α → Bool} {X : List α} {k : Nat} (hk : k < X.length) (h : (X.take k).all p = true) (hx : p X[k] = true) : (X.take (k + 1)).all p = true := by
  rw [List.take_succ_eq_append_getElem hk, List.all_append, h]; simp [hx]
theorem all_bad {α : Type} {p : α → Bool} {X : List α} {k : Nat} (hk : k < X.length) (hx : p X[k] = false) : X.all p = false := by
  cases h : X.all p with
  | false => rfl
  | true => rw [List.all_eq_true.1 h _ (List.getElem_mem hk)] at hx; cases hx
theorem specL11Ok_any {w : World} {A : Option Addr} {n c : Nat} {X : List (List Int)} (hl : Hid (X.length = n)) (hn : n ≤ 1099511627776) (hs : Hid (∀ x ∈ X, x.length ≤ 1099511627776)) (hr : RdSS w w.heap.size A X) :
    Calls Try.prog 162 #[.slice A n c] w (fun e w' => e = .returned (.bool (okR X)) ∧ w = w') := by
  go_enter Try.func162, Try.ntmps162
  go_wp2
  go_loop [3] (fun i => ∃ k : Nat, k ≤ n ∧ i = .int .i64 k ∧ Hid ((X.take k).all isF = true)) (fun i => n - (intOf i).toNat)
  case atStart => exact ⟨0, Nat.zero_le _, rfl, Lib.hid rfl⟩
  case round =>
    obtain ⟨k, hk, rfl, hall⟩ := hrel
    by_cases hlt : k < n
    · have hkz : k < X.length := by rw [hl.out]; exact hlt
      obtain ⟨ad, Aj, cj, rfl, hab, hc, _, _, hrd⟩ := hr.at_ hkz
      have hxl := hs.out X[k] (List.getElem_mem _)
      have HNX := Lib.hid (fun (h : isF X[k] = true) => all_take hkz hall.out h)
      have HNO := Lib.hid (fun (h : isF X[k] = false) => all_bad (p := isF) hkz h)
      obtain ⟨x, hx⟩ : ∃ x, x = X[k] := ⟨_, rfl⟩
      rw [← hx] at hc hrd hxl HNX HNO
      have i0 : (0 : Int) ≤ (k : Int) := by omega
      clear hx hall
      go_wp2_with fail
      refine (specIsFormula_any (f := x) (Lib.hid rfl) hxl hrd).mono ?_
      rintro e w1 ⟨rfl, rfl⟩
      obtain ⟨b, hb⟩ : ∃ b, b = isF x := ⟨_, rfl⟩
      rw [← hb] at HNX HNO ⊢
      clear hb
      cases b with
      | true =>
        go_wp2_with fail
        go_round
        case rel => exact ⟨k + 1, by omega, by go_num, Lib.hid (HNX.out (by trivial))⟩
        case measure => simp [intOf]; omega
      | false =>
        go_wp2_with fail
        go_ret
        exact ⟨ret_b (HNO.out (by trivial)).symm, rfl⟩
    · have e : k = n := by omega
      subst e
      have HV := Lib.hid (show okR X = true by have := hall.out; rw [List.take_of_length_le (by rw [hl.out]; exact Nat.le_refl _)] at this; exact this)
      go_wp2
      go_ret
      exact ⟨ret_b HV.out.symm, rfl⟩
set_option maxHeartbeats 2000000 in
theorem specL11All_any {w : World} {m : Nat} {A : Option Addr} {n c : Nat} {X : List (List Int)} (hm : m < 64) (hl : Hid (X.length = n)) (hn : n ≤ 1099511627776) (hs : Hid (∀ x ∈ X, x.length ≤ 1099511627776)) (hr : RdSS w w.heap.size A X) :
    Calls Try.prog 163 #[.slice A n c, .int .i64 (m : Int)] w (Tells (allR X m) w) := by
  have HR := Lib.hid hr
  go_enter Try.func163, Try.ntmps163
  go_wp2
  go_loopw [5] (fun i wr => ∃ k : Nat, k ≤ n ∧ i = .int .i64 k ∧ Below w.heap.size w wr ∧ Hid ((X.take k).all (fun f => valR f m) = true)) (fun i _ => n - (intOf i).toNat)
  case atStart => exact ⟨0, Nat.zero_le _, rfl, Below.refl _ _, Lib.hid rfl⟩
  case round =>
    obtain ⟨k, hk, rfl, hbw, hall⟩ := hrel
    have hsz := hbw.size
    by_cases hlt : k < n
    · have hkz : k < X.length := by rw [hl.out]; exact hlt
      obtain ⟨ad, Aj, cj, rfl, hab, hc, _, _, hrd⟩ := ((HR.out.below hbw).more hsz).at_ hkz
      have hxl := hs.out X[k] (List.getElem_mem _)
      have HNX := Lib.hid (fun (h : valR X[k] m = true) => all_take (p := fun f => valR f m) hkz hall.out h)
      have HNO := Lib.hid (fun (h : valR X[k] m = false) => all_bad (p := fun f => valR f m) hkz h)
      obtain ⟨x, hx⟩ : ∃ x, x = X[k] := ⟨_, rfl⟩
      rw [← hx] at hc hrd hxl HNX HNO
      have i0 : (0 : Int) ≤ (k : Int) := by omega
      have KE := Lib.hid (fun (u : World) (q : Below wr.heap.size wr u) => (q.cell (p := ad.add k) (cell_lt hc)).trans hc)
      have HRX := Lib.hid hrd
      obtain ⟨b, hb⟩ : ∃ b, b = valR x m := ⟨_, rfl⟩
      have HB : Hid (valB x (rowR m) = b) := Lib.hid hb.symm
      rw [← hb] at HNX HNO
      clear hx hall hb hr hrd
      go_wp2_with fail
      go_region_law (first
        | (go_simp; go_at_call 166; (with_reducible refine (l11Row_any hm).mono ?_); rintro e u1 ⟨v, rfl, hrow, r⟩; obtain ⟨Ab, cb, rfl, hrb, _, _⟩ := hrow.rd (n := 6) (by rw [bls_len, rowR_len]); have q1 : Below wr.heap.size wr u1 := (by first | exact r | exact (Below.refl _ _).drew.trans r); have c1 := KE.out u1 q1)
        | (go_simp; go_at_call 165; (with_reducible refine (specValue_any (f := x) (L := rowR m) (Lib.hid rfl) hxl ((HRX.out.below q1).more q1.size) (Lib.hid (rowR_len m)) hrb).mono ?_); rintro e u2 ⟨he, r2⟩; rw [HB.out] at he; subst he; have q2 : Below wr.heap.size wr u2 := q1.trans (r2.mono q1.size)))
      all_goals
        have q3 := hbw.trans (q2.mono hsz)
        cases b with
        | true =>
          go_wp2_with fail
          go_roundw
          case rel => exact ⟨k + 1, by omega, by go_num, q3, Lib.hid (HNX.out (by trivial))⟩
          case measure => simp [intOf]; omega
        | false =>
          go_wp2_with fail
          go_ret
          exact ⟨ret_b (HNO.out (by trivial)).symm, q3⟩
    · have e : k = n := by omega
      subst e
      have HV := Lib.hid (show allR X m = true by have := hall.out; rw [List.take_of_length_le (by rw [hl.out]; exact Nat.le_refl _)] at this; exact this)
      go_wp2
      go_ret
      exact ⟨ret_b HV.out.symm, hbw⟩
end Go.Proofs.Ytignchefkihdaaa
