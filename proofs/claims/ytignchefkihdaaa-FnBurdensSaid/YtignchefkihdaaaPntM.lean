/- Contracts of the models of chapter 13: ArePoints, Won. Condition: the slice has at most 2^40 elements. -/
import Derived.Test.YtignchefkihdaaaPointC
import Derived.Test.YtignchefkihdaaaBurMath
import Derived.Test.YtignchefkihdaaaInts
import Derived.Test.YtignchefkihdaaaIntSS
import Derived.Deep.RegionWith
import Derived.BigQuiet
import Derived.Deep.Quiet
namespace Go.Proofs.Ytignchefkihdaaa
open Go.ChangeShapes Go.WideShapes Go.ChangeAt Go.RowKit
set_option maxRecDepth 100000
theorem alloc_new' (w : World) (o : Obj) : Below w.heap.size w (w.alloc o) := (Below.refl _ _).alloc (Nat.le_refl _) o
theorem Bx.cells3 {w w' : World} {g : Nat} {t : TypeId} {a b c : Value} (h : Bx w g t #[a, b, c]) (hb : Below w.heap.size w w') : w'.cell? ⟨g, 0, none⟩ = some a ∧ w'.cell? ⟨g, 1, none⟩ = some b ∧ w'.cell? ⟨g, 2, none⟩ = some c := by
  have k := h.new hb
  refine ⟨?_, ?_, ?_⟩ <;> (rw [cell_of_row _ _ _ _ _ _ k]; rfl)
theorem cell_nw {w w' : World} {p : Addr} {v : Value} (r : Below w.heap.size w w') (h : w.cell? p = some v) : w'.cell? p = some v := (r.cell (p := p) (cell_lt h)).trans h
/-- A struct's box, made: the world, the block, what lies below. -/
theorem box3 (w : World) (t : TypeId) (a b c : Value) : ∃ W1 : World, w.alloc (Obj.cells #[a, b, c] t) = W1 ∧ Bx W1 w.heap.size t #[a, b, c] ∧ Below w.heap.size w W1 ∧ W1.heap.size = w.heap.size + 1 :=
  ⟨_, rfl, Bx.made _ _ _, alloc_new' _ _, by simp⟩
theorem l1In_Q {w : World} (a lo hi : Int) {b : Bool} (hb : inr a lo hi = b) : ∀ m, Calls Try.prog 114 #[.int .i64 a, .int .i64 lo, .int .i64 hi] (w.drewN m) (fun e w' => e = .returned (.bool b) ∧ ∃ m', w' = (w.drewN m).drewN m') := fun m =>
  (l1In_any a lo hi _).mono fun e w' ⟨h1, h2⟩ => ⟨by rw [h1, hb], 0, h2.symm⟩
theorem pt_no {X : List T3} {k : Nat} (hk : k < X.length) (h : ptAt X k = false) : ptB X = false := by
  unfold ptB
  have : (List.range X.length).all (ptAt X) = false := by
    rw [List.all_eq_false]
    exact ⟨k, List.mem_range.2 hk, by simp [h]⟩
  rw [this, Bool.false_and]
theorem ptAt_0 {X : List T3} {k : Nat} (hk : k < X.length) (h : ptOk X[k] = false) : ptAt X k = false := by
  unfold ptAt
  rw [getT hk, h, Bool.false_and]
theorem ptAt_1 {X : List T3} (hk : 0 < X.length) (h : ptOk X[0] = true) : ptAt X 0 = true := by
  unfold ptAt
  rw [getT hk, h]
  rfl
theorem ptAt_2 {X : List T3} {k j : Nat} (hk : k < X.length) (e : k = j + 1) (hj : j < X.length) (h : ptOk X[k] = true) : ptAt X k = decide (X[j].1 < X[k].1) := by
  unfold ptAt
  rw [getT hk, show k - 1 = j by omega, getT hj, h, Bool.true_and, show (k == 0) = false by simp [e], Bool.false_or]
theorem pt_snoc {X : List T3} {k : Nat} (h : (List.range k).all (ptAt X) = true) (h2 : ptAt X k = true) : (List.range (k + 1)).all (ptAt X) = true := by
  rw [List.range_succ, List.all_append, h, List.all_cons, h2]
  rfl
theorem won_snoc (X : List T3) (q : Int) {k : Nat} (hk : k < X.length) : wonN (X.take (k + 1)) q = wonN (X.take k) q + wonP q X[k] := by
  unfold wonN
  rw [List.take_succ_eq_append_getElem hk, List.foldl_append]
  rfl
set_option maxHeartbeats 4000000 in
theorem specArePoints_any {w : World} {A : Option Addr} {n c : Nat} {X : List T3} (hl : Hid (X.length = n)) (hn : n ≤ 1099511627776) (hr : Rd w w.heap.size A (t3s X)) :
    Calls Try.prog 119 #[.slice A n c] w (Tells (ptB X) w) := by
  go_enter Try.func119, Try.ntmps119
  go_wp2_with fail
  go_loopw [3] (fun i wr => ∃ k m : Nat, k ≤ n ∧ i = .int .i64 k ∧ Hid ((List.range k).all (ptAt X) = true) ∧ wr = w.drewN m) (fun i _ => n - (intOf i).toNat)
  case atStart => exact ⟨0, 0, Nat.zero_le _, rfl, Lib.hid rfl, rfl⟩
  case round =>
    obtain ⟨k, m, hk, rfl, ha, rfl⟩ := hrel
    have hb0 : Below w.heap.size w w := Below.refl _ _
    by_cases hlt : k < n
    · have hkz : k < X.length := by rw [hl.out]; exact hlt
      obtain ⟨ad, p, rfl, hp, hab, h0, h1, h2⟩ := t3_cells hr hkz
      have i0 : (0 : Int) ≤ (k : Int) := by omega
      have i1 : (k : Int) < (n : Int) := by omega
      by_cases g1 : inr X[k].1 1 99 = true
      · skip
        by_cases g2 : inr X[k].2.1 1 2 = true
        · skip
          by_cases g3 : inr X[k].2.2 0 4 = true
          · skip
            have hok : ptOk X[k] = true := by unfold ptOk; simp only [g1, g2, g3]; rfl
            by_cases hk0 : k = 0
            · subst hk0
              have HP := Lib.hid (pt_snoc ha.out (ptAt_1 hkz hok))
              obtain ⟨x, hx⟩ : ∃ x, x = X[0] := ⟨_, rfl⟩
              rw [← hx] at h0 h1 h2 g1 g2 g3
              have J1 := Lib.hid (l1In_Q (w := w) x.1 1 99 g1)
              have J2 := Lib.hid (l1In_Q (w := w) x.2.1 1 2 g2)
              have J3 := Lib.hid (l1In_Q (w := w) x.2.2 0 4 g3)
              clear hx g1 g2 g3 hok
              go_wp2
              go_quiet ((first | (go_at_call_of 114 (Value.int IntKind.i64 x.1); with_reducible exact quiet_addQ J1.out) | (go_at_call_of 114 (Value.int IntKind.i64 x.2.1); with_reducible exact quiet_addQ J2.out) | (go_at_call_of 114 (Value.int IntKind.i64 x.2.2); with_reducible exact quiet_addQ J3.out)))
              go_wp2
              go_roundw
              case rel => exact ⟨1, _, by omega, by go_num, HP, rfl⟩
              case measure => simp [intOf]; omega
            · obtain ⟨j, hj⟩ : ∃ j, k = j + 1 := ⟨k - 1, by omega⟩
              have hk1 : j < X.length := by omega
              have j0 : (0 : Int) ≤ (j : Int) := by omega
              have j1 : (j : Int) < (n : Int) := by omega
              have hwj : IntKind.i64.wrap ((k : Int) - 1) = (j : Int) := (IntWalk.i64_in ((k : Int) - 1) (by omega)).trans (by omega)
              have hkp : 0 < k := by omega
              have hkp' : (0 : Int) < (k : Int) := by omega
              have HA := Lib.hid (ptAt_2 hkz hj hk1 hok)
              obtain ⟨ad', p', e', hp', hab', h0', _, _⟩ := t3_cells hr hk1
              injection e' with e'
              subst e'
              obtain ⟨x, hx⟩ : ∃ x, x = X[k] := ⟨_, rfl⟩
              obtain ⟨y, hy⟩ : ∃ y, y = X[j] := ⟨_, rfl⟩
              rw [← hx] at h0 h1 h2 g1 g2 g3 HA
              rw [← hy] at h0' HA
              have dk : decide ((0 : Int) < (k : Int)) = true := decide_eq_true hkp'
              have J1 := Lib.hid (l1In_Q (w := w) x.1 1 99 g1)
              have J2 := Lib.hid (l1In_Q (w := w) x.2.1 1 2 g2)
              have J3 := Lib.hid (l1In_Q (w := w) x.2.2 0 4 g3)
              clear hx hy hj g1 g2 g3 hok
              by_cases hxy : y.1 < x.1
              · have HP := Lib.hid (pt_snoc ha.out (HA.out.trans (decide_eq_true hxy)))
                have d1 : decide (x.1 ≤ y.1) = false := decide_eq_false (by omega)
                go_wp2
                go_quiet ((first | (go_at_call_of 114 (Value.int IntKind.i64 x.1); with_reducible exact quiet_addQ J1.out) | (go_at_call_of 114 (Value.int IntKind.i64 x.2.1); with_reducible exact quiet_addQ J2.out) | (go_at_call_of 114 (Value.int IntKind.i64 x.2.2); with_reducible exact quiet_addQ J3.out)))
                go_wp2
                go_roundw
                case rel => exact ⟨k + 1, _, by omega, by go_num, HP, rfl⟩
                case measure => simp [intOf]; omega
              · have HV := Lib.hid (pt_no hkz (HA.out.trans (decide_eq_false hxy)))
                have d1 : decide (x.1 ≤ y.1) = true := decide_eq_true (by omega)
                go_wp2
                go_quiet ((first | (go_at_call_of 114 (Value.int IntKind.i64 x.1); with_reducible exact quiet_addQ J1.out) | (go_at_call_of 114 (Value.int IntKind.i64 x.2.1); with_reducible exact quiet_addQ J2.out) | (go_at_call_of 114 (Value.int IntKind.i64 x.2.2); with_reducible exact quiet_addQ J3.out)))
                go_wp2
                go_ret
                first | exact ⟨ret_b HV.out.symm, below_drewN (below_drewN hb0 _) _⟩ | exact ⟨ret_b HV.out.symm, below_drewN hb0 _⟩
          · have g3 : inr X[k].2.2 0 4 = false := by simpa using g3
            have HV := Lib.hid (pt_no hkz (ptAt_0 hkz (by unfold ptOk; simp only [g1, g2, g3]; rfl)))
            obtain ⟨x, hx⟩ : ∃ x, x = X[k] := ⟨_, rfl⟩
            rw [← hx] at h0 h1 h2 g1 g2 g3
            have J1 := Lib.hid (l1In_Q (w := w) x.1 1 99 g1)
            have J2 := Lib.hid (l1In_Q (w := w) x.2.1 1 2 g2)
            have J3 := Lib.hid (l1In_Q (w := w) x.2.2 0 4 g3)
            clear hx g1 g2 g3
            go_wp2
            go_quiet ((first | (go_at_call_of 114 (Value.int IntKind.i64 x.1); with_reducible exact quiet_addQ J1.out) | (go_at_call_of 114 (Value.int IntKind.i64 x.2.1); with_reducible exact quiet_addQ J2.out) | (go_at_call_of 114 (Value.int IntKind.i64 x.2.2); with_reducible exact quiet_addQ J3.out)))
            go_wp2
            go_ret
            first | exact ⟨ret_b HV.out.symm, below_drewN (below_drewN hb0 _) _⟩ | exact ⟨ret_b HV.out.symm, below_drewN hb0 _⟩
        · have g2 : inr X[k].2.1 1 2 = false := by simpa using g2
          have HV := Lib.hid (pt_no hkz (ptAt_0 hkz (by unfold ptOk; simp only [g1, g2]; rfl)))
          obtain ⟨x, hx⟩ : ∃ x, x = X[k] := ⟨_, rfl⟩
          rw [← hx] at h0 h1 h2 g1 g2
          have J1 := Lib.hid (l1In_Q (w := w) x.1 1 99 g1)
          have J2 := Lib.hid (l1In_Q (w := w) x.2.1 1 2 g2)
          clear hx g1 g2
          go_wp2
          go_quiet ((first | (go_at_call_of 114 (Value.int IntKind.i64 x.1); with_reducible exact quiet_addQ J1.out) | (go_at_call_of 114 (Value.int IntKind.i64 x.2.1); with_reducible exact quiet_addQ J2.out) | (go_at_call_of 114 (Value.int IntKind.i64 x.2.2); with_reducible exact quiet_addQ J3.out)))
          go_wp2
          go_ret
          first | exact ⟨ret_b HV.out.symm, below_drewN (below_drewN hb0 _) _⟩ | exact ⟨ret_b HV.out.symm, below_drewN hb0 _⟩
      · have g1 : inr X[k].1 1 99 = false := by simpa using g1
        have HV := Lib.hid (pt_no hkz (ptAt_0 hkz (by unfold ptOk; simp only [g1]; rfl)))
        obtain ⟨x, hx⟩ : ∃ x, x = X[k] := ⟨_, rfl⟩
        rw [← hx] at h0 h1 h2 g1
        have J1 := Lib.hid (l1In_Q (w := w) x.1 1 99 g1)
        clear hx g1
        go_wp2
        go_quiet ((first | (go_at_call_of 114 (Value.int IntKind.i64 x.1); with_reducible exact quiet_addQ J1.out) | (go_at_call_of 114 (Value.int IntKind.i64 x.2.1); with_reducible exact quiet_addQ J2.out) | (go_at_call_of 114 (Value.int IntKind.i64 x.2.2); with_reducible exact quiet_addQ J3.out)))
        go_wp2
        go_ret
        first | exact ⟨ret_b HV.out.symm, below_drewN (below_drewN hb0 _) _⟩ | exact ⟨ret_b HV.out.symm, below_drewN hb0 _⟩
    · have e : k = n := by omega
      subst e
      have HT := Lib.hid (show ptB X = decide ((k : Int) ≤ 30) by
        unfold ptB
        rw [hl.out, ha.out, Bool.true_and, Bool.eq_iff_iff, decide_eq_true_iff, decide_eq_true_iff]
        omega)
      go_wp2_with fail
      go_ret
      exact ⟨ret_b HT.out.symm, below_drewN hb0 _⟩
end Go.Proofs.Ytignchefkihdaaa
