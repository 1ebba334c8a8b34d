/- Contracts of the code of chapter 18: AreHearers, countHearers with each of its functions, Moved, Gain, Unmoved. Condition: the slice has at most 2^40 elements. -/
import Derived.Test.YtjjgdeojbpcjjaaHalMath
import Derived.Test.YtjjgdeojbpcjjaaGraph
import Derived.Test.YtjjgdeojbpcjjaaEq2
namespace Go.Proofs.Ytjjgdeojbpcjjaa
open Go.ChangeShapes Go.WideShapes Go.ChangeAt Go.RowKit
set_option maxRecDepth 100000
theorem alloc_h (w : World) (o : Obj) : Below w.heap.size w (w.alloc o) := (Below.refl _ _).alloc (Nat.le_refl _) o
theorem nw_cell {w w' : World} {p : Addr} {v : Value} (r : Below w.heap.size w w') (h : w.cell? p = some v) : w'.cell? p = some v := (r.cell (p := p) (cell_lt h)).trans h
theorem bx_two {w w' : World} {g : Nat} {t : TypeId} {a b : Value} (h : Bx w g t #[a, b]) (hb : Below w.heap.size w w') : w'.cell? ⟨g, 0, none⟩ = some a ∧ w'.cell? ⟨g, 1, none⟩ = some b := (h.new hb).two
theorem box2 (w : World) (t : TypeId) (a b : Value) : ∃ W1 : World, w.alloc (Obj.cells #[a, b] t) = W1 ∧ Bx W1 w.heap.size t #[a, b] ∧ Below w.heap.size w W1 ∧ W1.heap.size = w.heap.size + 1 :=
  ⟨_, rfl, Bx.made _ _ _, alloc_h _ _, by simp⟩
section
variable {w : World} {A : Option Addr} {n c : Nat} {X : List T2}
set_option maxHeartbeats 2000000 in
theorem impAreHearers_any (hl : Hid (X.length = n)) (hn : n ≤ 1099511627776) (hr : Rd w w.heap.size A (t2s X)) :
    Calls Try.prog 80 #[.slice A n c] w (Tells (hrB X) w) := by
  by_cases hbig : 100 < n
  · have HV := Lib.hid (hr_big (X := X) (by rw [hl.out]; exact hbig))
    have i1 : (100 : Int) < (n : Int) := by omega
    go_enter Try.func80, Try.ntmps80
    go_wp2_with fail
    go_ret
    exact ⟨ret_b HV.out.symm, Below.refl _ _⟩
  have i9 : ¬ (100 : Int) < (n : Int) := by omega
  go_enter Try.func80, Try.ntmps80
  go_wp2_with fail
  go_loopw [10] (fun i wr => ∃ k : Nat, k ≤ n ∧ i = .int .i64 k ∧ Hid ((X.take k).all hrOk = true) ∧ Below w.heap.size w wr) (fun i _ => n - (intOf i).toNat)
  case atStart => exact ⟨0, Nat.zero_le _, rfl, Lib.hid rfl, Below.refl _ _⟩
  case round =>
    obtain ⟨k, hk, rfl, ha, hb⟩ := hrel
    by_cases hlt : k < n
    · have hkz : k < X.length := by rw [hl.out]; exact hlt
      obtain ⟨ad, p, rfl, hp, hab, h0, h1⟩ := t2_cells ((hr.below hb).more hb.size) hkz
      have i0 : (0 : Int) ≤ (k : Int) := by omega
      have i1 : (k : Int) < (n : Int) := by omega
      have hsz := hb.size
      cases hx : hrOk X[k] with
      | false =>
        have HV := Lib.hid (hr_no hkz hx)
        obtain ⟨x, hxe⟩ : ∃ x, x = X[k] := ⟨_, rfl⟩
        rw [← hxe] at h0 h1 hx
        unfold hrOk at hx
        have hb2 := hb.trans ((alloc_h wr (Obj.cells #[Value.int .i64 x.1, .int .i64 x.2] 93)).mono hsz)
        clear hxe
        cases q1 : inr x.1 0 2 with
        | false =>
          have HQ := Lib.hid q1
          clear hx q1
          go_wp2_with fail
          refine (inRange_any _ _ _ _).mono ?_
          rintro e u ⟨rfl, rfl⟩
          rw [HQ.out]
          go_wp2_with fail
          go_ret
          exact ⟨ret_b HV.out.symm, hb2⟩
        | true =>
          rw [q1, Bool.true_and] at hx
          have HQ := Lib.hid q1
          have HX := Lib.hid hx
          clear hx q1
          go_wp2_with fail
          refine (inRange_any _ _ _ _).mono ?_
          rintro e u ⟨rfl, rfl⟩
          rw [HQ.out]
          go_wp2_with fail
          refine (inRange_any _ _ _ _).mono ?_
          rintro e u ⟨rfl, rfl⟩
          rw [HX.out]
          go_wp2_with fail
          go_ret
          exact ⟨ret_b HV.out.symm, hb2⟩
      | true =>
        have HP := Lib.hid (hr_snoc ha.out hkz hx)
        obtain ⟨x, hxe⟩ : ∃ x, x = X[k] := ⟨_, rfl⟩
        rw [← hxe] at h0 h1 hx
        unfold hrOk at hx
        have hb2 := hb.trans ((alloc_h wr (Obj.cells #[Value.int .i64 x.1, .int .i64 x.2] 93)).mono hsz)
        obtain ⟨q1, q2⟩ := Bool.and_eq_true_iff.1 hx
        have HQ := Lib.hid q1
        have HX := Lib.hid q2
        clear hx q1 q2 hxe
        go_wp2_with fail
        refine (inRange_any _ _ _ _).mono ?_
        rintro e u ⟨rfl, rfl⟩
        rw [HQ.out]
        go_wp2_with fail
        refine (inRange_any _ _ _ _).mono ?_
        rintro e u ⟨rfl, rfl⟩
        rw [HX.out]
        go_wp2_with fail
        go_roundw
        case rel => exact ⟨k + 1, by omega, by go_num, HP, hb2⟩
        case measure => simp [intOf]; omega
    · have e : k = n := by omega
      subst e
      have HV := Lib.hid (show hrB X = true by rw [hr_end hl.out ha.out, decide_eq_true (by omega)])
      go_wp2_with fail
      go_ret
      exact ⟨ret_b HV.out.symm, hb⟩
theorem nw_cell2 {w w' : World} {p : Addr} {v : Value} (r : Below w.heap.size w w') (h : w.cell? p = some v) : w'.cell? p = some v := nw_cell r h
theorem Hearer_fields : (Try.prog.fieldsOf 93).toList.map (fun f => (f.name, f.type, f.offset)) = [("Before", 3, 0), ("After", 3, 1)] := by kernel_rfl
theorem Hearer_guard : Try.prog.eqGuardType Try.prog.depth 93 = false := by kernel_rfl
end
end Go.Proofs.Ytjjgdeojbpcjjaa
