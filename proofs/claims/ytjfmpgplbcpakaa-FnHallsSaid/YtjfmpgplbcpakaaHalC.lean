/- Contracts of the code of chapter 18: AreHearers, countHearers with each of its functions, Moved, Gain, Unmoved. Condition: the slice has at most 2^40 elements. -/
import Derived.Test.YtjfmpgplbcpakaaHalMath
import Derived.Test.YtjfmpgplbcpakaaGraph
import Derived.Test.YtjfmpgplbcpakaaEq2
namespace Go.Proofs.Ytjfmpgplbcpakaa
open Go.ChangeShapes Go.WideShapes Go.ChangeAt Go.RowKit
set_option maxRecDepth 100000
theorem alloc_h (w : World) (o : Obj) : Below w.heap.size w (w.alloc o) := (Below.refl _ _).alloc (Nat.le_refl _) o
theorem nw_cell {w w' : World} {p : Addr} {v : Value} (r : Below w.heap.size w w') (h : w.cell? p = some v) : w'.cell? p = some v := (r.cell (p := p) (cell_lt h)).trans h
theorem bx_two {w w' : World} {g : Nat} {t : TypeId} {a b : Value} (h : Bx w g t #[a, b]) (hb : Below w.heap.size w w') : w'.cell? ⟨g, 0, none⟩ = some a ∧ w'.cell? ⟨g, 1, none⟩ = some b := (h.new hb).two
theorem box2 (w : World) (t : TypeId) (a b : Value) : ∃ W1 : World, w.alloc (Obj.cells #[a, b] t) = W1 ∧ Bx W1 w.heap.size t #[a, b] ∧ Below w.heap.size w W1 ∧ W1.heap.size = w.heap.size + 1 :=
  ⟨_, rfl, Bx.made _ _ _, alloc_h _ _, by simp⟩
section
variable {w : World} {A : Option Addr} {n c : Nat} {X : List T2}
set_option maxHeartbeats 2000000 in
theorem impAreHearers_any (hl : Hid (X.length = n)) (hn : n ≤ 1099511627776) (hr : Rd w w.heap.size A (t2s X)) :
    Calls Try.prog 7 #[.slice A n c] w (Tells (hrB X) w) := by
  by_cases hbig : 100 < n
  · have HV := Lib.hid (hr_big (X := X) (by rw [hl.out]; exact hbig))
    have i1 : (100 : Int) < (n : Int) := by omega
    go_enter Try.func7, Try.ntmps7
    go_wp2_with fail
    go_ret
    exact ⟨ret_b HV.out.symm, Below.refl _ _⟩
  have i9 : ¬ (100 : Int) < (n : Int) := by omega
  go_enter Try.func7, Try.ntmps7
  go_wp2_with fail
  go_loopw [10] (fun i wr => ∃ k : Nat, k ≤ n ∧ i = .int .i64 k ∧ Hid ((X.take k).all hrOk = true) ∧ Below w.heap.size w wr) (fun i _ => n - (intOf i).toNat)
  case atStart => exact ⟨0, Nat.zero_le _, rfl, Lib.hid rfl, Below.refl _ _⟩
  case round =>
    obtain ⟨k, hk, rfl, ha, hb⟩ := hrel
    by_cases hlt : k < n
    · have hkz : k < X.length := by rw [hl.out]; exact hlt
      obtain ⟨ad, p, rfl, hp, hab, h0, h1⟩ := t2_cells ((hr.below hb).more hb.size) hkz
      have i0 : (0 : Int) ≤ (k : Int) := by omega
      have i1 : (k : Int) < (n : Int) := by omega
      have hsz := hb.size
      cases hx : hrOk X[k] with
      | false =>
        have HV := Lib.hid (hr_no hkz hx)
        obtain ⟨x, hxe⟩ : ∃ x, x = X[k] := ⟨_, rfl⟩
        rw [← hxe] at h0 h1 hx
        unfold hrOk at hx
        have hb2 := hb.trans ((alloc_h wr (Obj.cells #[Value.int .i64 x.1, .int .i64 x.2] 40)).mono hsz)
        clear hxe
        cases q1 : inr x.1 0 2 with
        | false =>
          have HQ := Lib.hid q1
          clear hx q1
          go_wp2_with fail
          refine (inRange_any _ _ _ _).mono ?_
          rintro e u ⟨rfl, rfl⟩
          rw [HQ.out]
          go_wp2_with fail
          go_ret
          exact ⟨ret_b HV.out.symm, hb2⟩
        | true =>
          rw [q1, Bool.true_and] at hx
          have HQ := Lib.hid q1
          have HX := Lib.hid hx
          clear hx q1
          go_wp2_with fail
          refine (inRange_any _ _ _ _).mono ?_
          rintro e u ⟨rfl, rfl⟩
          rw [HQ.out]
          go_wp2_with fail
          refine (inRange_any _ _ _ _).mono ?_
          rintro e u ⟨rfl, rfl⟩
          rw [HX.out]
          go_wp2_with fail
          go_ret
          exact ⟨ret_b HV.out.symm, hb2⟩
      | true =>
        have HP := Lib.hid (hr_snoc ha.out hkz hx)
        obtain ⟨x, hxe⟩ : ∃ x, x = X[k] := ⟨_, rfl⟩
        rw [← hxe] at h0 h1 hx
        unfold hrOk at hx
        have hb2 := hb.trans ((alloc_h wr (Obj.cells #[Value.int .i64 x.1, .int .i64 x.2] 40)).mono hsz)
        obtain ⟨q1, q2⟩ := Bool.and_eq_true_iff.1 hx
        have HQ := Lib.hid q1
        have HX := Lib.hid q2
        clear hx q1 q2 hxe
        go_wp2_with fail
        refine (inRange_any _ _ _ _).mono ?_
        rintro e u ⟨rfl, rfl⟩
        rw [HQ.out]
        go_wp2_with fail
        refine (inRange_any _ _ _ _).mono ?_
        rintro e u ⟨rfl, rfl⟩
        rw [HX.out]
        go_wp2_with fail
        go_roundw
        case rel => exact ⟨k + 1, by omega, by go_num, HP, hb2⟩
        case measure => simp [intOf]; omega
    · have e : k = n := by omega
      subst e
      have HV := Lib.hid (show hrB X = true by rw [hr_end hl.out ha.out, decide_eq_true (by omega)])
      go_wp2_with fail
      go_ret
      exact ⟨ret_b HV.out.symm, hb⟩
theorem nw_cell2 {w w' : World} {p : Addr} {v : Value} (r : Below w.heap.size w w') (h : w.cell? p = some v) : w'.cell? p = some v := nw_cell r h
theorem Hearer_fields : (Try.prog.fieldsOf 40).toList.map (fun f => (f.name, f.type, f.offset)) = [("Before", 3, 0), ("After", 3, 1)] := by kernel_rfl
theorem Hearer_guard : Try.prog.eqGuardType Try.prog.depth 40 = false := by kernel_rfl
set_option maxHeartbeats 1000000 in
theorem Moved_1_any {w : World} {g1 g2 : Nat} {a b : Int} {x y : Int} (hc0 : w.cell? ⟨g1, 0, none⟩ = some (.int .i64 a)) (hc1 : w.cell? ⟨g2, 0, none⟩ = some (.int .i64 b)) :
    Calls Try.prog 22 #[.agg #[.int .i64 x, .int .i64 y], .pointer (some ⟨g1, 0, none⟩), .pointer (some ⟨g2, 0, none⟩)] w (Tells (mvF a b (x, y)) w) := by
  have hb := alloc_h w (Obj.cells #[Value.int .i64 x, .int .i64 y] 40)

  have hd0 := nw_cell hb hc0
  have hd1 := nw_cell hb hc1
  by_cases h1 : x = a
  · subst h1
    by_cases h2 : y = b
    · subst h2
      have HV := Lib.hid (show mvF x y (x, y) = true by simp [mvF])
      go_enter Try.func22, Try.ntmps22
      go_wp2_with fail
      go_ret
      exact ⟨ret_b HV.out.symm, hb⟩
    · have HV := Lib.hid (show mvF x b (x, y) = false by simp [mvF, h2])
      have h2' : (y == b) = false := by simpa using h2
      go_enter Try.func22, Try.ntmps22
      go_wp2_with fail
      go_ret
      exact ⟨ret_b HV.out.symm, hb⟩
  · have HV := Lib.hid (show mvF a b (x, y) = false by simp [mvF, h1])
    have h1' : (x == a) = false := by simpa using h1
    go_enter Try.func22, Try.ntmps22
    go_wp2_with fail
    go_ret
    exact ⟨ret_b HV.out.symm, hb⟩
set_option maxHeartbeats 2000000 in
theorem count_Moved_1 {w : World} {A : Option Addr} {n c : Nat} {X : List T2} {g1 g2 : Nat} {a b : Int} (hl : Hid (X.length = n)) (hn : n ≤ 1099511627776) (hr : Rd w w.heap.size A (t2s X)) (hc0 : w.cell? ⟨g1, 0, none⟩ = some (.int .i64 a)) (hc1 : w.cell? ⟨g2, 0, none⟩ = some (.int .i64 b)) :
    Calls Try.prog 21 #[.slice A n c, .func (.func 22) #[] #[.pointer (some ⟨g1, 0, none⟩), .pointer (some ⟨g2, 0, none⟩)]] w (fun e w' => e = .returned (.int .i64 (X.countP (mvF a b) : Nat)) ∧ Below w.heap.size w w') := by
  go_enter Try.func21, Try.ntmps21
  go_wp2_with fail
  go_loopw [5, 10] (fun m i wr => ∃ k q : Nat, k ≤ n ∧ q ≤ k ∧ i = .int .i64 k ∧ m = .int .i64 q ∧ Hid (q = cnt2 (mvF a b) X k) ∧ Below w.heap.size w wr) (fun _ i _ => n - (intOf i).toNat)
  case atStart => exact ⟨0, 0, Nat.zero_le _, Nat.zero_le _, rfl, rfl, Lib.hid rfl, Below.refl _ _⟩
  case round =>
    obtain ⟨k, q, hk, hqk, rfl, rfl, hq, hb⟩ := hrel
    by_cases hlt : k < n
    · have hkz : k < X.length := by rw [hl.out]; exact hlt
      obtain ⟨ad, p, rfl, hp, hab, h0, h1⟩ := t2_cells ((hr.below hb).more hb.size) hkz
      have i0 : (0 : Int) ≤ (k : Int) := by omega
      have i1 : (k : Int) < (n : Int) := by omega
      have HS := Lib.hid (cnt2_succ (mvF a b) hkz)
      obtain ⟨x, hxe⟩ : ∃ x, x = X[k] := ⟨_, rfl⟩
      rw [← hxe] at h0 h1 HS
      obtain ⟨W1, hW, bx, hb1, hz⟩ := box2 wr 40 (.int .i64 x.1) (.int .i64 x.2)
      have HW := Lib.hid hW
      obtain ⟨b0, b1⟩ := bx.two
      have hb2 := hb.trans (hb1.mono hb.size)

      have hd0 := nw_cell hb1 (nw_cell2 hb hc0)
      have hd1 := nw_cell hb1 (nw_cell2 hb hc1)
      obtain ⟨r, hre⟩ : ∃ r, mvF a b (x.1, x.2) = r := ⟨_, rfl⟩
      have HRE := Lib.hid hre
      have HS2 := Lib.hid (show cnt2 (mvF a b) X (k + 1) = cnt2 (mvF a b) X k + (if r then 1 else 0) by rw [HS.out, ← hre])
      clear hxe hW hz hre
      go_wp2_with fail
      rw [HW.out]
      try (go_wp2_with fail)
      refine (Moved_1_any hd0 hd1).mono ?_
      rintro e w2 ⟨rfl, hb3⟩
      rw [HRE.out]
      have hb4 := hb2.trans (hb3.mono hb2.size)
      cases r with
      | true =>
        have HN := Lib.hid (show q + 1 = cnt2 (mvF a b) X (k + 1) by rw [HS2.out, hq.out]; simp)
        go_wp2_with fail
        go_roundw
        case rel => exact ⟨k + 1, q + 1, by omega, by omega, by go_num, by go_num, HN, hb4⟩
        case measure => simp [intOf]; omega
      | false =>
        have HN := Lib.hid (show q = cnt2 (mvF a b) X (k + 1) by rw [HS2.out, hq.out]; simp)
        go_wp2_with fail
        go_roundw
        case rel => exact ⟨k + 1, q, by omega, by omega, by go_num, by go_num, HN, hb4⟩
        case measure => simp [intOf]; omega
    · have e : k = n := by omega
      subst e
      have HV := Lib.hid (show q = X.countP (mvF a b) by rw [hq.out, cnt2_all _ hl.out])
      go_wp2_with fail
      go_ret
      exact ⟨ret_i (by rw [HV.out]), hb⟩
set_option maxHeartbeats 1000000 in
theorem Gain_1_any {w : World} {g1 : Nat} {s : Int} {x y : Int} (hc0 : w.cell? ⟨g1, 0, none⟩ = some (.int .i64 s)) :
    Calls Try.prog 23 #[.agg #[.int .i64 x, .int .i64 y], .pointer (some ⟨g1, 0, none⟩)] w (Tells (afF s (x, y)) w) := by
  have hb := alloc_h w (Obj.cells #[Value.int .i64 x, .int .i64 y] 40)

  have hd0 := nw_cell hb hc0
  go_enter Try.func23, Try.ntmps23
  go_wp2_with fail
  go_ret
  exact ⟨rfl, hb⟩
set_option maxHeartbeats 2000000 in
theorem count_Gain_1 {w : World} {A : Option Addr} {n c : Nat} {X : List T2} {g1 : Nat} {s : Int} (hl : Hid (X.length = n)) (hn : n ≤ 1099511627776) (hr : Rd w w.heap.size A (t2s X)) (hc0 : w.cell? ⟨g1, 0, none⟩ = some (.int .i64 s)) :
    Calls Try.prog 21 #[.slice A n c, .func (.func 23) #[] #[.pointer (some ⟨g1, 0, none⟩)]] w (fun e w' => e = .returned (.int .i64 (X.countP (afF s) : Nat)) ∧ Below w.heap.size w w') := by
  go_enter Try.func21, Try.ntmps21
  go_wp2_with fail
  go_loopw [5, 10] (fun m i wr => ∃ k q : Nat, k ≤ n ∧ q ≤ k ∧ i = .int .i64 k ∧ m = .int .i64 q ∧ Hid (q = cnt2 (afF s) X k) ∧ Below w.heap.size w wr) (fun _ i _ => n - (intOf i).toNat)
  case atStart => exact ⟨0, 0, Nat.zero_le _, Nat.zero_le _, rfl, rfl, Lib.hid rfl, Below.refl _ _⟩
  case round =>
    obtain ⟨k, q, hk, hqk, rfl, rfl, hq, hb⟩ := hrel
    by_cases hlt : k < n
    · have hkz : k < X.length := by rw [hl.out]; exact hlt
      obtain ⟨ad, p, rfl, hp, hab, h0, h1⟩ := t2_cells ((hr.below hb).more hb.size) hkz
      have i0 : (0 : Int) ≤ (k : Int) := by omega
      have i1 : (k : Int) < (n : Int) := by omega
      have HS := Lib.hid (cnt2_succ (afF s) hkz)
      obtain ⟨x, hxe⟩ : ∃ x, x = X[k] := ⟨_, rfl⟩
      rw [← hxe] at h0 h1 HS
      obtain ⟨W1, hW, bx, hb1, hz⟩ := box2 wr 40 (.int .i64 x.1) (.int .i64 x.2)
      have HW := Lib.hid hW
      obtain ⟨b0, b1⟩ := bx.two
      have hb2 := hb.trans (hb1.mono hb.size)

      have hd0 := nw_cell hb1 (nw_cell2 hb hc0)
      obtain ⟨r, hre⟩ : ∃ r, afF s (x.1, x.2) = r := ⟨_, rfl⟩
      have HRE := Lib.hid hre
      have HS2 := Lib.hid (show cnt2 (afF s) X (k + 1) = cnt2 (afF s) X k + (if r then 1 else 0) by rw [HS.out, ← hre])
      clear hxe hW hz hre
      go_wp2_with fail
      rw [HW.out]
      try (go_wp2_with fail)
      refine (Gain_1_any hd0).mono ?_
      rintro e w2 ⟨rfl, hb3⟩
      rw [HRE.out]
      have hb4 := hb2.trans (hb3.mono hb2.size)
      cases r with
      | true =>
        have HN := Lib.hid (show q + 1 = cnt2 (afF s) X (k + 1) by rw [HS2.out, hq.out]; simp)
        go_wp2_with fail
        go_roundw
        case rel => exact ⟨k + 1, q + 1, by omega, by omega, by go_num, by go_num, HN, hb4⟩
        case measure => simp [intOf]; omega
      | false =>
        have HN := Lib.hid (show q = cnt2 (afF s) X (k + 1) by rw [HS2.out, hq.out]; simp)
        go_wp2_with fail
        go_roundw
        case rel => exact ⟨k + 1, q, by omega, by omega, by go_num, by go_num, HN, hb4⟩
        case measure => simp [intOf]; omega
    · have e : k = n := by omega
      subst e
      have HV := Lib.hid (show q = X.countP (afF s) by rw [hq.out, cnt2_all _ hl.out])
      go_wp2_with fail
      go_ret
      exact ⟨ret_i (by rw [HV.out]), hb⟩
set_option maxHeartbeats 1000000 in
theorem Gain_2_any {w : World} {g1 : Nat} {s : Int} {x y : Int} (hc0 : w.cell? ⟨g1, 0, none⟩ = some (.int .i64 s)) :
    Calls Try.prog 24 #[.agg #[.int .i64 x, .int .i64 y], .pointer (some ⟨g1, 0, none⟩)] w (Tells (beF s (x, y)) w) := by
  have hb := alloc_h w (Obj.cells #[Value.int .i64 x, .int .i64 y] 40)

  have hd0 := nw_cell hb hc0
  go_enter Try.func24, Try.ntmps24
  go_wp2_with fail
  go_ret
  exact ⟨rfl, hb⟩
set_option maxHeartbeats 2000000 in
theorem count_Gain_2 {w : World} {A : Option Addr} {n c : Nat} {X : List T2} {g1 : Nat} {s : Int} (hl : Hid (X.length = n)) (hn : n ≤ 1099511627776) (hr : Rd w w.heap.size A (t2s X)) (hc0 : w.cell? ⟨g1, 0, none⟩ = some (.int .i64 s)) :
    Calls Try.prog 21 #[.slice A n c, .func (.func 24) #[] #[.pointer (some ⟨g1, 0, none⟩)]] w (fun e w' => e = .returned (.int .i64 (X.countP (beF s) : Nat)) ∧ Below w.heap.size w w') := by
  go_enter Try.func21, Try.ntmps21
  go_wp2_with fail
  go_loopw [5, 10] (fun m i wr => ∃ k q : Nat, k ≤ n ∧ q ≤ k ∧ i = .int .i64 k ∧ m = .int .i64 q ∧ Hid (q = cnt2 (beF s) X k) ∧ Below w.heap.size w wr) (fun _ i _ => n - (intOf i).toNat)
  case atStart => exact ⟨0, 0, Nat.zero_le _, Nat.zero_le _, rfl, rfl, Lib.hid rfl, Below.refl _ _⟩
  case round =>
    obtain ⟨k, q, hk, hqk, rfl, rfl, hq, hb⟩ := hrel
    by_cases hlt : k < n
    · have hkz : k < X.length := by rw [hl.out]; exact hlt
      obtain ⟨ad, p, rfl, hp, hab, h0, h1⟩ := t2_cells ((hr.below hb).more hb.size) hkz
      have i0 : (0 : Int) ≤ (k : Int) := by omega
      have i1 : (k : Int) < (n : Int) := by omega
      have HS := Lib.hid (cnt2_succ (beF s) hkz)
      obtain ⟨x, hxe⟩ : ∃ x, x = X[k] := ⟨_, rfl⟩
      rw [← hxe] at h0 h1 HS
      obtain ⟨W1, hW, bx, hb1, hz⟩ := box2 wr 40 (.int .i64 x.1) (.int .i64 x.2)
      have HW := Lib.hid hW
      obtain ⟨b0, b1⟩ := bx.two
      have hb2 := hb.trans (hb1.mono hb.size)

      have hd0 := nw_cell hb1 (nw_cell2 hb hc0)
      obtain ⟨r, hre⟩ : ∃ r, beF s (x.1, x.2) = r := ⟨_, rfl⟩
      have HRE := Lib.hid hre
      have HS2 := Lib.hid (show cnt2 (beF s) X (k + 1) = cnt2 (beF s) X k + (if r then 1 else 0) by rw [HS.out, ← hre])
      clear hxe hW hz hre
      go_wp2_with fail
      rw [HW.out]
      try (go_wp2_with fail)
      refine (Gain_2_any hd0).mono ?_
      rintro e w2 ⟨rfl, hb3⟩
      rw [HRE.out]
      have hb4 := hb2.trans (hb3.mono hb2.size)
      cases r with
      | true =>
        have HN := Lib.hid (show q + 1 = cnt2 (beF s) X (k + 1) by rw [HS2.out, hq.out]; simp)
        go_wp2_with fail
        go_roundw
        case rel => exact ⟨k + 1, q + 1, by omega, by omega, by go_num, by go_num, HN, hb4⟩
        case measure => simp [intOf]; omega
      | false =>
        have HN := Lib.hid (show q = cnt2 (beF s) X (k + 1) by rw [HS2.out, hq.out]; simp)
        go_wp2_with fail
        go_roundw
        case rel => exact ⟨k + 1, q, by omega, by omega, by go_num, by go_num, HN, hb4⟩
        case measure => simp [intOf]; omega
    · have e : k = n := by omega
      subst e
      have HV := Lib.hid (show q = X.countP (beF s) by rw [hq.out, cnt2_all _ hl.out])
      go_wp2_with fail
      go_ret
      exact ⟨ret_i (by rw [HV.out]), hb⟩
set_option maxHeartbeats 1000000 in
theorem Unmoved_1_any {w : World} {x y : Int}  :
    Calls Try.prog 25 #[.agg #[.int .i64 x, .int .i64 y]] w (Tells (unF (x, y)) w) := by
  have hb := alloc_h w (Obj.cells #[Value.int .i64 x, .int .i64 y] 40)

  go_enter Try.func25, Try.ntmps25
  go_wp2_with fail
  go_ret
  exact ⟨rfl, hb⟩
set_option maxHeartbeats 2000000 in
theorem count_Unmoved_1 {w : World} {A : Option Addr} {n c : Nat} {X : List T2} (hl : Hid (X.length = n)) (hn : n ≤ 1099511627776) (hr : Rd w w.heap.size A (t2s X))  :
    Calls Try.prog 21 #[.slice A n c, .func (.func 25) #[] #[]] w (fun e w' => e = .returned (.int .i64 (X.countP (unF) : Nat)) ∧ Below w.heap.size w w') := by
  go_enter Try.func21, Try.ntmps21
  go_wp2_with fail
  go_loopw [5, 10] (fun m i wr => ∃ k q : Nat, k ≤ n ∧ q ≤ k ∧ i = .int .i64 k ∧ m = .int .i64 q ∧ Hid (q = cnt2 (unF) X k) ∧ Below w.heap.size w wr) (fun _ i _ => n - (intOf i).toNat)
  case atStart => exact ⟨0, 0, Nat.zero_le _, Nat.zero_le _, rfl, rfl, Lib.hid rfl, Below.refl _ _⟩
  case round =>
    obtain ⟨k, q, hk, hqk, rfl, rfl, hq, hb⟩ := hrel
    by_cases hlt : k < n
    · have hkz : k < X.length := by rw [hl.out]; exact hlt
      obtain ⟨ad, p, rfl, hp, hab, h0, h1⟩ := t2_cells ((hr.below hb).more hb.size) hkz
      have i0 : (0 : Int) ≤ (k : Int) := by omega
      have i1 : (k : Int) < (n : Int) := by omega
      have HS := Lib.hid (cnt2_succ (unF) hkz)
      obtain ⟨x, hxe⟩ : ∃ x, x = X[k] := ⟨_, rfl⟩
      rw [← hxe] at h0 h1 HS
      obtain ⟨W1, hW, bx, hb1, hz⟩ := box2 wr 40 (.int .i64 x.1) (.int .i64 x.2)
      have HW := Lib.hid hW
      obtain ⟨b0, b1⟩ := bx.two
      have hb2 := hb.trans (hb1.mono hb.size)

      obtain ⟨r, hre⟩ : ∃ r, unF (x.1, x.2) = r := ⟨_, rfl⟩
      have HRE := Lib.hid hre
      have HS2 := Lib.hid (show cnt2 (unF) X (k + 1) = cnt2 (unF) X k + (if r then 1 else 0) by rw [HS.out, ← hre])
      clear hxe hW hz hre
      go_wp2_with fail
      rw [HW.out]
      try (go_wp2_with fail)
      refine (Unmoved_1_any ).mono ?_
      rintro e w2 ⟨rfl, hb3⟩
      rw [HRE.out]
      have hb4 := hb2.trans (hb3.mono hb2.size)
      cases r with
      | true =>
        have HN := Lib.hid (show q + 1 = cnt2 (unF) X (k + 1) by rw [HS2.out, hq.out]; simp)
        go_wp2_with fail
        go_roundw
        case rel => exact ⟨k + 1, q + 1, by omega, by omega, by go_num, by go_num, HN, hb4⟩
        case measure => simp [intOf]; omega
      | false =>
        have HN := Lib.hid (show q = cnt2 (unF) X (k + 1) by rw [HS2.out, hq.out]; simp)
        go_wp2_with fail
        go_roundw
        case rel => exact ⟨k + 1, q, by omega, by omega, by go_num, by go_num, HN, hb4⟩
        case measure => simp [intOf]; omega
    · have e : k = n := by omega
      subst e
      have HV := Lib.hid (show q = X.countP (unF) by rw [hq.out, cnt2_all _ hl.out])
      go_wp2_with fail
      go_ret
      exact ⟨ret_i (by rw [HV.out]), hb⟩
set_option maxHeartbeats 2000000 in
theorem impMoved_any {a b : Int} (hl : Hid (X.length = n)) (hn : n ≤ 1099511627776) (hr : Rd w w.heap.size A (t2s X)) :
    Calls Try.prog 9 #[.slice A n c, .int .i64 a, .int .i64 b] w (fun e w' => e = .returned (.int .i64 (movN X a b)) ∧ Below w.heap.size w w') := by
  have bx := Bx.made w 3 #[Value.int .i64 a]
  obtain ⟨W1, hW1⟩ : ∃ W1, w.alloc (Obj.cells #[Value.int .i64 a] 3) = W1 := ⟨_, rfl⟩
  have hb1 := alloc_h w (Obj.cells #[Value.int .i64 a] 3)
  have hz1 : W1.heap.size = w.heap.size + 1 := by rw [← hW1]; simp
  rw [hW1] at bx hb1
  have bx2 := Bx.made W1 3 #[Value.int .i64 b]
  obtain ⟨W2, hW2⟩ : ∃ W2, W1.alloc (Obj.cells #[Value.int .i64 b] 3) = W2 := ⟨_, rfl⟩
  have hb2 := alloc_h W1 (Obj.cells #[Value.int .i64 b] 3)
  rw [hW2] at bx2 hb2
  have hb := hb1.trans (hb2.mono hb1.size)
  have c0 : W2.cell? ⟨w.heap.size, 0, none⟩ = some (.int .i64 a) := by rw [cell_of_row _ _ _ _ _ _ (bx.new hb2)]; rfl
  have c1 : W2.cell? ⟨w.heap.size + 1, 0, none⟩ = some (.int .i64 b) := by rw [← hz1, cell_of_row _ _ _ _ _ _ bx2]; rfl
  have HW := Lib.hid (show (w.alloc (Obj.cells #[Value.int .i64 a] 3)).alloc (Obj.cells #[Value.int .i64 b] 3) = W2 by rw [hW1, hW2])
  have hr2 := (hr.below hb).more hb.size
  clear hW1 hW2 hz1 bx bx2 hb1 hb2 hr
  go_enter Try.func9, Try.ntmps9
  go_wp2_with fail
  rw [HW.out]
  try (go_wp2_with fail)
  refine (count_Moved_1 hl hn hr2 c0 c1).mono ?_
  rintro e w2 ⟨rfl, hb3⟩
  go_wp2_with fail
  go_ret
  exact ⟨rfl, hb.trans (hb3.mono hb.size)⟩
set_option maxHeartbeats 2000000 in
theorem impGain_any {s : Int} (hl : Hid (X.length = n)) (hn : n ≤ 1099511627776) (hr : Rd w w.heap.size A (t2s X)) :
    Calls Try.prog 10 #[.slice A n c, .int .i64 s] w (fun e w' => e = .returned (.int .i64 (gaiI X s)) ∧ Below w.heap.size w w') := by
  have bx := Bx.made w 3 #[Value.int .i64 s]
  obtain ⟨W1, hW1⟩ : ∃ W1, w.alloc (Obj.cells #[Value.int .i64 s] 3) = W1 := ⟨_, rfl⟩
  have hb := alloc_h w (Obj.cells #[Value.int .i64 s] 3)
  rw [hW1] at bx hb
  have c0 : W1.cell? ⟨w.heap.size, 0, none⟩ = some (.int .i64 s) := by rw [cell_of_row _ _ _ _ _ _ bx]; rfl
  have HW := Lib.hid hW1
  have hr2 := (hr.below hb).more hb.size
  have h1 : X.countP (afF s) ≤ n := by have := cnt2_le (afF s) X n; rw [cnt2_all _ hl.out] at this; exact this
  have h2 : X.countP (beF s) ≤ n := by have := cnt2_le (beF s) X n; rw [cnt2_all _ hl.out] at this; exact this
  obtain ⟨a, ha⟩ : ∃ a, X.countP (afF s) = a := ⟨_, rfl⟩
  obtain ⟨b, hbb⟩ : ∃ b, X.countP (beF s) = b := ⟨_, rfl⟩
  have HV := Lib.hid (show gaiI X s = (a : Int) - (b : Int) by rw [← ha, ← hbb]; rfl)
  have HA := Lib.hid ha
  have HB := Lib.hid hbb
  rw [ha] at h1
  rw [hbb] at h2
  clear hW1 bx hr ha hbb
  go_enter Try.func10, Try.ntmps10
  go_wp2_with fail
  rw [HW.out]
  try (go_wp2_with fail)
  refine (count_Gain_1 hl hn hr2 c0).mono ?_
  rintro e w2 ⟨rfl, hb3⟩
  rw [HA.out]
  have c02 := nw_cell hb3 c0
  have hr3 := (hr2.below hb3).more hb3.size
  go_wp2_with fail
  refine (count_Gain_2 hl hn hr3 c02).mono ?_
  rintro e w3 ⟨rfl, hb4⟩
  rw [HB.out]
  have hb5 := hb.trans ((hb3.trans (hb4.mono hb3.size)).mono hb.size)
  go_wp2_with fail
  go_ret
  exact ⟨ret_i HV.out.symm, hb5⟩
set_option maxHeartbeats 2000000 in
theorem impUnmoved_any (hl : Hid (X.length = n)) (hn : n ≤ 1099511627776) (hr : Rd w w.heap.size A (t2s X)) :
    Calls Try.prog 11 #[.slice A n c] w (fun e w' => e = .returned (.int .i64 (unmN X)) ∧ Below w.heap.size w w') := by
  go_enter Try.func11, Try.ntmps11
  go_wp2_with fail
  refine (count_Unmoved_1 hl hn hr).mono ?_
  rintro e w2 ⟨rfl, hb3⟩
  go_wp2_with fail
  go_ret
  exact ⟨rfl, hb3⟩
end
end Go.Proofs.Ytjfmpgplbcpakaa
