/- The law of chapter 15: both sides speak as often, and in turn. No conditions but that the code is small. -/
import Derived.Test.YtignchefkihdaaaDrawOr2
import Derived.Test.YtignchefkihdaaaTurC
import Derived.Test.YtignchefkihdaaaRigC
import Derived.Test.YtignchefkihdaaaAsc
import Derived.Test.YtignchefkihdaaaSame
import Derived.Deep.RegionHeld3
namespace Go.Proofs.Ytignchefkihdaaa
open Go.ChangeShapes Go.WideShapes Go.ChangeAt Go.RowKit
set_option maxRecDepth 100000
theorem rd_nwO {w w' : World} {A : Option Addr} {xs : List Value} (h : Rd w w.heap.size A xs) (r : Below w.heap.size w w') : Rd w' w'.heap.size A xs := (h.below r).more r.size
theorem trans_nwO {a b c : World} (h : Below a.heap.size a b) (r : Below b.heap.size b c) : Below a.heap.size a c := h.trans (r.mono h.size)
theorem cell_nwO {w w' : World} {p : Addr} {v : Value} (r : Below w.heap.size w w') (h : w.cell? p = some v) : w'.cell? p = some v := (r.cell (p := p) (lt_of_cell h)).trans h
theorem ord_sml {m : Nat} {X Y : List Int} (hX : Sml m X) (hY : Sml m Y) : ∀ z ∈ turX X Y, InI z := by
  intro z hz
  have key : ∀ k, k ≤ X.length → X.length = Y.length → ∀ z ∈ ordP X Y X.length k, z ∈ X ∨ z ∈ Y := by
    intro k
    induction k with
    | zero => intro _ _ z hz; simp [ordP] at hz
    | succ k ih =>
      intro hk hl z hz
      rw [ordP_succ] at hz
      rcases List.mem_append.1 hz with h | h
      · exact ih (by omega) hl z h
      · have e1 : X.getD k 0 = X[k]'(by omega) := by simp [List.getD, show k < X.length by omega]
        have e2 : Y.getD k 0 = Y[k]'(by omega) := by simp [List.getD, show k < Y.length by omega]
        unfold ordQ at h
        split at h <;> simp only [e1, e2, List.mem_cons, List.not_mem_nil, or_false] at h <;> rcases h with h | h <;> subst h <;> first | exact .inl (List.getElem_mem _) | exact .inr (List.getElem_mem _)
  cases ht : turO X Y with
  | false => rw [turX_no ht] at hz; cases hz
  | true =>
    rw [turX_yes ht] at hz
    obtain ⟨hl, _, _, _⟩ := tur_parts ht
    rcases key _ (Nat.le_refl _) hl z hz with h | h
    · exact hX.inI z h
    · exact hY.inI z h
set_option maxHeartbeats 8000000 in
theorem or_core {W : World} {A : Option Addr} {n c : Nat} (h : Code8 W A n) (hs : n ≤ 1048576) : Calls Try.prog 6 #[.slice A n c] W (fun e W' => e = .returned (.bool true) ∧ Below W.heap.size W W') := by
  have HC := Lib.hid h
  go_enter Try.func6, Try.ntmps6
  go_wp2_with (go_at_call 13; refine (big_no (by omega)).mono ?_; rintro e w1 ⟨rfl, rfl⟩)
  go_at_call 45
  refine (drawTurn h).mono ?_
  rintro e w2 ⟨X, Y, a, b, hX, hY, rfl, hd, b2⟩
  obtain ⟨Aa, ca, rfl, ra, ka, ma⟩ := hd.ra.rd (n := X.length) (ivs_len X)
  obtain ⟨Ab, cb, rfl, rb, kb, mb⟩ := hd.rb.rd (n := Y.length) (ivs_len Y)
  have HX := Lib.hid hX
  have HY := Lib.hid hY
  have hXl := hX.1
  have hYl := hY.1
  clear h hX hY hd
  go_wp2_with fail
  refine (impTurnOrder_any (S := X) (Z := Y) (Lib.hid rfl) (by omega) (Lib.hid rfl) (by omega) ka ma kb mb ra rb (Lib.hid HX.out.inI) (Lib.hid HY.out.inI)).mono ?_
  rintro e w3 ⟨v, rfl, hrow, r⟩
  have hol := turX_len X Y
  have b3 := trans_nwO b2 r
  replace ra := rd_nwO ra r
  replace rb := rd_nwO rb r
  obtain ⟨Ao, co, rfl, ro, ko, mo⟩ := hrow.rd (n := (turX X Y).length) (ivs_len _)
  clear r hrow b2
  go_wp2_with fail
  refine (specTurnOrder_any (S := X) (Z := Y) (Lib.hid rfl) (by omega) (Lib.hid rfl) (by omega) ra rb).mono ?_
  rintro e w4 ⟨v, rfl, hrow, r⟩
  obtain ⟨Av, cv, rfl, _, _, _⟩ := hrow.rd (n := (turX X Y).length) (ivs_len _)
  have b4 := trans_nwO b3 r
  replace ra := rd_nwO ra r
  replace rb := rd_nwO rb r
  replace ro := rd_nwO ro r
  clear r hrow b3
  cases ht : turO X Y with
  | false =>
    rw [turX_no ht] at ro ko ⊢
    clear ra rb ro ko
    go_wp2_with fail
    refine wp_region_quiet (C := fun u => Below w4.heap.size w4 u ∧ True) (by kernel_rfl) (by kernel_rfl) ⟨(Below.refl w4.heap.size w4).drew, trivial⟩ ?_
    rw [List.toList_toArray]
    go_big_quiet_want
    go_big_quiet_op
    go_big_quiet_on
    go_big_quiet_want
    apply Exists.intro
    refine ⟨fun u hu => ?_, ?_⟩
    · obtain ⟨hu0, hu1⟩ := hu
      unfold Oper.quietAt
      go_simp
      try rfl
    simp only [Act.put, List.setIfInBounds_toArray, List.set_cons_zero, List.set_cons_succ]
    go_big_quiet_on
    go_big_quiet_want
    apply Exists.intro
    refine ⟨fun u hu => ?_, ?_⟩
    · obtain ⟨hu0, hu1⟩ := hu
      unfold Oper.quietAt
      go_simp
      try rfl
    simp only [Act.put, List.setIfInBounds_toArray, List.set_cons_zero, List.set_cons_succ]
    go_big_quiet_on
    go_big_quiet_want
    go_big_quiet_op
    go_big_quiet_on
    repeat go_big_quiet_skip
    go_big_quiet_want
    apply Exists.intro
    refine ⟨fun u hu => ?_, ?_⟩
    · obtain ⟨hu0, hu1⟩ := hu
      unfold Oper.quietAt
      go_simp
      try rfl
    simp only [Act.put, List.setIfInBounds_toArray, List.set_cons_zero, List.set_cons_succ]
    go_big_quiet_on
    refine wpQuiet_nil ?_
    rintro u9 ⟨k9, _⟩
    have b9 := trans_nwO b4 k9
    clear k9 b4
    go_wp2_with fail
    refine (drawNext (HC.out.below b9)).mono ?_
    rintro e w10 ⟨Q, v, d, hQ, rfl, hrow, r⟩
    obtain ⟨Aq, cq, rfl, rq, _, _⟩ := hrow.rd (n := Q.length) (ivs_len Q)
    have b10 := trans_nwO b9 r
    clear r hrow
    go_wp2_with fail
    refine (impNextAfter_any (S := Q) (Lib.hid rfl) (by omega) rq).mono ?_
    rintro e w11 ⟨rfl, r2⟩
    have b11 := trans_nwO b10 r2
    replace rq := rd_nwO rq r2
    clear r2 b10
    by_cases hz : nexN Q d = 0
    · rw [hz]
      go_wp2_with fail
      go_ret
      exact ⟨rfl, b11⟩
    · obtain ⟨hq1, hq2⟩ := nex_in hz
      obtain ⟨x, hx⟩ : ∃ x, nexN Q d = x := ⟨_, rfl⟩
      rw [hx] at hz hq1 ⊢
      have e0 : (x == 0) = false := by simpa using hz
      have HQ1 := Lib.hid hq1
      have HQ2 := Lib.hid hq2
      clear hx hq1 hq2
      go_wp2_with fail
      refine (contains_any (S := Q) (Lib.hid rfl) (by omega) rq).mono ?_
      rintro e u12 ⟨he, rfl⟩
      rw [HQ1.out] at he
      subst he
      go_wp2_with fail
      refine (contains_any (S := Q) (Lib.hid rfl) (by omega) rq).mono ?_
      rintro e u12 ⟨he, rfl⟩
      rw [HQ2.out] at he
      subst he
      go_wp2_with fail
      go_ret
      exact ⟨rfl, b11⟩
  | true =>
    obtain ⟨hl, h1, h6, _⟩ := tur_parts ht
    have hOl : (turX X Y).length = 2 * X.length := by rw [turX_yes ht, ordP_len]
    have hc1 : cntO (turX X Y) X = (X.length : Int) := by rw [turX_yes ht]; exact (ord_cnt ht).1
    have hc2 : cntO (turX X Y) Y = (Y.length : Int) := by rw [turX_yes ht]; exact (ord_cnt ht).2
    have hf1 : fairB (turX X Y) X = true := by rw [turX_yes ht]; exact ord_fair ht X (.inl rfl)
    have hf2 : fairB (turX X Y) Y = true := by rw [turX_yes ht]; exact ord_fair ht Y (.inr rfl)
    have hrg : rigL (turX X Y) X = [Y.getD (X.length - 1) 0, X.getD (X.length - 1) 0] := by rw [turX_yes ht]; exact ord_rig ht
    have hoI := ord_sml HX.out HY.out
    obtain ⟨O, hO⟩ : ∃ O, turX X Y = O := ⟨_, rfl⟩
    rw [hO] at hOl hc1 hc2 hf1 hf2 hrg hoI ro ko hol ⊢
    obtain ⟨N, hN⟩ : ∃ N, X.length = N := ⟨_, rfl⟩
    have hYN : Y.length = N := by omega
    obtain ⟨M, hM⟩ : ∃ M, O.length = M := ⟨_, rfl⟩
    rw [hN] at h1 h6 hOl hc1 hrg ka
    rw [hYN] at hc2 kb
    obtain ⟨m, rfl⟩ : ∃ m, N = m + 1 := ⟨N - 1, by omega⟩
    obtain ⟨ada, rfl, _, ca0⟩ := ivs_at ra (k := m) (by omega)
    obtain ⟨adb, rfl, _, cb0⟩ := ivs_at rb (k := m) (by omega)
    rw [show m + 1 - 1 = m by omega, show Y.getD m 0 = Y[m]'(by omega) by simp [List.getD, show m < Y.length by omega], show X.getD m 0 = X[m]'(by omega) by simp [List.getD, show m < X.length by omega]] at hrg
    obtain ⟨al, hal⟩ : ∃ x, X[m]'(by omega) = x := ⟨_, rfl⟩
    obtain ⟨bl, hbl⟩ : ∃ x, Y[m]'(by omega) = x := ⟨_, rfl⟩
    rw [hal] at ca0 hrg
    rw [hbl] at cb0 hrg
    obtain ⟨N, hNm⟩ : ∃ N, m + 1 = N := ⟨_, rfl⟩
    rw [hNm] at h1 h6 hOl hc1 hc2 ka kb hN hYN
    rw [hN, hYN, hM]
    have HN := Lib.hid hN
    have HYN := Lib.hid hYN
    have HM := Lib.hid hM
    rw [hM] at hOl ko hol
    have HC1 := Lib.hid hc1
    have HC2 := Lib.hid hc2
    have HF1 := Lib.hid hf1
    have HF2 := Lib.hid hf2
    have HRG := Lib.hid hrg
    have HOI := Lib.hid hoI
    have RA := Lib.hid ra
    have RB := Lib.hid rb
    have RO := Lib.hid ro
    have d0 : decide ((0 : Int) < (M : Int)) = true := decide_eq_true (by omega)
    have p0 : (0 : Int) < (M : Int) := by omega
    have ww1 : IntKind.i64.wrap ((N : Int) + (N : Int)) = (M : Int) := by rw [show (N : Int) + (N : Int) = (M : Int) by omega]; exact IntWalk.i64_in _ (by omega)
    have ww2 : IntKind.i64.wrap ((N : Int) - 1) = (m : Int) := by rw [show (N : Int) - 1 = (m : Int) by omega]; exact IntWalk.i64_in _ (by omega)
    have nN : ((N : Int) != (N : Int)) = false := by simp
    have nM : ((M : Int) != (M : Int)) = false := by simp
    have p1 : 0 < M := by omega
    have i2 : m < N := by omega
    have i0 : (0 : Int) ≤ (m : Int) := by omega
    have i1 : (m : Int) < (N : Int) := by omega
    have KE := fun (u : World) (q : Below w4.heap.size w4 u) => show Below w4.heap.size w4 u ∧ u.cell? (ada.add m) = some (.int .i64 al) ∧ u.cell? (adb.add m) = some (.int .i64 bl) from ⟨q, cell_nwO q ca0, cell_nwO q cb0⟩
    clear hOl hc1 hc2 hf1 hf2 hrg hoI hal hbl hN hYN hM ra rb ro hO hl hNm
    have hzl : X.length ≤ ca ∧ Y.length ≤ cb := by rw [HN.out, HYN.out]; exact ⟨ka, kb⟩
    go_wp2_with fail
    have CA : ∀ u : World, Below w4.heap.size w4 u → Calls Try.prog 48 #[.slice Ao M co, .slice (some ada) N ca] u (fun e w' => e = .returned (.int .i64 (N : Int)) ∧ Below u.heap.size u w') := fun u q => by
      have := impCountOf_any (S := O) (Z := X) (c := co) HM (by omega) (by rw [HN.out]; omega) (rd_nwO RO.out q) (rd_nwO RA.out q) HOI (Lib.hid HX.out.inI) hzl.1 ma
      rw [HC1.out, HN.out] at this
      exact this
    have CB : ∀ u : World, Below w4.heap.size w4 u → Calls Try.prog 48 #[.slice Ao M co, .slice (some adb) N cb] u (fun e w' => e = .returned (.int .i64 (N : Int)) ∧ Below u.heap.size u w') := fun u q => by
      have := impCountOf_any (S := O) (Z := Y) (c := co) HM (by omega) (by rw [HYN.out]; omega) (rd_nwO RO.out q) (rd_nwO RB.out q) HOI (Lib.hid HY.out.inI) hzl.2 mb
      rw [HC2.out, HYN.out] at this
      exact this
    have FA : ∀ u : World, Below w4.heap.size w4 u → Calls Try.prog 49 #[.slice Ao M co, .slice (some ada) N ca] u (fun e w' => e = .returned (.bool true) ∧ Below u.heap.size u w') := fun u q => by
      have := impIsFairOrder_any (S := O) (Z := X) (c := co) HM (by omega) (by rw [HN.out]; omega) (rd_nwO RO.out q) (rd_nwO RA.out q) HOI (Lib.hid HX.out.inI) hzl.1 ma
      rw [HF1.out, HN.out] at this
      exact this
    have FB : ∀ u : World, Below w4.heap.size w4 u → Calls Try.prog 49 #[.slice Ao M co, .slice (some adb) N cb] u (fun e w' => e = .returned (.bool true) ∧ Below u.heap.size u w') := fun u q => by
      have := impIsFairOrder_any (S := O) (Z := Y) (c := co) HM (by omega) (by rw [HYN.out]; omega) (rd_nwO RO.out q) (rd_nwO RB.out q) HOI (Lib.hid HY.out.inI) hzl.2 mb
      rw [HF2.out, HYN.out] at this
      exact this
    have RG : ∀ u : World, Below w4.heap.size w4 u → Calls Try.prog 51 #[.slice Ao M co, .slice (some ada) N ca] u (Fresh 3 (ivs [bl, al]) u) := fun u q => by
      have := impRightOfReply_any (S := O) (Z := X) (c := co) HM (by omega) (by rw [HN.out]; omega) (rd_nwO RO.out q) (rd_nwO RA.out q) HOI (Lib.hid HX.out.inI) hzl.1 ma
      rw [HRG.out, HN.out] at this
      exact this
    refine wp_region_held_drew (S := fun u => Below w4.heap.size w4 u ∧ u.cell? (ada.add m) = some (.int .i64 al) ∧ u.cell? (adb.add m) = some (.int .i64 bl)) (by kernel_rfl) ?_ (fun hHeld => ?_)
    · first | with_reducible exact KE _ k7 | with_reducible exact KE _ k6 | with_reducible exact KE _ k5 | with_reducible exact KE _ k4 | with_reducible exact KE _ k3 | with_reducible exact KE _ k2 | with_reducible exact KE _ k1 | with_reducible exact KE _ (Below.refl _ _).drew
    refine wpAnyH_take (i := 0) (v := ?_) rfl (by kernel_rfl) (by kernel_rfl) (by kernel_rfl) (fun _ _ _ h => h) (Or.inl ⟨by rfl, ?_⟩) (by assumption) ?_
    rotate_left
    · intro w hSw
      try dsimp only at hSw
      go_simp
      try with_reducible rfl
    try simp only [Act.put, List.getElem_toArray, List.getElem_cons_zero, List.setIfInBounds_toArray, List.set_cons_zero, List.set_cons_succ]
    refine wpAnyH_take (i := 1) (v := ?_) rfl (by kernel_rfl) (by kernel_rfl) (by kernel_rfl) (fun _ _ _ h => h) (Or.inl ⟨by rfl, ?_⟩) (by assumption) ?_
    rotate_left
    · intro w hSw
      try dsimp only at hSw
      go_simp
      try with_reducible rfl
    try simp only [Act.put, List.getElem_toArray, List.getElem_cons_succ, List.getElem_cons_zero, List.setIfInBounds_toArray, List.set_cons_zero, List.set_cons_succ]
    refine wpAnyH_take (i := 2) (v := ?_) rfl (by kernel_rfl) (by kernel_rfl) (by kernel_rfl) (fun _ _ _ h => h) (Or.inl ⟨by rfl, ?_⟩) (by assumption) ?_
    rotate_left
    · intro w hSw
      try dsimp only at hSw
      go_simp
      try with_reducible rfl
    try simp only [Act.put, List.getElem_toArray, List.getElem_cons_succ, List.getElem_cons_zero, List.setIfInBounds_toArray, List.set_cons_zero, List.set_cons_succ]
    refine wpAnyH_take (i := 3) (v := ?_) rfl (by kernel_rfl) (by kernel_rfl) (by kernel_rfl) (fun _ _ _ h => h) (Or.inl ⟨by rfl, ?_⟩) (by assumption) ?_
    rotate_left
    · intro w hSw
      try dsimp only at hSw
      go_simp
      try with_reducible rfl
    try simp only [Act.put, List.getElem_toArray, List.getElem_cons_succ, List.getElem_cons_zero, List.setIfInBounds_toArray, List.set_cons_zero, List.set_cons_succ]
    refine wpAnyH_take (i := 4) (v := ?_) rfl (by kernel_rfl) (by kernel_rfl) (by kernel_rfl) (fun _ _ _ h => h) (Or.inl ⟨by rfl, ?_⟩) (by assumption) ?_
    rotate_left
    · intro w hSw
      try dsimp only at hSw
      go_simp
      try with_reducible rfl
    try simp only [Act.put, List.getElem_toArray, List.getElem_cons_succ, List.getElem_cons_zero, List.setIfInBounds_toArray, List.set_cons_zero, List.set_cons_succ]
    refine wpAnyH_take (i := 5) (v := ?_) rfl (by kernel_rfl) (by kernel_rfl) (by kernel_rfl) (fun _ _ _ h => h) (Or.inl ⟨by rfl, ?_⟩) (by assumption) ?_
    rotate_left
    · intro w hSw
      try dsimp only at hSw
      go_simp
      try with_reducible rfl
    try simp only [Act.put, List.getElem_toArray, List.getElem_cons_succ, List.getElem_cons_zero, List.setIfInBounds_toArray, List.set_cons_zero, List.set_cons_succ]
    refine wpAnyH_take (i := 6) (v := ?_) rfl (by kernel_rfl) (by kernel_rfl) (by kernel_rfl) (fun _ _ _ h => h) (Or.inl ⟨by rfl, ?_⟩) (by assumption) ?_
    rotate_left
    · intro w hSw
      try dsimp only at hSw
      go_simp
      try with_reducible rfl
    try simp only [Act.put, List.getElem_toArray, List.getElem_cons_succ, List.getElem_cons_zero, List.setIfInBounds_toArray, List.set_cons_zero, List.set_cons_succ]
    refine wpAnyH_take (i := 7) (v := ?_) rfl (by kernel_rfl) (by kernel_rfl) (by kernel_rfl) (fun _ _ _ h => h) (Or.inl ⟨by rfl, ?_⟩) (by assumption) ?_
    rotate_left
    · intro w hSw
      try dsimp only at hSw
      go_simp
      try with_reducible rfl
    try simp only [Act.put, List.getElem_toArray, List.getElem_cons_succ, List.getElem_cons_zero, List.setIfInBounds_toArray, List.set_cons_zero, List.set_cons_succ]
    refine wpAnyH_take (i := 8) (v := ?_) rfl (by kernel_rfl) (by kernel_rfl) (by kernel_rfl) (fun _ _ _ h => h) (Or.inl ⟨by rfl, ?_⟩) (by assumption) ?_
    rotate_left
    · intro w hSw
      try dsimp only at hSw
      go_simp
      try with_reducible rfl
    try simp only [Act.put, List.getElem_toArray, List.getElem_cons_succ, List.getElem_cons_zero, List.setIfInBounds_toArray, List.set_cons_zero, List.set_cons_succ]
    refine wpAnyH_take (i := 9) (v := ?_) rfl (by kernel_rfl) (by kernel_rfl) (by kernel_rfl) (fun _ _ _ h => h) (Or.inl ⟨by rfl, ?_⟩) (by assumption) ?_
    rotate_left
    · intro w hSw
      try dsimp only at hSw
      go_simp
      try with_reducible rfl
    try simp only [Act.put, List.getElem_toArray, List.getElem_cons_succ, List.getElem_cons_zero, List.setIfInBounds_toArray, List.set_cons_zero, List.set_cons_succ]
    refine wpAnyH_take (i := 10) (v := ?_) rfl (by kernel_rfl) (by kernel_rfl) (by kernel_rfl) (fun _ _ _ h => h) (Or.inl ⟨by rfl, ?_⟩) (by assumption) ?_
    rotate_left
    · intro w hSw
      try dsimp only at hSw
      go_simp
      try with_reducible rfl
    try simp only [Act.put, List.getElem_toArray, List.getElem_cons_succ, List.getElem_cons_zero, List.setIfInBounds_toArray, List.set_cons_zero, List.set_cons_succ]
    refine wpAnyH_take (i := 11) (v := ?_) rfl (by kernel_rfl) (by kernel_rfl) (by kernel_rfl) (fun _ _ _ h => h) (Or.inl ⟨by rfl, ?_⟩) (by assumption) ?_
    rotate_left
    · intro w hSw
      try dsimp only at hSw
      go_simp
      try with_reducible rfl
    try simp only [Act.put, List.getElem_toArray, List.getElem_cons_succ, List.getElem_cons_zero, List.setIfInBounds_toArray, List.set_cons_zero, List.set_cons_succ]
    refine wpAnyH_take (i := 12) (v := ?_) rfl (by kernel_rfl) (by kernel_rfl) (by kernel_rfl) (fun _ _ _ h => h) (Or.inl ⟨by rfl, ?_⟩) (by assumption) ?_
    rotate_left
    · intro w hSw
      try dsimp only at hSw
      go_simp
      try with_reducible rfl
    try simp only [Act.put, List.getElem_toArray, List.getElem_cons_succ, List.getElem_cons_zero, List.setIfInBounds_toArray, List.set_cons_zero, List.set_cons_succ]
    refine wpAnyH_take (i := 13) (v := ?_) rfl (by kernel_rfl) (by kernel_rfl) (by kernel_rfl) (fun _ _ _ h => h) (Or.inl ⟨by rfl, ?_⟩) (by assumption) ?_
    rotate_left
    · intro w hSw
      try dsimp only at hSw
      go_simp
      try with_reducible rfl
    try simp only [Act.put, List.getElem_toArray, List.getElem_cons_succ, List.getElem_cons_zero, List.setIfInBounds_toArray, List.set_cons_zero, List.set_cons_succ]
    refine wpAnyH_take (i := 14) (v := ?_) rfl (by kernel_rfl) (by kernel_rfl) (by kernel_rfl) (fun _ _ _ h => h) (Or.inl ⟨by rfl, ?_⟩) (by assumption) ?_
    rotate_left
    · intro w hSw
      try dsimp only at hSw
      go_simp
      try with_reducible rfl
    try simp only [Act.put, List.getElem_toArray, List.getElem_cons_succ, List.getElem_cons_zero, List.setIfInBounds_toArray, List.set_cons_zero, List.set_cons_succ]
    refine wpAnyH_take (i := 16) (v := ?_) rfl (by kernel_rfl) (by kernel_rfl) (by kernel_rfl) (fun _ _ _ h => h) (Or.inl ⟨by rfl, ?_⟩) (by assumption) ?_
    rotate_left
    · intro w hSw
      try dsimp only at hSw
      go_simp
      try with_reducible rfl
    try simp only [Act.put, List.getElem_toArray, List.getElem_cons_succ, List.getElem_cons_zero, List.setIfInBounds_toArray, List.set_cons_zero, List.set_cons_succ]
    refine wpAnyH_take (i := 17) (v := ?_) rfl (by kernel_rfl) (by kernel_rfl) (by kernel_rfl) (fun _ _ _ h => h) (Or.inl ⟨by rfl, ?_⟩) (by assumption) ?_
    rotate_left
    · intro w hSw
      try dsimp only at hSw
      go_simp
      try with_reducible rfl
    try simp only [Act.put, List.getElem_toArray, List.getElem_cons_succ, List.getElem_cons_zero, List.setIfInBounds_toArray, List.set_cons_zero, List.set_cons_succ]
    refine wpAnyH_ready (rs := [15]) (by kernel_rfl) (by simp) ?_
    refine AllReadyH.cons rfl (fun K hK => ?_) AllReadyH.nil
    rw [if_pos (by rfl)]
    go_simp
    go_at_call 48
    refine (CA _ (‹Below w4.heap.size w4 _ ∧ _›).1).mono ?_
    rintro e u1 ⟨rfl, r⟩
    have k1 := trans_nwO (‹Below w4.heap.size w4 _ ∧ _›).1 r
    refine hK.out _ _ ?_ (fun hHeld => ?_)
    · first | with_reducible exact KE _ k7 | with_reducible exact KE _ k6 | with_reducible exact KE _ k5 | with_reducible exact KE _ k4 | with_reducible exact KE _ k3 | with_reducible exact KE _ k2 | with_reducible exact KE _ k1 | with_reducible exact KE _ (Below.refl _ _).drew
    clear hK K
    try simp only [Act.put, List.getElem_toArray, List.getElem_cons_succ, List.getElem_cons_zero, List.setIfInBounds_toArray, List.set_cons_zero, List.set_cons_succ]
    refine wpAnyH_take (i := 18) (v := ?_) rfl (by kernel_rfl) (by kernel_rfl) (by kernel_rfl) (fun _ _ _ h => h) (Or.inl ⟨by rfl, ?_⟩) (by assumption) ?_
    rotate_left
    · intro w hSw
      try dsimp only at hSw
      go_simp
      try with_reducible rfl
    try simp only [Act.put, List.getElem_toArray, List.getElem_cons_succ, List.getElem_cons_zero, List.setIfInBounds_toArray, List.set_cons_zero, List.set_cons_succ]
    refine wpAnyH_take (i := 19) (v := ?_) rfl (by kernel_rfl) (by kernel_rfl) (by kernel_rfl) (fun _ _ _ h => h) (Or.inl ⟨by rfl, ?_⟩) (by assumption) ?_
    rotate_left
    · intro w hSw
      try dsimp only at hSw
      go_simp
      try with_reducible rfl
    try simp only [Act.put, List.getElem_toArray, List.getElem_cons_succ, List.getElem_cons_zero, List.setIfInBounds_toArray, List.set_cons_zero, List.set_cons_succ]
    refine wpAnyH_take (i := 20) (v := ?_) rfl (by kernel_rfl) (by kernel_rfl) (by kernel_rfl) (fun _ _ _ h => h) (Or.inl ⟨by rfl, ?_⟩) (by assumption) ?_
    rotate_left
    · intro w hSw
      try dsimp only at hSw
      go_simp
      try with_reducible rfl
    try simp only [Act.put, List.getElem_toArray, List.getElem_cons_succ, List.getElem_cons_zero, List.setIfInBounds_toArray, List.set_cons_zero, List.set_cons_succ]
    refine wpAnyH_take (i := 21) (v := ?_) rfl (by kernel_rfl) (by kernel_rfl) (by kernel_rfl) (fun _ _ _ h => h) (Or.inl ⟨by rfl, ?_⟩) (by assumption) ?_
    rotate_left
    · intro w hSw
      try dsimp only at hSw
      go_simp
      try with_reducible rfl
    try simp only [Act.put, List.getElem_toArray, List.getElem_cons_succ, List.getElem_cons_zero, List.setIfInBounds_toArray, List.set_cons_zero, List.set_cons_succ]
    refine wpAnyH_take (i := 22) (v := ?_) rfl (by kernel_rfl) (by kernel_rfl) (by kernel_rfl) (fun _ _ _ h => h) (Or.inl ⟨by rfl, ?_⟩) (by assumption) ?_
    rotate_left
    · intro w hSw
      try dsimp only at hSw
      go_simp
      try with_reducible rfl
    try simp only [Act.put, List.getElem_toArray, List.getElem_cons_succ, List.getElem_cons_zero, List.setIfInBounds_toArray, List.set_cons_zero, List.set_cons_succ]
    refine wpAnyH_take (i := 24) (v := ?_) rfl (by kernel_rfl) (by kernel_rfl) (by kernel_rfl) (fun _ _ _ h => h) (Or.inl ⟨by rfl, ?_⟩) (by assumption) ?_
    rotate_left
    · intro w hSw
      try dsimp only at hSw
      go_simp
      try with_reducible rfl
    try simp only [Act.put, List.getElem_toArray, List.getElem_cons_succ, List.getElem_cons_zero, List.setIfInBounds_toArray, List.set_cons_zero, List.set_cons_succ]
    refine wpAnyH_take (i := 25) (v := ?_) rfl (by kernel_rfl) (by kernel_rfl) (by kernel_rfl) (fun _ _ _ h => h) (Or.inl ⟨by rfl, ?_⟩) (by assumption) ?_
    rotate_left
    · intro w hSw
      try dsimp only at hSw
      go_simp
      try with_reducible rfl
    try simp only [Act.put, List.getElem_toArray, List.getElem_cons_succ, List.getElem_cons_zero, List.setIfInBounds_toArray, List.set_cons_zero, List.set_cons_succ]
    refine wpAnyH_ready (rs := [23]) (by kernel_rfl) (by simp) ?_
    refine AllReadyH.cons rfl (fun K hK => ?_) AllReadyH.nil
    rw [if_pos (by rfl)]
    go_simp
    go_at_call 48
    refine (CB _ (‹Below w4.heap.size w4 _ ∧ _›).1).mono ?_
    rintro e u2 ⟨rfl, r⟩
    have k2 := trans_nwO (‹Below w4.heap.size w4 _ ∧ _›).1 r
    refine hK.out _ _ ?_ (fun hHeld => ?_)
    · first | with_reducible exact KE _ k7 | with_reducible exact KE _ k6 | with_reducible exact KE _ k5 | with_reducible exact KE _ k4 | with_reducible exact KE _ k3 | with_reducible exact KE _ k2 | with_reducible exact KE _ k1 | with_reducible exact KE _ (Below.refl _ _).drew
    clear hK K
    try simp only [Act.put, List.getElem_toArray, List.getElem_cons_succ, List.getElem_cons_zero, List.setIfInBounds_toArray, List.set_cons_zero, List.set_cons_succ]
    refine wpAnyH_take (i := 26) (v := ?_) rfl (by kernel_rfl) (by kernel_rfl) (by kernel_rfl) (fun _ _ _ h => h) (Or.inl ⟨by rfl, ?_⟩) (by assumption) ?_
    rotate_left
    · intro w hSw
      try dsimp only at hSw
      go_simp
      try with_reducible rfl
    try simp only [Act.put, List.getElem_toArray, List.getElem_cons_succ, List.getElem_cons_zero, List.setIfInBounds_toArray, List.set_cons_zero, List.set_cons_succ]
    refine wpAnyH_take (i := 27) (v := ?_) rfl (by kernel_rfl) (by kernel_rfl) (by kernel_rfl) (fun _ _ _ h => h) (Or.inl ⟨by rfl, ?_⟩) (by assumption) ?_
    rotate_left
    · intro w hSw
      try dsimp only at hSw
      go_simp
      try with_reducible rfl
    try simp only [Act.put, List.getElem_toArray, List.getElem_cons_succ, List.getElem_cons_zero, List.setIfInBounds_toArray, List.set_cons_zero, List.set_cons_succ]
    refine wpAnyH_take (i := 28) (v := ?_) rfl (by kernel_rfl) (by kernel_rfl) (by kernel_rfl) (fun _ _ _ h => h) (Or.inl ⟨by rfl, ?_⟩) (by assumption) ?_
    rotate_left
    · intro w hSw
      try dsimp only at hSw
      go_simp
      try with_reducible rfl
    try simp only [Act.put, List.getElem_toArray, List.getElem_cons_succ, List.getElem_cons_zero, List.setIfInBounds_toArray, List.set_cons_zero, List.set_cons_succ]
    refine wpAnyH_take (i := 29) (v := ?_) rfl (by kernel_rfl) (by kernel_rfl) (by kernel_rfl) (fun _ _ _ h => h) (Or.inl ⟨by rfl, ?_⟩) (by assumption) ?_
    rotate_left
    · intro w hSw
      try dsimp only at hSw
      go_simp
      try with_reducible rfl
    try simp only [Act.put, List.getElem_toArray, List.getElem_cons_succ, List.getElem_cons_zero, List.setIfInBounds_toArray, List.set_cons_zero, List.set_cons_succ]
    refine wpAnyH_take (i := 30) (v := ?_) rfl (by kernel_rfl) (by kernel_rfl) (by kernel_rfl) (fun _ _ _ h => h) (Or.inl ⟨by rfl, ?_⟩) (by assumption) ?_
    rotate_left
    · intro w hSw
      try dsimp only at hSw
      go_simp
      try with_reducible rfl
    try simp only [Act.put, List.getElem_toArray, List.getElem_cons_succ, List.getElem_cons_zero, List.setIfInBounds_toArray, List.set_cons_zero, List.set_cons_succ]
    refine wpAnyH_ready (rs := [31]) (by kernel_rfl) (by simp) ?_
    refine AllReadyH.cons rfl (fun K hK => ?_) AllReadyH.nil
    rw [if_pos (by rfl)]
    go_simp
    go_at_call 49
    refine (FA _ (‹Below w4.heap.size w4 _ ∧ _›).1).mono ?_
    rintro e u3 ⟨rfl, r⟩
    have k3 := trans_nwO (‹Below w4.heap.size w4 _ ∧ _›).1 r
    refine hK.out _ _ ?_ (fun hHeld => ?_)
    · first | with_reducible exact KE _ k7 | with_reducible exact KE _ k6 | with_reducible exact KE _ k5 | with_reducible exact KE _ k4 | with_reducible exact KE _ k3 | with_reducible exact KE _ k2 | with_reducible exact KE _ k1 | with_reducible exact KE _ (Below.refl _ _).drew
    clear hK K
    try simp only [Act.put, List.getElem_toArray, List.getElem_cons_succ, List.getElem_cons_zero, List.setIfInBounds_toArray, List.set_cons_zero, List.set_cons_succ]
    refine wpAnyH_take (i := 32) (v := ?_) rfl (by kernel_rfl) (by kernel_rfl) (by kernel_rfl) (fun _ _ _ h => h) (Or.inl ⟨by rfl, ?_⟩) (by assumption) ?_
    rotate_left
    · intro w hSw
      try dsimp only at hSw
      go_simp
      try with_reducible rfl
    try simp only [Act.put, List.getElem_toArray, List.getElem_cons_succ, List.getElem_cons_zero, List.setIfInBounds_toArray, List.set_cons_zero, List.set_cons_succ]
    refine wpAnyH_take (i := 33) (v := ?_) rfl (by kernel_rfl) (by kernel_rfl) (by kernel_rfl) (fun _ _ _ h => h) (Or.inl ⟨by rfl, ?_⟩) (by assumption) ?_
    rotate_left
    · intro w hSw
      try dsimp only at hSw
      go_simp
      try with_reducible rfl
    try simp only [Act.put, List.getElem_toArray, List.getElem_cons_succ, List.getElem_cons_zero, List.setIfInBounds_toArray, List.set_cons_zero, List.set_cons_succ]
    refine wpAnyH_take (i := 34) (v := ?_) rfl (by kernel_rfl) (by kernel_rfl) (by kernel_rfl) (fun _ _ _ h => h) (Or.inl ⟨by rfl, ?_⟩) (by assumption) ?_
    rotate_left
    · intro w hSw
      try dsimp only at hSw
      go_simp
      try with_reducible rfl
    try simp only [Act.put, List.getElem_toArray, List.getElem_cons_succ, List.getElem_cons_zero, List.setIfInBounds_toArray, List.set_cons_zero, List.set_cons_succ]
    refine wpAnyH_take (i := 35) (v := ?_) rfl (by kernel_rfl) (by kernel_rfl) (by kernel_rfl) (fun _ _ _ h => h) (Or.inl ⟨by rfl, ?_⟩) (by assumption) ?_
    rotate_left
    · intro w hSw
      try dsimp only at hSw
      go_simp
      try with_reducible rfl
    try simp only [Act.put, List.getElem_toArray, List.getElem_cons_succ, List.getElem_cons_zero, List.setIfInBounds_toArray, List.set_cons_zero, List.set_cons_succ]
    refine wpAnyH_take (i := 36) (v := ?_) rfl (by kernel_rfl) (by kernel_rfl) (by kernel_rfl) (fun _ _ _ h => h) (Or.inl ⟨by rfl, ?_⟩) (by assumption) ?_
    rotate_left
    · intro w hSw
      try dsimp only at hSw
      go_simp
      try with_reducible rfl
    try simp only [Act.put, List.getElem_toArray, List.getElem_cons_succ, List.getElem_cons_zero, List.setIfInBounds_toArray, List.set_cons_zero, List.set_cons_succ]
    refine wpAnyH_ready (rs := [37]) (by kernel_rfl) (by simp) ?_
    refine AllReadyH.cons rfl (fun K hK => ?_) AllReadyH.nil
    rw [if_pos (by rfl)]
    go_simp
    go_at_call 49
    refine (FB _ (‹Below w4.heap.size w4 _ ∧ _›).1).mono ?_
    rintro e u4 ⟨rfl, r⟩
    have k4 := trans_nwO (‹Below w4.heap.size w4 _ ∧ _›).1 r
    refine hK.out _ _ ?_ (fun hHeld => ?_)
    · first | with_reducible exact KE _ k7 | with_reducible exact KE _ k6 | with_reducible exact KE _ k5 | with_reducible exact KE _ k4 | with_reducible exact KE _ k3 | with_reducible exact KE _ k2 | with_reducible exact KE _ k1 | with_reducible exact KE _ (Below.refl _ _).drew
    clear hK K
    try simp only [Act.put, List.getElem_toArray, List.getElem_cons_succ, List.getElem_cons_zero, List.setIfInBounds_toArray, List.set_cons_zero, List.set_cons_succ]
    refine wpAnyH_take (i := 38) (v := ?_) rfl (by kernel_rfl) (by kernel_rfl) (by kernel_rfl) (fun _ _ _ h => h) (Or.inl ⟨by rfl, ?_⟩) (by assumption) ?_
    rotate_left
    · intro w hSw
      try dsimp only at hSw
      go_simp
      try with_reducible rfl
    try simp only [Act.put, List.getElem_toArray, List.getElem_cons_succ, List.getElem_cons_zero, List.setIfInBounds_toArray, List.set_cons_zero, List.set_cons_succ]
    refine wpAnyH_take (i := 39) (v := ?_) rfl (by kernel_rfl) (by kernel_rfl) (by kernel_rfl) (fun _ _ _ h => h) (Or.inl ⟨by rfl, ?_⟩) (by assumption) ?_
    rotate_left
    · intro w hSw
      try dsimp only at hSw
      go_simp
      try with_reducible rfl
    try simp only [Act.put, List.getElem_toArray, List.getElem_cons_succ, List.getElem_cons_zero, List.setIfInBounds_toArray, List.set_cons_zero, List.set_cons_succ]
    refine wpAnyH_take (i := 40) (v := ?_) rfl (by kernel_rfl) (by kernel_rfl) (by kernel_rfl) (fun _ _ _ h => h) (Or.inl ⟨by rfl, ?_⟩) (by assumption) ?_
    rotate_left
    · intro w hSw
      try dsimp only at hSw
      go_simp
      try with_reducible rfl
    try simp only [Act.put, List.getElem_toArray, List.getElem_cons_succ, List.getElem_cons_zero, List.setIfInBounds_toArray, List.set_cons_zero, List.set_cons_succ]
    refine wpAnyH_take (i := 41) (v := ?_) rfl (by kernel_rfl) (by kernel_rfl) (by kernel_rfl) (fun _ _ _ h => h) (Or.inl ⟨by rfl, ?_⟩) (by assumption) ?_
    rotate_left
    · intro w hSw
      try dsimp only at hSw
      go_simp
      try with_reducible rfl
    try simp only [Act.put, List.getElem_toArray, List.getElem_cons_succ, List.getElem_cons_zero, List.setIfInBounds_toArray, List.set_cons_zero, List.set_cons_succ]
    refine wpAnyH_take (i := 42) (v := ?_) rfl (by kernel_rfl) (by kernel_rfl) (by kernel_rfl) (fun _ _ _ h => h) (Or.inl ⟨by rfl, ?_⟩) (by assumption) ?_
    rotate_left
    · intro w hSw
      try dsimp only at hSw
      go_simp
      try with_reducible rfl
    try simp only [Act.put, List.getElem_toArray, List.getElem_cons_succ, List.getElem_cons_zero, List.setIfInBounds_toArray, List.set_cons_zero, List.set_cons_succ]
    refine wpAnyH_take (i := 44) (v := ?_) rfl (by kernel_rfl) (by kernel_rfl) (by kernel_rfl) (fun _ _ _ h => h) (Or.inl ⟨by rfl, ?_⟩) (by assumption) ?_
    rotate_left
    · intro w hSw
      try dsimp only at hSw
      go_simp
      try with_reducible rfl
    try simp only [Act.put, List.getElem_toArray, List.getElem_cons_succ, List.getElem_cons_zero, List.setIfInBounds_toArray, List.set_cons_zero, List.set_cons_succ]
    refine wpAnyH_take (i := 45) (v := ?_) rfl (by kernel_rfl) (by kernel_rfl) (by kernel_rfl) (fun _ _ _ h => h) (Or.inl ⟨by rfl, ?_⟩) (by assumption) ?_
    rotate_left
    · intro w hSw
      try dsimp only at hSw
      go_simp
      try with_reducible rfl
    try simp only [Act.put, List.getElem_toArray, List.getElem_cons_succ, List.getElem_cons_zero, List.setIfInBounds_toArray, List.set_cons_zero, List.set_cons_succ]
    refine wpAnyH_take (i := 46) (v := ?_) rfl (by kernel_rfl) (by kernel_rfl) (by kernel_rfl) (fun _ _ _ h => h) (Or.inl ⟨by rfl, ?_⟩) (by assumption) ?_
    rotate_left
    · intro w hSw
      try dsimp only at hSw
      go_simp
      try with_reducible rfl
    try simp only [Act.put, List.getElem_toArray, List.getElem_cons_succ, List.getElem_cons_zero, List.setIfInBounds_toArray, List.set_cons_zero, List.set_cons_succ]
    refine wpAnyH_take (i := 47) (v := ?_) rfl (by kernel_rfl) (by kernel_rfl) (by kernel_rfl) (fun _ _ _ h => h) (Or.inl ⟨by rfl, ?_⟩) (by assumption) ?_
    rotate_left
    · intro w hSw
      try dsimp only at hSw
      go_simp
      try with_reducible rfl
    try simp only [Act.put, List.getElem_toArray, List.getElem_cons_succ, List.getElem_cons_zero, List.setIfInBounds_toArray, List.set_cons_zero, List.set_cons_succ]
    refine wpAnyH_take (i := 48) (v := ?_) rfl (by kernel_rfl) (by kernel_rfl) (by kernel_rfl) (fun _ _ _ h => h) (Or.inl ⟨by rfl, ?_⟩) (by assumption) ?_
    rotate_left
    · intro w hSw
      try dsimp only at hSw
      go_simp
      try with_reducible rfl
    try simp only [Act.put, List.getElem_toArray, List.getElem_cons_succ, List.getElem_cons_zero, List.setIfInBounds_toArray, List.set_cons_zero, List.set_cons_succ]
    refine wpAnyH_take (i := 49) (v := ?_) rfl (by kernel_rfl) (by kernel_rfl) (by kernel_rfl) (fun _ _ _ h => h) (Or.inl ⟨by rfl, ?_⟩) (by assumption) ?_
    rotate_left
    · intro w hSw
      try dsimp only at hSw
      go_simp
      try with_reducible rfl
    try simp only [Act.put, List.getElem_toArray, List.getElem_cons_succ, List.getElem_cons_zero, List.setIfInBounds_toArray, List.set_cons_zero, List.set_cons_succ]
    refine wpAnyH_take (i := 50) (v := ?_) rfl (by kernel_rfl) (by kernel_rfl) (by kernel_rfl) (fun _ _ _ h => h) (Or.inl ⟨by rfl, ?_⟩) (by assumption) ?_
    rotate_left
    · intro w hSw
      try dsimp only at hSw
      go_simp
      try with_reducible rfl
    try simp only [Act.put, List.getElem_toArray, List.getElem_cons_succ, List.getElem_cons_zero, List.setIfInBounds_toArray, List.set_cons_zero, List.set_cons_succ]
    refine wpAnyH_take (i := 51) (v := ?_) rfl (by kernel_rfl) (by kernel_rfl) (by kernel_rfl) (fun _ _ _ h => h) (Or.inl ⟨by rfl, ?_⟩) (by assumption) ?_
    rotate_left
    · intro w hSw
      try dsimp only at hSw
      go_simp
      try with_reducible rfl
    try simp only [Act.put, List.getElem_toArray, List.getElem_cons_succ, List.getElem_cons_zero, List.setIfInBounds_toArray, List.set_cons_zero, List.set_cons_succ]
    refine wpAnyH_take (i := 52) (v := ?_) rfl (by kernel_rfl) (by kernel_rfl) (by kernel_rfl) (fun _ _ _ h => h) (Or.inl ⟨by rfl, ?_⟩) (by assumption) ?_
    rotate_left
    · intro w hSw
      try dsimp only at hSw
      go_simp
      try with_reducible rfl
    try simp only [Act.put, List.getElem_toArray, List.getElem_cons_succ, List.getElem_cons_zero, List.setIfInBounds_toArray, List.set_cons_zero, List.set_cons_succ]
    refine wpAnyH_take (i := 53) (v := ?_) rfl (by kernel_rfl) (by kernel_rfl) (by kernel_rfl) (fun _ _ _ h => h) (Or.inl ⟨by rfl, ?_⟩) (by assumption) ?_
    rotate_left
    · intro w hSw
      try dsimp only at hSw
      go_simp
      try with_reducible rfl
    try simp only [Act.put, List.getElem_toArray, List.getElem_cons_succ, List.getElem_cons_zero, List.setIfInBounds_toArray, List.set_cons_zero, List.set_cons_succ]
    refine wpAnyH_take (i := 54) (v := ?_) rfl (by kernel_rfl) (by kernel_rfl) (by kernel_rfl) (fun _ _ _ h => h) (Or.inl ⟨by rfl, ?_⟩) (by assumption) ?_
    rotate_left
    · intro w hSw
      try dsimp only at hSw
      go_simp
      try with_reducible rfl
    try simp only [Act.put, List.getElem_toArray, List.getElem_cons_succ, List.getElem_cons_zero, List.setIfInBounds_toArray, List.set_cons_zero, List.set_cons_succ]
    refine wpAnyH_take (i := 55) (v := ?_) rfl (by kernel_rfl) (by kernel_rfl) (by kernel_rfl) (fun _ _ _ h => h) (Or.inl ⟨by rfl, ?_⟩) (by assumption) ?_
    rotate_left
    · intro w hSw
      try dsimp only at hSw
      go_simp
      try with_reducible rfl
    try simp only [Act.put, List.getElem_toArray, List.getElem_cons_succ, List.getElem_cons_zero, List.setIfInBounds_toArray, List.set_cons_zero, List.set_cons_succ]
    refine wpAnyH_ready (rs := [43, 56]) (by kernel_rfl) (by simp) ?_
    refine AllReadyH.cons rfl (fun K hK => ?_) (AllReadyH.cons rfl (fun K hK => ?_) AllReadyH.nil)
    · rw [if_pos (by rfl)]
      go_simp
      go_at_call 51
      refine (RG _ (‹Below w4.heap.size w4 _ ∧ _›).1).mono ?_
      rintro e u5 ⟨v5, rfl, hr5, r5⟩
      obtain ⟨A5, c5, rfl, hd5, _, _⟩ := hr5.rd (n := 2) rfl
      have k5 := trans_nwO (‹Below w4.heap.size w4 _ ∧ _›).1 r5
      refine hK.out _ _ ?_ (fun hHeld => ?_)
      · first | with_reducible exact KE _ k7 | with_reducible exact KE _ k6 | with_reducible exact KE _ k5 | with_reducible exact KE _ k4 | with_reducible exact KE _ k3 | with_reducible exact KE _ k2 | with_reducible exact KE _ k1 | with_reducible exact KE _ (Below.refl _ _).drew
      clear hK K
      try simp only [Act.put, List.getElem_toArray, List.getElem_cons_succ, List.getElem_cons_zero, List.setIfInBounds_toArray, List.set_cons_zero, List.set_cons_succ]
      have q6 : Below u5.heap.size u5 (u5.alloc (Obj.cells #[.int .i64 bl, .int .i64 al] 3)) := (Below.refl _ _).alloc (Nat.le_refl _) _
      have k6 := trans_nwO k5 q6
      have hd6 := rd_nwO hd5 q6
      have hm6 := (Rd.made u5 #[.int .i64 bl, .int .i64 al] 3).more (show u5.heap.size + 1 ≤ (u5.alloc (Obj.cells #[.int .i64 bl, .int .i64 al] 3)).heap.size by simp)
      refine wpAnyH_ready (rs := [56]) (by kernel_rfl) (by simp) ?_
      refine AllReadyH.cons rfl (fun K hK => ?_) AllReadyH.nil
      go_simp
      refine hK.out _ _ ?_ (fun hHeld => ?_)
      · first | with_reducible exact KE _ k7 | with_reducible exact KE _ k6 | with_reducible exact KE _ k5 | with_reducible exact KE _ k4 | with_reducible exact KE _ k3 | with_reducible exact KE _ k2 | with_reducible exact KE _ k1 | with_reducible exact KE _ (Below.refl _ _).drew
      clear hK K
      try simp only [Act.put, List.getElem_toArray, List.getElem_cons_succ, List.getElem_cons_zero, List.setIfInBounds_toArray, List.set_cons_zero, List.set_cons_succ]
      refine wpAnyH_ready (rs := [57]) (by kernel_rfl) (by simp) ?_
      refine AllReadyH.cons rfl (fun K hK => ?_) AllReadyH.nil
      rw [if_pos (by rfl)]
      go_simp
      go_at_call 50
      refine (sameInts_any (zs := [bl, al]) (ys := [bl, al]) (n := 2) (n' := 2) (Lib.hid rfl) (Lib.hid rfl) (by omega) (by omega) hd6 hm6).mono ?_
      rintro e u7 ⟨he, r⟩
      rw [show decide (([bl, al] : List Int) = [bl, al]) = true from decide_eq_true rfl] at he
      subst he
      have k7 := trans_nwO k6 r
      refine hK.out _ _ ?_ (fun hHeld => ?_)
      · first | with_reducible exact KE _ k7 | with_reducible exact KE _ k6 | with_reducible exact KE _ k5 | with_reducible exact KE _ k4 | with_reducible exact KE _ k3 | with_reducible exact KE _ k2 | with_reducible exact KE _ k1 | with_reducible exact KE _ (Below.refl _ _).drew
      clear hK K
      try simp only [Act.put, List.getElem_toArray, List.getElem_cons_succ, List.getElem_cons_zero, List.setIfInBounds_toArray, List.set_cons_zero, List.set_cons_succ]
      refine wpAnyH_take (i := 58) (v := ?_) rfl (by kernel_rfl) (by kernel_rfl) (by kernel_rfl) (fun _ _ _ h => h) (Or.inl ⟨by rfl, ?_⟩) (by assumption) ?_
      rotate_left
      · intro w hSw
        try dsimp only at hSw
        go_simp
        try with_reducible rfl
      try simp only [Act.put, List.getElem_toArray, List.getElem_cons_succ, List.getElem_cons_zero, List.setIfInBounds_toArray, List.set_cons_zero, List.set_cons_succ]
      refine wpAnyH_take (i := 59) (v := ?_) rfl (by kernel_rfl) (by kernel_rfl) (by kernel_rfl) (fun _ _ _ h => h) (Or.inl ⟨by rfl, ?_⟩) (by assumption) ?_
      rotate_left
      · intro w hSw
        try dsimp only at hSw
        go_simp
        try with_reducible rfl
      try simp only [Act.put, List.getElem_toArray, List.getElem_cons_succ, List.getElem_cons_zero, List.setIfInBounds_toArray, List.set_cons_zero, List.set_cons_succ]
      refine wpAnyH_take (i := 60) (v := ?_) rfl (by kernel_rfl) (by kernel_rfl) (by kernel_rfl) (fun _ _ _ h => h) (Or.inl ⟨by rfl, ?_⟩) (by assumption) ?_
      rotate_left
      · intro w hSw
        try dsimp only at hSw
        go_simp
        try with_reducible rfl
      try simp only [Act.put, List.getElem_toArray, List.getElem_cons_succ, List.getElem_cons_zero, List.setIfInBounds_toArray, List.set_cons_zero, List.set_cons_succ]
      refine wpAnyH_done (by kernel_rfl) ?_ _
      have b9 := trans_nwO b4 k7
      go_wp2_with fail
      refine (drawNext (HC.out.below b9)).mono ?_
      rintro e w10 ⟨Q, v, d, hQ, rfl, hrow, r⟩
      obtain ⟨Aq, cq, rfl, rq, _, _⟩ := hrow.rd (n := Q.length) (ivs_len Q)
      have b10 := trans_nwO b9 r
      clear r hrow
      go_wp2_with fail
      refine (impNextAfter_any (S := Q) (Lib.hid rfl) (by omega) rq).mono ?_
      rintro e w11 ⟨rfl, r2⟩
      have b11 := trans_nwO b10 r2
      replace rq := rd_nwO rq r2
      clear r2 b10
      by_cases hz : nexN Q d = 0
      · rw [hz]
        go_wp2_with fail
        go_ret
        exact ⟨rfl, b11⟩
      · obtain ⟨hq1, hq2⟩ := nex_in hz
        obtain ⟨x, hx⟩ : ∃ x, nexN Q d = x := ⟨_, rfl⟩
        rw [hx] at hz hq1 ⊢
        have e0 : (x == 0) = false := by simpa using hz
        have HQ1 := Lib.hid hq1
        have HQ2 := Lib.hid hq2
        clear hx hq1 hq2
        go_wp2_with fail
        refine (contains_any (S := Q) (Lib.hid rfl) (by omega) rq).mono ?_
        rintro e u12 ⟨he, rfl⟩
        rw [HQ1.out] at he
        subst he
        go_wp2_with fail
        refine (contains_any (S := Q) (Lib.hid rfl) (by omega) rq).mono ?_
        rintro e u12 ⟨he, rfl⟩
        rw [HQ2.out] at he
        subst he
        go_wp2_with fail
        go_ret
        exact ⟨rfl, b11⟩
    · have q6 : Below u4.heap.size u4 (u4.alloc (Obj.cells #[.int .i64 bl, .int .i64 al] 3)) := (Below.refl _ _).alloc (Nat.le_refl _) _
      have k6 := trans_nwO k4 q6
      go_simp
      refine hK.out _ _ ?_ (fun hHeld => ?_)
      · first | with_reducible exact KE _ k7 | with_reducible exact KE _ k6 | with_reducible exact KE _ k5 | with_reducible exact KE _ k4 | with_reducible exact KE _ k3 | with_reducible exact KE _ k2 | with_reducible exact KE _ k1 | with_reducible exact KE _ (Below.refl _ _).drew
      clear hK K
      try simp only [Act.put, List.getElem_toArray, List.getElem_cons_succ, List.getElem_cons_zero, List.setIfInBounds_toArray, List.set_cons_zero, List.set_cons_succ]
      refine wpAnyH_ready (rs := [43]) (by kernel_rfl) (by simp) ?_
      refine AllReadyH.cons rfl (fun K hK => ?_) AllReadyH.nil
      rw [if_pos (by rfl)]
      go_simp
      go_at_call 51
      refine (RG _ (‹Below w4.heap.size w4 _ ∧ _›).1).mono ?_
      rintro e u5 ⟨v5, rfl, hr5, r5⟩
      obtain ⟨A5, c5, rfl, hd5, _, _⟩ := hr5.rd (n := 2) rfl
      have k5 := trans_nwO (‹Below w4.heap.size w4 _ ∧ _›).1 r5
      have hm5 := rd_nwO ((Rd.made u4 #[.int .i64 bl, .int .i64 al] 3).more (show u4.heap.size + 1 ≤ (u4.alloc (Obj.cells #[.int .i64 bl, .int .i64 al] 3)).heap.size by simp)) r5
      refine hK.out _ _ ?_ (fun hHeld => ?_)
      · first | with_reducible exact KE _ k7 | with_reducible exact KE _ k6 | with_reducible exact KE _ k5 | with_reducible exact KE _ k4 | with_reducible exact KE _ k3 | with_reducible exact KE _ k2 | with_reducible exact KE _ k1 | with_reducible exact KE _ (Below.refl _ _).drew
      clear hK K
      try simp only [Act.put, List.getElem_toArray, List.getElem_cons_succ, List.getElem_cons_zero, List.setIfInBounds_toArray, List.set_cons_zero, List.set_cons_succ]
      refine wpAnyH_ready (rs := [57]) (by kernel_rfl) (by simp) ?_
      refine AllReadyH.cons rfl (fun K hK => ?_) AllReadyH.nil
      rw [if_pos (by rfl)]
      go_simp
      go_at_call 50
      refine (sameInts_any (zs := [bl, al]) (ys := [bl, al]) (n := 2) (n' := 2) (Lib.hid rfl) (Lib.hid rfl) (by omega) (by omega) hd5 hm5).mono ?_
      rintro e u7 ⟨he, r⟩
      rw [show decide (([bl, al] : List Int) = [bl, al]) = true from decide_eq_true rfl] at he
      subst he
      have k7 := trans_nwO k5 r
      refine hK.out _ _ ?_ (fun hHeld => ?_)
      · first | with_reducible exact KE _ k7 | with_reducible exact KE _ k6 | with_reducible exact KE _ k5 | with_reducible exact KE _ k4 | with_reducible exact KE _ k3 | with_reducible exact KE _ k2 | with_reducible exact KE _ k1 | with_reducible exact KE _ (Below.refl _ _).drew
      clear hK K
      try simp only [Act.put, List.getElem_toArray, List.getElem_cons_succ, List.getElem_cons_zero, List.setIfInBounds_toArray, List.set_cons_zero, List.set_cons_succ]
      refine wpAnyH_take (i := 58) (v := ?_) rfl (by kernel_rfl) (by kernel_rfl) (by kernel_rfl) (fun _ _ _ h => h) (Or.inl ⟨by rfl, ?_⟩) (by assumption) ?_
      rotate_left
      · intro w hSw
        try dsimp only at hSw
        go_simp
        try with_reducible rfl
      try simp only [Act.put, List.getElem_toArray, List.getElem_cons_succ, List.getElem_cons_zero, List.setIfInBounds_toArray, List.set_cons_zero, List.set_cons_succ]
      refine wpAnyH_take (i := 59) (v := ?_) rfl (by kernel_rfl) (by kernel_rfl) (by kernel_rfl) (fun _ _ _ h => h) (Or.inl ⟨by rfl, ?_⟩) (by assumption) ?_
      rotate_left
      · intro w hSw
        try dsimp only at hSw
        go_simp
        try with_reducible rfl
      try simp only [Act.put, List.getElem_toArray, List.getElem_cons_succ, List.getElem_cons_zero, List.setIfInBounds_toArray, List.set_cons_zero, List.set_cons_succ]
      refine wpAnyH_take (i := 60) (v := ?_) rfl (by kernel_rfl) (by kernel_rfl) (by kernel_rfl) (fun _ _ _ h => h) (Or.inl ⟨by rfl, ?_⟩) (by assumption) ?_
      rotate_left
      · intro w hSw
        try dsimp only at hSw
        go_simp
        try with_reducible rfl
      try simp only [Act.put, List.getElem_toArray, List.getElem_cons_succ, List.getElem_cons_zero, List.setIfInBounds_toArray, List.set_cons_zero, List.set_cons_succ]
      refine wpAnyH_done (by kernel_rfl) ?_ _
      have b9 := trans_nwO b4 k7
      go_wp2_with fail
      refine (drawNext (HC.out.below b9)).mono ?_
      rintro e w10 ⟨Q, v, d, hQ, rfl, hrow, r⟩
      obtain ⟨Aq, cq, rfl, rq, _, _⟩ := hrow.rd (n := Q.length) (ivs_len Q)
      have b10 := trans_nwO b9 r
      clear r hrow
      go_wp2_with fail
      refine (impNextAfter_any (S := Q) (Lib.hid rfl) (by omega) rq).mono ?_
      rintro e w11 ⟨rfl, r2⟩
      have b11 := trans_nwO b10 r2
      replace rq := rd_nwO rq r2
      clear r2 b10
      by_cases hz : nexN Q d = 0
      · rw [hz]
        go_wp2_with fail
        go_ret
        exact ⟨rfl, b11⟩
      · obtain ⟨hq1, hq2⟩ := nex_in hz
        obtain ⟨x, hx⟩ : ∃ x, nexN Q d = x := ⟨_, rfl⟩
        rw [hx] at hz hq1 ⊢
        have e0 : (x == 0) = false := by simpa using hz
        have HQ1 := Lib.hid hq1
        have HQ2 := Lib.hid hq2
        clear hx hq1 hq2
        go_wp2_with fail
        refine (contains_any (S := Q) (Lib.hid rfl) (by omega) rq).mono ?_
        rintro e u12 ⟨he, rfl⟩
        rw [HQ1.out] at he
        subst he
        go_wp2_with fail
        refine (contains_any (S := Q) (Lib.hid rfl) (by omega) rq).mono ?_
        rintro e u12 ⟨he, rfl⟩
        rw [HQ2.out] at he
        subst he
        go_wp2_with fail
        go_ret
        exact ⟨rfl, b11⟩
end Go.Proofs.Ytignchefkihdaaa
