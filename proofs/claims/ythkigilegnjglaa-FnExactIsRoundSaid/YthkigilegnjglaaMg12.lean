/- Contracts of slices.Index and slices.Contains of integers, and of the code's isInEach. Condition: the slices have at most 2^40 elements. -/
import Derived.Test.YthkigilegnjglaaMg7
import Derived.Test.YthkigilegnjglaaMg2
import Derived.Test.YthkigilegnjglaaMg8
import Derived.Test.YthkigilegnjglaaMg10
import Derived.Test.YthkigilegnjglaaMg11
namespace Go.Proofs.Ythkigilegnjglaa
open Go.ChangeShapes Go.WideShapes Go.ChangeAt Go.RowKit
set_option maxRecDepth 100000
theorem index_any {w : World} {B : Nat} {A : Option Addr} {n c : Nat} {a : Int} {S : List Int} (hl : Hid (S.length = n)) (hn : n ≤ 1099511627776) (hr : Rd w B A (ivs S)) :
    Calls Try.prog 66 #[.slice A n c, .int .i64 a] w (fun e w' => (∃ r, e = .returned (.int .i64 r) ∧ decide (0 ≤ r) = S.contains a) ∧ w = w') := by
  go_enter Try.func66, Try.ntmps66
  go_wp2_with fail
  go_loopw [8] (fun i wr => ∃ k : Nat, k ≤ n ∧ i = .int .i64 k ∧ wr = w ∧ Hid ((S.take k).contains a = false)) (fun i _ => n - (intOf i).toNat)
  case atStart => exact ⟨0, Nat.zero_le _, rfl, rfl, Lib.hid rfl⟩
  case round =>
    obtain ⟨k, hk, rfl, rfl, hno⟩ := hrel
    by_cases hlt : k < n
    · have hkz : k < S.length := by rw [hl.out]; exact hlt
      obtain ⟨ad, rfl, hab, hc⟩ := ivs_at hr hkz
      have i0 : (0 : Int) ≤ (k : Int) := by omega
      by_cases h1 : S[k] = a
      · have HY := Lib.hid (show S.contains a = true by rw [List.contains_iff_mem]; exact h1 ▸ List.getElem_mem hkz)
        rw [h1] at hc
        clear h1
        go_wp2_with fail
        go_ret
        exact ⟨⟨k, rfl, by rw [HY.out]; exact decide_eq_true i0⟩, rfl⟩
      · have HN := Lib.hid (show (S.take (k + 1)).contains a = false by
          rw [List.take_succ_eq_append_getElem hkz]
          have := hno.out
          simp only [List.contains_eq_mem, decide_eq_false_iff_not, List.mem_append, List.mem_singleton, not_or] at this ⊢
          exact ⟨this, fun e => h1 e.symm⟩)
        obtain ⟨z, hz⟩ : ∃ z, z = S[k] := ⟨_, rfl⟩
        rw [← hz] at hc h1
        have h1' : (a == z) = false := by simpa using (show ¬ a = z from fun e => h1 e.symm)
        clear hz
        go_wp2_with fail
        go_roundw
        case rel => exact ⟨k + 1, by omega, by go_num, trivial, HN⟩
        case measure => simp [intOf]; omega
    · have e : k = n := by omega
      subst e
      have HF := Lib.hid (show S.contains a = false by have := hno.out; rwa [List.take_of_length_le (by rw [hl.out]; exact Nat.le_refl _)] at this)
      go_wp2_with fail
      go_ret
      exact ⟨⟨-1, rfl, by rw [HF.out]; rfl⟩, rfl⟩
theorem contains_any' {w : World} {B : Nat} {A : Option Addr} {n c : Nat} {a : Int} {S : List Int} (hl : Hid (S.length = n)) (hn : n ≤ 1099511627776) (hr : Rd w B A (ivs S)) :
    Calls Try.prog 119 #[.slice A n c, .int .i64 a] w (fun e w' => e = .returned (.bool (S.contains a)) ∧ w = w') := by
  go_enter Try.func119, Try.ntmps119
  go_wp2_with fail
  refine (index_any hl hn hr).mono ?_
  rintro e w1 ⟨⟨r, rfl, hr2⟩, rfl⟩
  have HR := Lib.hid hr2
  clear hr2
  go_wp2_with fail
  go_ret
  exact ⟨ret_b HR.out, rfl⟩
/-- Whether each list has a number. -/
def eachB (X : List (List Int)) (a : Int) : Bool := X.all fun t => t.contains a
end Go.Proofs.Ythkigilegnjglaa

/- Contract of the code's isTeam (tmF). Condition: at most 2^20 meetings. -/
namespace Go.Proofs.Ythkigilegnjglaa
open Go.ChangeShapes Go.WideShapes Go.ChangeAt Go.RowKit
set_option maxRecDepth 100000
/-- What one team has to keep by itself. -/
def tmF (x : Tm) : Bool := inr x.club 1 99 && inr x.wins 0 x.met.length && inr x.firsts 0 x.met.length && inr x.pts 0 100000 && decide (x.met.length ≤ 20) && !(x.met.contains x.id)
theorem tmF_1 {x : Tm} (h : inr x.club 1 99 = false) : tmF x = false := by unfold tmF; simp [h]
theorem tmF_2 {x : Tm} (h : inr x.wins 0 x.met.length = false) : tmF x = false := by unfold tmF; simp [h]
theorem tmF_3 {x : Tm} (h : inr x.firsts 0 x.met.length = false) : tmF x = false := by unfold tmF; simp [h]
theorem tmF_4 {x : Tm} (h : inr x.pts 0 100000 = false) : tmF x = false := by unfold tmF; simp [h]
theorem tmF_5 {x : Tm} (h : ¬ x.met.length ≤ 20) : tmF x = false := by unfold tmF; rw [decide_eq_false h]; simp
theorem tmF_6 {x : Tm} (h : x.met.contains x.id = true) : tmF x = false := by unfold tmF; rw [h]; simp
theorem tmF_7 {x : Tm} (h1 : inr x.club 1 99 = true) (h2 : inr x.wins 0 x.met.length = true) (h3 : inr x.firsts 0 x.met.length = true) (h4 : inr x.pts 0 100000 = true) (h5 : x.met.length ≤ 20) (h6 : x.met.contains x.id = false) : tmF x = true := by unfold tmF; rw [h1, h2, h3, h4, decide_eq_true h5, h6]; rfl
set_option maxHeartbeats 8000000 in
theorem isTeam_any {w : World} {Aj : Option Addr} {cj : Nat} {x : Tm} (hsl : x.met.length ≤ 1048576) (hs : Rd w w.heap.size Aj (ivs x.met)) :
    Calls Try.prog 77 #[.agg #[Value.int .i64 x.id, .int .i64 x.club, .int .i64 x.wins, .int .i64 x.pts, .int .i64 x.firsts, .slice Aj x.met.length cj]] w (Tells (tmF x) w) := by
  have B1 := alloc_m w (Obj.cells #[Value.int .i64 x.id, .int .i64 x.club, .int .i64 x.wins, .int .i64 x.pts, .int .i64 x.firsts, .slice Aj x.met.length cj] 82)
  have bx := Bx.made w 82 #[Value.int .i64 x.id, .int .i64 x.club, .int .i64 x.wins, .int .i64 x.pts, .int .i64 x.firsts, .slice Aj x.met.length cj]
  obtain ⟨W1, hW⟩ : ∃ W1, w.alloc (Obj.cells #[Value.int .i64 x.id, .int .i64 x.club, .int .i64 x.wins, .int .i64 x.pts, .int .i64 x.firsts, .slice Aj x.met.length cj] 82) = W1 := ⟨_, rfl⟩
  rw [hW] at B1 bx
  have c0 := bx.at_ (k := 0) (v := .int .i64 x.id) rfl
  have c1 := bx.at_ (k := 1) (v := .int .i64 x.club) rfl
  have c2 := bx.at_ (k := 2) (v := .int .i64 x.wins) rfl
  have c3 := bx.at_ (k := 3) (v := .int .i64 x.pts) rfl
  have c4 := bx.at_ (k := 4) (v := .int .i64 x.firsts) rfl
  have c5 := bx.at_ (k := 5) (v := .slice Aj x.met.length cj) rfl
  have HW := Lib.hid hW
  have hrm := (hs.below B1).more B1.size
  obtain ⟨m, hm⟩ : ∃ m, x.met.length = m := ⟨_, rfl⟩
  have HM := Lib.hid hm
  rw [hm] at c5 hsl hW
  have HW2 := Lib.hid hW
  clear bx hW
  cases q1 : inr x.club 1 99 with
  | false =>
    have H1 := Lib.hid q1
    clear q1
    have HV := Lib.hid (tmF_1 (x := x) (by exact H1.out))
    clear hm
    rw [HM.out]
    go_enter Try.func77, Try.ntmps77
    go_wp2_with fail
    rw [HW2.out]
    try (go_wp2_with fail)
    refine (isId_n).mono ?_
    rintro e u1 ⟨rfl, rfl⟩
    rw [H1.out]
    go_wp2_with fail
    go_ret
    exact ⟨ret_b HV.out.symm, B1⟩
  | true =>
    have H1 := Lib.hid q1
    clear q1
    cases q2 : inr x.wins 0 m with
    | false =>
      have H2 := Lib.hid q2
      clear q2
      have HV := Lib.hid (tmF_2 (x := x) (by rw [hm]; exact H2.out))
      clear hm
      rw [HM.out]
      go_enter Try.func77, Try.ntmps77
      go_wp2_with fail
      rw [HW2.out]
      try (go_wp2_with fail)
      refine (isId_n).mono ?_
      rintro e u1 ⟨rfl, rfl⟩
      rw [H1.out]
      go_wp2_with fail
      refine (inRange_any _ _ _ _).mono ?_
      rintro e u2 ⟨rfl, rfl⟩
      rw [H2.out]
      go_wp2_with fail
      go_ret
      exact ⟨ret_b HV.out.symm, B1⟩
    | true =>
      have H2 := Lib.hid q2
      clear q2
      cases q3 : inr x.firsts 0 m with
      | false =>
        have H3 := Lib.hid q3
        clear q3
        have HV := Lib.hid (tmF_3 (x := x) (by rw [hm]; exact H3.out))
        clear hm
        rw [HM.out]
        go_enter Try.func77, Try.ntmps77
        go_wp2_with fail
        rw [HW2.out]
        try (go_wp2_with fail)
        refine (isId_n).mono ?_
        rintro e u1 ⟨rfl, rfl⟩
        rw [H1.out]
        go_wp2_with fail
        refine (inRange_any _ _ _ _).mono ?_
        rintro e u2 ⟨rfl, rfl⟩
        rw [H2.out]
        go_wp2_with fail
        refine (inRange_any _ _ _ _).mono ?_
        rintro e u3 ⟨rfl, rfl⟩
        rw [H3.out]
        go_wp2_with fail
        go_ret
        exact ⟨ret_b HV.out.symm, B1⟩
      | true =>
        have H3 := Lib.hid q3
        clear q3
        cases q4 : inr x.pts 0 100000 with
        | false =>
          have H4 := Lib.hid q4
          clear q4
          have HV := Lib.hid (tmF_4 (x := x) (by exact H4.out))
          clear hm
          rw [HM.out]
          go_enter Try.func77, Try.ntmps77
          go_wp2_with fail
          rw [HW2.out]
          try (go_wp2_with fail)
          refine (isId_n).mono ?_
          rintro e u1 ⟨rfl, rfl⟩
          rw [H1.out]
          go_wp2_with fail
          refine (inRange_any _ _ _ _).mono ?_
          rintro e u2 ⟨rfl, rfl⟩
          rw [H2.out]
          go_wp2_with fail
          refine (inRange_any _ _ _ _).mono ?_
          rintro e u3 ⟨rfl, rfl⟩
          rw [H3.out]
          go_wp2_with fail
          refine (inRange_any _ _ _ _).mono ?_
          rintro e u4 ⟨rfl, rfl⟩
          rw [H4.out]
          go_wp2_with fail
          go_ret
          exact ⟨ret_b HV.out.symm, B1⟩
        | true =>
          have H4 := Lib.hid q4
          clear q4
          by_cases q5 : ¬ m ≤ 20
          · have d1 : decide ((m : Int) ≤ 20) = false := decide_eq_false (by omega)
            have d2 : ¬ (m : Int) ≤ 20 := by omega
            have HV := Lib.hid (tmF_5 (x := x) (by rw [hm]; exact q5))
            clear hm
            rw [HM.out]
            go_enter Try.func77, Try.ntmps77
            go_wp2_with fail
            rw [HW2.out]
            try (go_wp2_with fail)
            refine (isId_n).mono ?_
            rintro e u1 ⟨rfl, rfl⟩
            rw [H1.out]
            go_wp2_with fail
            refine (inRange_any _ _ _ _).mono ?_
            rintro e u2 ⟨rfl, rfl⟩
            rw [H2.out]
            go_wp2_with fail
            refine (inRange_any _ _ _ _).mono ?_
            rintro e u3 ⟨rfl, rfl⟩
            rw [H3.out]
            go_wp2_with fail
            refine (inRange_any _ _ _ _).mono ?_
            rintro e u4 ⟨rfl, rfl⟩
            rw [H4.out]
            go_wp2_with fail
            go_ret
            exact ⟨ret_b HV.out.symm, B1⟩
          have q5 : m ≤ 20 := by omega
          have d1 : decide ((m : Int) ≤ 20) = true := decide_eq_true (by omega)
          have d2 : (m : Int) ≤ 20 := by omega
          cases q6 : x.met.contains x.id with
          | true =>
            have H6 := Lib.hid q6
            clear q6
            have HV := Lib.hid (tmF_6 (x := x) H6.out)
            clear hm
            rw [HM.out]
            go_enter Try.func77, Try.ntmps77
            go_wp2_with fail
            rw [HW2.out]
            try (go_wp2_with fail)
            refine (isId_n).mono ?_
            rintro e u1 ⟨rfl, rfl⟩
            rw [H1.out]
            go_wp2_with fail
            refine (inRange_any _ _ _ _).mono ?_
            rintro e u2 ⟨rfl, rfl⟩
            rw [H2.out]
            go_wp2_with fail
            refine (inRange_any _ _ _ _).mono ?_
            rintro e u3 ⟨rfl, rfl⟩
            rw [H3.out]
            go_wp2_with fail
            refine (inRange_any _ _ _ _).mono ?_
            rintro e u4 ⟨rfl, rfl⟩
            rw [H4.out]
            go_wp2_with fail
            refine (contains_any' (S := x.met) HM (by omega) hrm).mono ?_
            rintro e u6 ⟨rfl, rfl⟩
            rw [H6.out]
            go_wp2_with fail
            go_ret
            exact ⟨ret_b HV.out.symm, B1⟩
          | false =>
            have H6 := Lib.hid q6
            clear q6
            have HV := Lib.hid (tmF_7 (x := x) H1.out (by rw [hm]; exact H2.out) (by rw [hm]; exact H3.out) H4.out (by rw [hm]; exact q5) H6.out)
            clear hm
            rw [HM.out]
            go_enter Try.func77, Try.ntmps77
            go_wp2_with fail
            rw [HW2.out]
            try (go_wp2_with fail)
            refine (isId_n).mono ?_
            rintro e u1 ⟨rfl, rfl⟩
            rw [H1.out]
            go_wp2_with fail
            refine (inRange_any _ _ _ _).mono ?_
            rintro e u2 ⟨rfl, rfl⟩
            rw [H2.out]
            go_wp2_with fail
            refine (inRange_any _ _ _ _).mono ?_
            rintro e u3 ⟨rfl, rfl⟩
            rw [H3.out]
            go_wp2_with fail
            refine (inRange_any _ _ _ _).mono ?_
            rintro e u4 ⟨rfl, rfl⟩
            rw [H4.out]
            go_wp2_with fail
            refine (contains_any' (S := x.met) HM (by omega) hrm).mono ?_
            rintro e u6 ⟨rfl, rfl⟩
            rw [H6.out]
            go_wp2_with fail
            go_ret
            exact ⟨ret_b HV.out.symm, B1⟩
end Go.Proofs.Ythkigilegnjglaa

/- Mathematics of valid teams (atB). No conditions. -/
namespace Go.Proofs.Ythkigilegnjglaa
open Go.ChangeShapes Go.WideShapes Go.ChangeAt Go.RowKit
/-- What one team has to keep, but for having met itself. -/
def tmP (x : Tm) : Bool := inr x.club 1 99 && inr x.wins 0 x.met.length && inr x.firsts 0 x.met.length && inr x.pts 0 100000 && decide (x.met.length ≤ 20)
theorem tmF_eq (x : Tm) : tmF x = (tmP x && !(x.met.contains x.id)) := rfl
/-- All that the model asks of the team at k. -/
def atAt (X : List Tm) (k : Nat) : Bool := ascAt (X.map Tm.id) k && (tmP (X.getD k tmD) && (X.getD k tmD).met.all (muAt X k))
def atB (X : List Tm) : Bool := (List.range X.length).all (atAt X) && decide (X.length ≤ 10)
theorem te_gd {X : List Tm} {k : Nat} (h : k < X.length) : X.getD k tmD = X[k] := by simp [List.getD, List.getElem?_eq_getElem h]
theorem te_ids {X : List Tm} {k : Nat} (h : k < X.length) : (X.map Tm.id).getD k 0 = X[k].id := by
  rw [ascD (by simpa using h)]; simp
theorem atAt_a {X : List Tm} {k : Nat} (h : ascAt (X.map Tm.id) k = false) : atAt X k = false := by unfold atAt; rw [h, Bool.false_and]
theorem atAt_p {X : List Tm} {k : Nat} {x : Tm} (hx : X.getD k tmD = x) (h : tmP x = false) : atAt X k = false := by unfold atAt; rw [hx, h, Bool.false_and, Bool.and_false]
theorem atAt_m {X : List Tm} {k : Nat} {x : Tm} {m : Int} (hx : X.getD k tmD = x) (hm : m ∈ x.met) (h : muAt X k m = false) : atAt X k = false := by
  unfold atAt
  have : x.met.all (muAt X k) = false := by rw [List.all_eq_false]; exact ⟨m, hm, by simp [h]⟩
  rw [hx, this, Bool.and_false, Bool.and_false]
theorem atAt_y {X : List Tm} {k : Nat} {x : Tm} (hx : X.getD k tmD = x) (h1 : ascAt (X.map Tm.id) k = true) (h2 : tmP x = true) (h3 : x.met.all (muAt X k) = true) : atAt X k = true := by unfold atAt; rw [hx, h1, h2, h3]; rfl
theorem te_no {X : List Tm} {k : Nat} (hk : k < X.length) (h : atAt X k = false) : atB X = false := by
  unfold atB
  have : (List.range X.length).all (atAt X) = false := by rw [List.all_eq_false]; exact ⟨k, List.mem_range.2 hk, by simp [h]⟩
  rw [this, Bool.false_and]
theorem te_snoc {X : List Tm} {k : Nat} (h : (List.range k).all (atAt X) = true) (h2 : atAt X k = true) : (List.range (k + 1)).all (atAt X) = true := by
  rw [List.range_succ, List.all_append, h, List.all_cons, h2]
  rfl
theorem te_all {X : List Tm} {n : Nat} (hl : X.length = n) (h : (List.range n).all (atAt X) = true) : atB X = decide (n ≤ 10) := by
  unfold atB
  rw [hl, h, Bool.true_and]
theorem te_big {X : List Tm} (h : 10 < X.length) : atB X = false := by
  unfold atB
  rw [decide_eq_false (show ¬ X.length ≤ 10 by omega), Bool.and_false]
theorem te_asc {X : List Tm} (h : atB X = true) : ascB (X.map Tm.id) = true := by
  unfold atB at h
  rw [Bool.and_eq_true] at h
  unfold ascB
  rw [List.all_eq_true]
  intro k hk
  have hk' : k < X.length := by simpa using List.mem_range.1 hk
  have := List.all_eq_true.1 h.1 k (List.mem_range.2 hk')
  unfold atAt at this
  rw [Bool.and_eq_true] at this
  exact this.1
theorem te_len {X : List Tm} (h : atB X = true) : X.length ≤ 10 := by
  unfold atB at h
  rw [Bool.and_eq_true] at h
  exact of_decide_eq_true h.2
theorem te_at {X : List Tm} (h : atB X = true) {k : Nat} (hk : k < X.length) : tmP X[k] = true ∧ ∀ m ∈ X[k].met, muAt X k m = true := by
  unfold atB at h
  rw [Bool.and_eq_true] at h
  have := List.all_eq_true.1 h.1 k (List.mem_range.2 hk)
  unfold atAt at this
  rw [te_gd hk, Bool.and_eq_true, Bool.and_eq_true] at this
  exact ⟨this.2.1, List.all_eq_true.1 this.2.2⟩
theorem te_noasc {X : List Tm} (h : ascB (X.map Tm.id) = false) : atB X = false := by
  cases hb : atB X with
  | false => rfl
  | true => rw [te_asc hb] at h; cases h
theorem te_noteam {X : List Tm} {k : Nat} (hk : k < X.length) (h : tmF X[k] = false) : atB X = false := by
  cases hb : atB X with
  | false => rfl
  | true =>
    exfalso
    have h1 := te_at hb hk
    rw [tmF_eq, h1.1, Bool.true_and] at h
    have hc : X[k].id ∈ X[k].met := by simpa using h
    have h2 := h1.2 _ hc
    rw [mu_self (te_asc hb) hk] at h2
    cases h2
theorem te_self {X : List Tm} (h : (X.take X.length).all tmF = true) : ∀ x ∈ X, x.id ∉ x.met := by
  intro x hx hm
  rw [List.take_length] at h
  have := List.all_eq_true.1 h x hx
  rw [tmF_eq] at this
  simp at this
  exact this.2 hm
theorem te_yes {X : List Tm} {b : Bool} (h1 : ascB (X.map Tm.id) = true) (h2 : (X.take X.length).all tmF = true) (h3 : X.length ≤ 10) (hb : b = true ↔ ∀ e, (gE (evs X) e).isSome = false) : b = atB X := by
  have hs := te_self h2
  rw [mu_iff h1 hs] at hb
  rw [List.take_length] at h2
  rw [Bool.eq_iff_iff, hb]
  constructor
  · intro h
    unfold atB
    rw [Bool.and_eq_true]
    refine ⟨List.all_eq_true.2 fun k hk => ?_, decide_eq_true h3⟩
    have hk' := List.mem_range.1 hk
    refine atAt_y (te_gd hk') (List.all_eq_true.1 (by unfold ascB at h1; exact h1) k (by simpa using hk')) ?_ (List.all_eq_true.2 (h k hk'))
    have := List.all_eq_true.1 h2 _ (List.getElem_mem hk')
    rw [tmF_eq, Bool.and_eq_true] at this
    exact this.1
  · intro h i hi m hm
    exact (te_at h hi).2 m hm
theorem te_allsnoc {X : List Tm} {k : Nat} (h : (X.take k).all tmF = true) (hk : k < X.length) (h2 : tmF X[k] = true) : (X.take (k + 1)).all tmF = true := by
  rw [List.take_succ_eq_append_getElem hk, List.all_append, h, List.all_cons, h2]
  rfl
theorem evs_len : ∀ {X : List Tm}, (∀ x ∈ X, x.met.length ≤ 1048576) → (evs X).length ≤ X.length * 1048576
  | [], _ => by simp [evs]
  | x :: xs, h => by
    have e : evs (x :: xs) = evT x ++ evs xs := rfl
    have h1 := h x (by simp)
    have h2 := evs_len (X := xs) (fun y hy => h y (List.mem_cons_of_mem _ hy))
    have h3 : (evT x).length = x.met.length := by unfold evT; simp
    rw [e, List.length_append, List.length_cons, h3, Nat.add_mul]
    omega
theorem evs_len' {X : List Tm} {x : Tm} {k m n : Nat} (hl : X.length = n) (hk : k ≤ n) (hn : n ≤ 1048576) (hm : m ≤ 1048576) (h : ∀ x ∈ X, x.met.length ≤ 1048576) : (evs (X.take k) ++ (evT x).take m).length ≤ 4000000000000 := by
  have h1 := evs_len (X := X.take k) (fun x hx => h x (List.mem_of_mem_take hx))
  rw [List.length_take, hl, Nat.min_eq_left hk] at h1
  rw [List.length_append, List.length_take]
  omega
theorem tmP_1 {x : Tm} (h : inr x.club 1 99 = false) : tmP x = false := by unfold tmP; simp [h]
theorem tmP_2 {x : Tm} (h : inr x.wins 0 x.met.length = false) : tmP x = false := by unfold tmP; simp [h]
theorem tmP_3 {x : Tm} (h : inr x.firsts 0 x.met.length = false) : tmP x = false := by unfold tmP; simp [h]
theorem tmP_4 {x : Tm} (h : inr x.pts 0 100000 = false) : tmP x = false := by unfold tmP; simp [h]
theorem tmP_5 {x : Tm} (h : ¬ x.met.length ≤ 20) : tmP x = false := by unfold tmP; rw [decide_eq_false h]; simp
theorem tmP_6 {x : Tm} (h1 : inr x.club 1 99 = true) (h2 : inr x.wins 0 x.met.length = true) (h3 : inr x.firsts 0 x.met.length = true) (h4 : inr x.pts 0 100000 = true) (h5 : x.met.length ≤ 20) : tmP x = true := by unfold tmP; rw [h1, h2, h3, h4, decide_eq_true h5]; rfl
theorem mu_none {X : List Tm} {i : Nat} {m : Int} (h : fndO X m = none) : muAt X i m = false := by unfold muAt; rw [h]
theorem mu_same {X : List Tm} {i : Nat} {m : Int} (h : fndO X m = some (i : Int)) : muAt X i m = false := by unfold muAt; rw [h]; simp
theorem mu_some {X : List Tm} {i j : Nat} {m : Int} {x : Tm} (h : fndO X m = some (j : Int)) (hne : ¬ j = i) (hj : j < X.length) (hx : X.getD i tmD = x) : muAt X i m = (X[j].met.count x.id == x.met.count X[j].id) := by
  unfold muAt; rw [h]
  simp only [Int.toNat_natCast, te_gd hj, hx]
  rw [decide_eq_true (show (j : Int) ≠ (i : Int) by omega), Bool.true_and]
theorem mu_cast {a b : Nat} : (a == b) = decide ((a : Int) = (b : Int)) := by
  by_cases h : a = b
  · subst h; simp
  · rw [decide_eq_false (by omega)]; simpa using h
theorem mu_snoc {X : List Tm} {i k : Nat} {l : List Int} (h : (l.take k).all (muAt X i) = true) (hk : k < l.length) (h2 : muAt X i l[k] = true) : (l.take (k + 1)).all (muAt X i) = true := by
  rw [List.take_succ_eq_append_getElem hk, List.all_append, h, List.all_cons, h2]
  rfl
theorem mu_end {X : List Tm} {i n : Nat} {l : List Int} (hl : l.length = n) (h : (l.take n).all (muAt X i) = true) : l.all (muAt X i) = true := by
  rwa [List.take_of_length_le (by omega)] at h
end Go.Proofs.Ythkigilegnjglaa
