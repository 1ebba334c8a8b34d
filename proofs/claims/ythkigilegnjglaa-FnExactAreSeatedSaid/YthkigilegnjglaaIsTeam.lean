/- Contract of the code's isTeam (tmF). Condition: at most 2^20 meetings. -/
import Derived.Test.YthkigilegnjglaaMg9
import Derived.Test.YthkigilegnjglaaMg11
import Derived.Test.YthkigilegnjglaaInAllC
namespace Go.Proofs.Ythkigilegnjglaa
open Go.ChangeShapes Go.WideShapes Go.ChangeAt Go.RowKit
set_option maxRecDepth 100000
/-- What one team has to keep by itself. -/
def tmF (x : Tm) : Bool := inr x.club 1 99 && inr x.wins 0 x.met.length && inr x.firsts 0 x.met.length && inr x.pts 0 100000 && decide (x.met.length ≤ 20) && !(x.met.contains x.id)
theorem tmF_1 {x : Tm} (h : inr x.club 1 99 = false) : tmF x = false := by unfold tmF; simp [h]
theorem tmF_2 {x : Tm} (h : inr x.wins 0 x.met.length = false) : tmF x = false := by unfold tmF; simp [h]
theorem tmF_3 {x : Tm} (h : inr x.firsts 0 x.met.length = false) : tmF x = false := by unfold tmF; simp [h]
theorem tmF_4 {x : Tm} (h : inr x.pts 0 100000 = false) : tmF x = false := by unfold tmF; simp [h]
theorem tmF_5 {x : Tm} (h : ¬ x.met.length ≤ 20) : tmF x = false := by unfold tmF; rw [decide_eq_false h]; simp
theorem tmF_6 {x : Tm} (h : x.met.contains x.id = true) : tmF x = false := by unfold tmF; rw [h]; simp
theorem tmF_7 {x : Tm} (h1 : inr x.club 1 99 = true) (h2 : inr x.wins 0 x.met.length = true) (h3 : inr x.firsts 0 x.met.length = true) (h4 : inr x.pts 0 100000 = true) (h5 : x.met.length ≤ 20) (h6 : x.met.contains x.id = false) : tmF x = true := by unfold tmF; rw [h1, h2, h3, h4, decide_eq_true h5, h6]; rfl
set_option maxHeartbeats 8000000 in
theorem isTeam_any {w : World} {Aj : Option Addr} {cj : Nat} {x : Tm} (hsl : x.met.length ≤ 1048576) (hs : Rd w w.heap.size Aj (ivs x.met)) :
    Calls Try.prog 77 #[.agg #[Value.int .i64 x.id, .int .i64 x.club, .int .i64 x.wins, .int .i64 x.pts, .int .i64 x.firsts, .slice Aj x.met.length cj]] w (Tells (tmF x) w) := by
  have B1 := alloc_m w (Obj.cells #[Value.int .i64 x.id, .int .i64 x.club, .int .i64 x.wins, .int .i64 x.pts, .int .i64 x.firsts, .slice Aj x.met.length cj] 82)
  have bx := Bx.made w 82 #[Value.int .i64 x.id, .int .i64 x.club, .int .i64 x.wins, .int .i64 x.pts, .int .i64 x.firsts, .slice Aj x.met.length cj]
  obtain ⟨W1, hW⟩ : ∃ W1, w.alloc (Obj.cells #[Value.int .i64 x.id, .int .i64 x.club, .int .i64 x.wins, .int .i64 x.pts, .int .i64 x.firsts, .slice Aj x.met.length cj] 82) = W1 := ⟨_, rfl⟩
  rw [hW] at B1 bx
  have c0 := bx.at_ (k := 0) (v := .int .i64 x.id) rfl
  have c1 := bx.at_ (k := 1) (v := .int .i64 x.club) rfl
  have c2 := bx.at_ (k := 2) (v := .int .i64 x.wins) rfl
  have c3 := bx.at_ (k := 3) (v := .int .i64 x.pts) rfl
  have c4 := bx.at_ (k := 4) (v := .int .i64 x.firsts) rfl
  have c5 := bx.at_ (k := 5) (v := .slice Aj x.met.length cj) rfl
  have HW := Lib.hid hW
  have hrm := (hs.below B1).more B1.size
  obtain ⟨m, hm⟩ : ∃ m, x.met.length = m := ⟨_, rfl⟩
  have HM := Lib.hid hm
  rw [hm] at c5 hsl hW
  have HW2 := Lib.hid hW
  clear bx hW
  cases q1 : inr x.club 1 99 with
  | false =>
    have H1 := Lib.hid q1
    clear q1
    have HV := Lib.hid (tmF_1 (x := x) (by exact H1.out))
    clear hm
    rw [HM.out]
    go_enter Try.func77, Try.ntmps77
    go_wp2_with fail
    rw [HW2.out]
    try (go_wp2_with fail)
    refine (isId_n).mono ?_
    rintro e u1 ⟨rfl, rfl⟩
    rw [H1.out]
    go_wp2_with fail
    go_ret
    exact ⟨ret_b HV.out.symm, B1⟩
  | true =>
    have H1 := Lib.hid q1
    clear q1
    cases q2 : inr x.wins 0 m with
    | false =>
      have H2 := Lib.hid q2
      clear q2
      have HV := Lib.hid (tmF_2 (x := x) (by rw [hm]; exact H2.out))
      clear hm
      rw [HM.out]
      go_enter Try.func77, Try.ntmps77
      go_wp2_with fail
      rw [HW2.out]
      try (go_wp2_with fail)
      refine (isId_n).mono ?_
      rintro e u1 ⟨rfl, rfl⟩
      rw [H1.out]
      go_wp2_with fail
      refine (inRange_any _ _ _ _).mono ?_
      rintro e u2 ⟨rfl, rfl⟩
      rw [H2.out]
      go_wp2_with fail
      go_ret
      exact ⟨ret_b HV.out.symm, B1⟩
    | true =>
      have H2 := Lib.hid q2
      clear q2
      cases q3 : inr x.firsts 0 m with
      | false =>
        have H3 := Lib.hid q3
        clear q3
        have HV := Lib.hid (tmF_3 (x := x) (by rw [hm]; exact H3.out))
        clear hm
        rw [HM.out]
        go_enter Try.func77, Try.ntmps77
        go_wp2_with fail
        rw [HW2.out]
        try (go_wp2_with fail)
        refine (isId_n).mono ?_
        rintro e u1 ⟨rfl, rfl⟩
        rw [H1.out]
        go_wp2_with fail
        refine (inRange_any _ _ _ _).mono ?_
        rintro e u2 ⟨rfl, rfl⟩
        rw [H2.out]
        go_wp2_with fail
        refine (inRange_any _ _ _ _).mono ?_
        rintro e u3 ⟨rfl, rfl⟩
        rw [H3.out]
        go_wp2_with fail
        go_ret
        exact ⟨ret_b HV.out.symm, B1⟩
      | true =>
        have H3 := Lib.hid q3
        clear q3
        cases q4 : inr x.pts 0 100000 with
        | false =>
          have H4 := Lib.hid q4
          clear q4
          have HV := Lib.hid (tmF_4 (x := x) (by exact H4.out))
          clear hm
          rw [HM.out]
          go_enter Try.func77, Try.ntmps77
          go_wp2_with fail
          rw [HW2.out]
          try (go_wp2_with fail)
          refine (isId_n).mono ?_
          rintro e u1 ⟨rfl, rfl⟩
          rw [H1.out]
          go_wp2_with fail
          refine (inRange_any _ _ _ _).mono ?_
          rintro e u2 ⟨rfl, rfl⟩
          rw [H2.out]
          go_wp2_with fail
          refine (inRange_any _ _ _ _).mono ?_
          rintro e u3 ⟨rfl, rfl⟩
          rw [H3.out]
          go_wp2_with fail
          refine (inRange_any _ _ _ _).mono ?_
          rintro e u4 ⟨rfl, rfl⟩
          rw [H4.out]
          go_wp2_with fail
          go_ret
          exact ⟨ret_b HV.out.symm, B1⟩
        | true =>
          have H4 := Lib.hid q4
          clear q4
          by_cases q5 : ¬ m ≤ 20
          · have d1 : decide ((m : Int) ≤ 20) = false := decide_eq_false (by omega)
            have d2 : ¬ (m : Int) ≤ 20 := by omega
            have HV := Lib.hid (tmF_5 (x := x) (by rw [hm]; exact q5))
            clear hm
            rw [HM.out]
            go_enter Try.func77, Try.ntmps77
            go_wp2_with fail
            rw [HW2.out]
            try (go_wp2_with fail)
            refine (isId_n).mono ?_
            rintro e u1 ⟨rfl, rfl⟩
            rw [H1.out]
            go_wp2_with fail
            refine (inRange_any _ _ _ _).mono ?_
            rintro e u2 ⟨rfl, rfl⟩
            rw [H2.out]
            go_wp2_with fail
            refine (inRange_any _ _ _ _).mono ?_
            rintro e u3 ⟨rfl, rfl⟩
            rw [H3.out]
            go_wp2_with fail
            refine (inRange_any _ _ _ _).mono ?_
            rintro e u4 ⟨rfl, rfl⟩
            rw [H4.out]
            go_wp2_with fail
            go_ret
            exact ⟨ret_b HV.out.symm, B1⟩
          have q5 : m ≤ 20 := by omega
          have d1 : decide ((m : Int) ≤ 20) = true := decide_eq_true (by omega)
          have d2 : (m : Int) ≤ 20 := by omega
          cases q6 : x.met.contains x.id with
          | true =>
            have H6 := Lib.hid q6
            clear q6
            have HV := Lib.hid (tmF_6 (x := x) H6.out)
            clear hm
            rw [HM.out]
            go_enter Try.func77, Try.ntmps77
            go_wp2_with fail
            rw [HW2.out]
            try (go_wp2_with fail)
            refine (isId_n).mono ?_
            rintro e u1 ⟨rfl, rfl⟩
            rw [H1.out]
            go_wp2_with fail
            refine (inRange_any _ _ _ _).mono ?_
            rintro e u2 ⟨rfl, rfl⟩
            rw [H2.out]
            go_wp2_with fail
            refine (inRange_any _ _ _ _).mono ?_
            rintro e u3 ⟨rfl, rfl⟩
            rw [H3.out]
            go_wp2_with fail
            refine (inRange_any _ _ _ _).mono ?_
            rintro e u4 ⟨rfl, rfl⟩
            rw [H4.out]
            go_wp2_with fail
            refine (contains_any' (S := x.met) HM (by omega) hrm).mono ?_
            rintro e u6 ⟨rfl, rfl⟩
            rw [H6.out]
            go_wp2_with fail
            go_ret
            exact ⟨ret_b HV.out.symm, B1⟩
          | false =>
            have H6 := Lib.hid q6
            clear q6
            have HV := Lib.hid (tmF_7 (x := x) H1.out (by rw [hm]; exact H2.out) (by rw [hm]; exact H3.out) H4.out (by rw [hm]; exact q5) H6.out)
            clear hm
            rw [HM.out]
            go_enter Try.func77, Try.ntmps77
            go_wp2_with fail
            rw [HW2.out]
            try (go_wp2_with fail)
            refine (isId_n).mono ?_
            rintro e u1 ⟨rfl, rfl⟩
            rw [H1.out]
            go_wp2_with fail
            refine (inRange_any _ _ _ _).mono ?_
            rintro e u2 ⟨rfl, rfl⟩
            rw [H2.out]
            go_wp2_with fail
            refine (inRange_any _ _ _ _).mono ?_
            rintro e u3 ⟨rfl, rfl⟩
            rw [H3.out]
            go_wp2_with fail
            refine (inRange_any _ _ _ _).mono ?_
            rintro e u4 ⟨rfl, rfl⟩
            rw [H4.out]
            go_wp2_with fail
            refine (contains_any' (S := x.met) HM (by omega) hrm).mono ?_
            rintro e u6 ⟨rfl, rfl⟩
            rw [H6.out]
            go_wp2_with fail
            go_ret
            exact ⟨ret_b HV.out.symm, B1⟩
end Go.Proofs.Ythkigilegnjglaa
