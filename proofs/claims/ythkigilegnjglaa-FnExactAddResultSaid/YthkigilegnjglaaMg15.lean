/- Contracts of the code's haveAscendingIds at rooms, teams, judges and integers, with each of its functions. Condition: the slices have at most 2^40 elements. -/
import Derived.Test.YthkigilegnjglaaMg8
import Derived.Test.YthkigilegnjglaaMg9
import Derived.Test.YthkigilegnjglaaMg14
import Derived.Test.YthkigilegnjglaaMg4
import Derived.Test.YthkigilegnjglaaMg13
import Derived.BigQuiet
import Derived.Deep.Quiet
import Derived.Test.YthkigilegnjglaaMg10
import Derived.Test.YthkigilegnjglaaMg2
import Derived.Test.YthkigilegnjglaaMg11
namespace Go.Proofs.Ythkigilegnjglaa
open Go.ChangeShapes Go.WideShapes Go.ChangeAt Go.RowKit
set_option maxRecDepth 100000
theorem nwc {w w' : World} {p : Addr} {v : Value} (r : Below w.heap.size w w') (h : w.cell? p = some v) : w'.cell? p = some v := (r.cell (p := p) (cell_lt h)).trans h
theorem isId_n {w : World} {a : Int} : Calls Try.prog 118 #[.int .i64 a] w (fun e w' => e = .returned (.bool (inr a 1 99)) ∧ w = w') := by
  go_enter Try.func118, Try.ntmps118
  go_wp2_with fail
  refine (inRange_any _ _ _ _).mono ?_
  rintro e w1 ⟨rfl, rfl⟩
  go_wp2_with fail
  go_ret
  exact ⟨rfl, rfl⟩
end Go.Proofs.Ythkigilegnjglaa

/- Contracts of slices.Index and slices.Contains of integers, and of the code's isInEach. Condition: the slices have at most 2^40 elements. -/
namespace Go.Proofs.Ythkigilegnjglaa
open Go.ChangeShapes Go.WideShapes Go.ChangeAt Go.RowKit
set_option maxRecDepth 100000
theorem index_any {w : World} {B : Nat} {A : Option Addr} {n c : Nat} {a : Int} {S : List Int} (hl : Hid (S.length = n)) (hn : n ≤ 1099511627776) (hr : Rd w B A (ivs S)) :
    Calls Try.prog 66 #[.slice A n c, .int .i64 a] w (fun e w' => (∃ r, e = .returned (.int .i64 r) ∧ decide (0 ≤ r) = S.contains a) ∧ w = w') := by
  go_enter Try.func66, Try.ntmps66
  go_wp2_with fail
  go_loopw [8] (fun i wr => ∃ k : Nat, k ≤ n ∧ i = .int .i64 k ∧ wr = w ∧ Hid ((S.take k).contains a = false)) (fun i _ => n - (intOf i).toNat)
  case atStart => exact ⟨0, Nat.zero_le _, rfl, rfl, Lib.hid rfl⟩
  case round =>
    obtain ⟨k, hk, rfl, rfl, hno⟩ := hrel
    by_cases hlt : k < n
    · have hkz : k < S.length := by rw [hl.out]; exact hlt
      obtain ⟨ad, rfl, hab, hc⟩ := ivs_at hr hkz
      have i0 : (0 : Int) ≤ (k : Int) := by omega
      by_cases h1 : S[k] = a
      · have HY := Lib.hid (show S.contains a = true by rw [List.contains_iff_mem]; exact h1 ▸ List.getElem_mem hkz)
        rw [h1] at hc
        clear h1
        go_wp2_with fail
        go_ret
        exact ⟨⟨k, rfl, by rw [HY.out]; exact decide_eq_true i0⟩, rfl⟩
      · have HN := Lib.hid (show (S.take (k + 1)).contains a = false by
          rw [List.take_succ_eq_append_getElem hkz]
          have := hno.out
          simp only [List.contains_eq_mem, decide_eq_false_iff_not, List.mem_append, List.mem_singleton, not_or] at this ⊢
          exact ⟨this, fun e => h1 e.symm⟩)
        obtain ⟨z, hz⟩ : ∃ z, z = S[k] := ⟨_, rfl⟩
        rw [← hz] at hc h1
        have h1' : (a == z) = false := by simpa using (show ¬ a = z from fun e => h1 e.symm)
        clear hz
        go_wp2_with fail
        go_roundw
        case rel => exact ⟨k + 1, by omega, by go_num, trivial, HN⟩
        case measure => simp [intOf]; omega
    · have e : k = n := by omega
      subst e
      have HF := Lib.hid (show S.contains a = false by have := hno.out; rwa [List.take_of_length_le (by rw [hl.out]; exact Nat.le_refl _)] at this)
      go_wp2_with fail
      go_ret
      exact ⟨⟨-1, rfl, by rw [HF.out]; rfl⟩, rfl⟩
theorem contains_any' {w : World} {B : Nat} {A : Option Addr} {n c : Nat} {a : Int} {S : List Int} (hl : Hid (S.length = n)) (hn : n ≤ 1099511627776) (hr : Rd w B A (ivs S)) :
    Calls Try.prog 119 #[.slice A n c, .int .i64 a] w (fun e w' => e = .returned (.bool (S.contains a)) ∧ w = w') := by
  go_enter Try.func119, Try.ntmps119
  go_wp2_with fail
  refine (index_any hl hn hr).mono ?_
  rintro e w1 ⟨⟨r, rfl, hr2⟩, rfl⟩
  have HR := Lib.hid hr2
  clear hr2
  go_wp2_with fail
  go_ret
  exact ⟨ret_b HR.out, rfl⟩
/-- Whether each list has a number. -/
def eachB (X : List (List Int)) (a : Int) : Bool := X.all fun t => t.contains a
end Go.Proofs.Ythkigilegnjglaa

/- Contract of the code's isTeam (tmF). Condition: at most 2^20 meetings. -/
namespace Go.Proofs.Ythkigilegnjglaa
open Go.ChangeShapes Go.WideShapes Go.ChangeAt Go.RowKit
set_option maxRecDepth 100000
/-- What one team has to keep by itself. -/
def tmF (x : Tm) : Bool := inr x.club 1 99 && inr x.wins 0 x.met.length && inr x.firsts 0 x.met.length && inr x.pts 0 100000 && decide (x.met.length ≤ 20) && !(x.met.contains x.id)
theorem tmF_1 {x : Tm} (h : inr x.club 1 99 = false) : tmF x = false := by unfold tmF; simp [h]
theorem tmF_2 {x : Tm} (h : inr x.wins 0 x.met.length = false) : tmF x = false := by unfold tmF; simp [h]
theorem tmF_3 {x : Tm} (h : inr x.firsts 0 x.met.length = false) : tmF x = false := by unfold tmF; simp [h]
theorem tmF_4 {x : Tm} (h : inr x.pts 0 100000 = false) : tmF x = false := by unfold tmF; simp [h]
theorem tmF_5 {x : Tm} (h : ¬ x.met.length ≤ 20) : tmF x = false := by unfold tmF; rw [decide_eq_false h]; simp
theorem tmF_6 {x : Tm} (h : x.met.contains x.id = true) : tmF x = false := by unfold tmF; rw [h]; simp
theorem tmF_7 {x : Tm} (h1 : inr x.club 1 99 = true) (h2 : inr x.wins 0 x.met.length = true) (h3 : inr x.firsts 0 x.met.length = true) (h4 : inr x.pts 0 100000 = true) (h5 : x.met.length ≤ 20) (h6 : x.met.contains x.id = false) : tmF x = true := by unfold tmF; rw [h1, h2, h3, h4, decide_eq_true h5, h6]; rfl
set_option maxHeartbeats 8000000 in
theorem isTeam_any {w : World} {Aj : Option Addr} {cj : Nat} {x : Tm} (hsl : x.met.length ≤ 1048576) (hs : Rd w w.heap.size Aj (ivs x.met)) :
    Calls Try.prog 77 #[.agg #[Value.int .i64 x.id, .int .i64 x.club, .int .i64 x.wins, .int .i64 x.pts, .int .i64 x.firsts, .slice Aj x.met.length cj]] w (Tells (tmF x) w) := by
  have B1 := alloc_m w (Obj.cells #[Value.int .i64 x.id, .int .i64 x.club, .int .i64 x.wins, .int .i64 x.pts, .int .i64 x.firsts, .slice Aj x.met.length cj] 82)
  have bx := Bx.made w 82 #[Value.int .i64 x.id, .int .i64 x.club, .int .i64 x.wins, .int .i64 x.pts, .int .i64 x.firsts, .slice Aj x.met.length cj]
  obtain ⟨W1, hW⟩ : ∃ W1, w.alloc (Obj.cells #[Value.int .i64 x.id, .int .i64 x.club, .int .i64 x.wins, .int .i64 x.pts, .int .i64 x.firsts, .slice Aj x.met.length cj] 82) = W1 := ⟨_, rfl⟩
  rw [hW] at B1 bx
  have c0 := bx.at_ (k := 0) (v := .int .i64 x.id) rfl
  have c1 := bx.at_ (k := 1) (v := .int .i64 x.club) rfl
  have c2 := bx.at_ (k := 2) (v := .int .i64 x.wins) rfl
  have c3 := bx.at_ (k := 3) (v := .int .i64 x.pts) rfl
  have c4 := bx.at_ (k := 4) (v := .int .i64 x.firsts) rfl
  have c5 := bx.at_ (k := 5) (v := .slice Aj x.met.length cj) rfl
  have HW := Lib.hid hW
  have hrm := (hs.below B1).more B1.size
  obtain ⟨m, hm⟩ : ∃ m, x.met.length = m := ⟨_, rfl⟩
  have HM := Lib.hid hm
  rw [hm] at c5 hsl hW
  have HW2 := Lib.hid hW
  clear bx hW
  cases q1 : inr x.club 1 99 with
  | false =>
    have H1 := Lib.hid q1
    clear q1
    have HV := Lib.hid (tmF_1 (x := x) (by exact H1.out))
    clear hm
    rw [HM.out]
    go_enter Try.func77, Try.ntmps77
    go_wp2_with fail
    rw [HW2.out]
    try (go_wp2_with fail)
    refine (isId_n).mono ?_
    rintro e u1 ⟨rfl, rfl⟩
    rw [H1.out]
    go_wp2_with fail
    go_ret
    exact ⟨ret_b HV.out.symm, B1⟩
  | true =>
    have H1 := Lib.hid q1
    clear q1
    cases q2 : inr x.wins 0 m with
    | false =>
      have H2 := Lib.hid q2
      clear q2
      have HV := Lib.hid (tmF_2 (x := x) (by rw [hm]; exact H2.out))
      clear hm
      rw [HM.out]
      go_enter Try.func77, Try.ntmps77
      go_wp2_with fail
      rw [HW2.out]
      try (go_wp2_with fail)
      refine (isId_n).mono ?_
      rintro e u1 ⟨rfl, rfl⟩
      rw [H1.out]
      go_wp2_with fail
      refine (inRange_any _ _ _ _).mono ?_
      rintro e u2 ⟨rfl, rfl⟩
      rw [H2.out]
      go_wp2_with fail
      go_ret
      exact ⟨ret_b HV.out.symm, B1⟩
    | true =>
      have H2 := Lib.hid q2
      clear q2
      cases q3 : inr x.firsts 0 m with
      | false =>
        have H3 := Lib.hid q3
        clear q3
        have HV := Lib.hid (tmF_3 (x := x) (by rw [hm]; exact H3.out))
        clear hm
        rw [HM.out]
        go_enter Try.func77, Try.ntmps77
        go_wp2_with fail
        rw [HW2.out]
        try (go_wp2_with fail)
        refine (isId_n).mono ?_
        rintro e u1 ⟨rfl, rfl⟩
        rw [H1.out]
        go_wp2_with fail
        refine (inRange_any _ _ _ _).mono ?_
        rintro e u2 ⟨rfl, rfl⟩
        rw [H2.out]
        go_wp2_with fail
        refine (inRange_any _ _ _ _).mono ?_
        rintro e u3 ⟨rfl, rfl⟩
        rw [H3.out]
        go_wp2_with fail
        go_ret
        exact ⟨ret_b HV.out.symm, B1⟩
      | true =>
        have H3 := Lib.hid q3
        clear q3
        cases q4 : inr x.pts 0 100000 with
        | false =>
          have H4 := Lib.hid q4
          clear q4
          have HV := Lib.hid (tmF_4 (x := x) (by exact H4.out))
          clear hm
          rw [HM.out]
          go_enter Try.func77, Try.ntmps77
          go_wp2_with fail
          rw [HW2.out]
          try (go_wp2_with fail)
          refine (isId_n).mono ?_
          rintro e u1 ⟨rfl, rfl⟩
          rw [H1.out]
          go_wp2_with fail
          refine (inRange_any _ _ _ _).mono ?_
          rintro e u2 ⟨rfl, rfl⟩
          rw [H2.out]
          go_wp2_with fail
          refine (inRange_any _ _ _ _).mono ?_
          rintro e u3 ⟨rfl, rfl⟩
          rw [H3.out]
          go_wp2_with fail
          refine (inRange_any _ _ _ _).mono ?_
          rintro e u4 ⟨rfl, rfl⟩
          rw [H4.out]
          go_wp2_with fail
          go_ret
          exact ⟨ret_b HV.out.symm, B1⟩
        | true =>
          have H4 := Lib.hid q4
          clear q4
          by_cases q5 : ¬ m ≤ 20
          · have d1 : decide ((m : Int) ≤ 20) = false := decide_eq_false (by omega)
            have d2 : ¬ (m : Int) ≤ 20 := by omega
            have HV := Lib.hid (tmF_5 (x := x) (by rw [hm]; exact q5))
            clear hm
            rw [HM.out]
            go_enter Try.func77, Try.ntmps77
            go_wp2_with fail
            rw [HW2.out]
            try (go_wp2_with fail)
            refine (isId_n).mono ?_
            rintro e u1 ⟨rfl, rfl⟩
            rw [H1.out]
            go_wp2_with fail
            refine (inRange_any _ _ _ _).mono ?_
            rintro e u2 ⟨rfl, rfl⟩
            rw [H2.out]
            go_wp2_with fail
            refine (inRange_any _ _ _ _).mono ?_
            rintro e u3 ⟨rfl, rfl⟩
            rw [H3.out]
            go_wp2_with fail
            refine (inRange_any _ _ _ _).mono ?_
            rintro e u4 ⟨rfl, rfl⟩
            rw [H4.out]
            go_wp2_with fail
            go_ret
            exact ⟨ret_b HV.out.symm, B1⟩
          have q5 : m ≤ 20 := by omega
          have d1 : decide ((m : Int) ≤ 20) = true := decide_eq_true (by omega)
          have d2 : (m : Int) ≤ 20 := by omega
          cases q6 : x.met.contains x.id with
          | true =>
            have H6 := Lib.hid q6
            clear q6
            have HV := Lib.hid (tmF_6 (x := x) H6.out)
            clear hm
            rw [HM.out]
            go_enter Try.func77, Try.ntmps77
            go_wp2_with fail
            rw [HW2.out]
            try (go_wp2_with fail)
            refine (isId_n).mono ?_
            rintro e u1 ⟨rfl, rfl⟩
            rw [H1.out]
            go_wp2_with fail
            refine (inRange_any _ _ _ _).mono ?_
            rintro e u2 ⟨rfl, rfl⟩
            rw [H2.out]
            go_wp2_with fail
            refine (inRange_any _ _ _ _).mono ?_
            rintro e u3 ⟨rfl, rfl⟩
            rw [H3.out]
            go_wp2_with fail
            refine (inRange_any _ _ _ _).mono ?_
            rintro e u4 ⟨rfl, rfl⟩
            rw [H4.out]
            go_wp2_with fail
            refine (contains_any' (S := x.met) HM (by omega) hrm).mono ?_
            rintro e u6 ⟨rfl, rfl⟩
            rw [H6.out]
            go_wp2_with fail
            go_ret
            exact ⟨ret_b HV.out.symm, B1⟩
          | false =>
            have H6 := Lib.hid q6
            clear q6
            have HV := Lib.hid (tmF_7 (x := x) H1.out (by rw [hm]; exact H2.out) (by rw [hm]; exact H3.out) H4.out (by rw [hm]; exact q5) H6.out)
            clear hm
            rw [HM.out]
            go_enter Try.func77, Try.ntmps77
            go_wp2_with fail
            rw [HW2.out]
            try (go_wp2_with fail)
            refine (isId_n).mono ?_
            rintro e u1 ⟨rfl, rfl⟩
            rw [H1.out]
            go_wp2_with fail
            refine (inRange_any _ _ _ _).mono ?_
            rintro e u2 ⟨rfl, rfl⟩
            rw [H2.out]
            go_wp2_with fail
            refine (inRange_any _ _ _ _).mono ?_
            rintro e u3 ⟨rfl, rfl⟩
            rw [H3.out]
            go_wp2_with fail
            refine (inRange_any _ _ _ _).mono ?_
            rintro e u4 ⟨rfl, rfl⟩
            rw [H4.out]
            go_wp2_with fail
            refine (contains_any' (S := x.met) HM (by omega) hrm).mono ?_
            rintro e u6 ⟨rfl, rfl⟩
            rw [H6.out]
            go_wp2_with fail
            go_ret
            exact ⟨ret_b HV.out.symm, B1⟩
end Go.Proofs.Ythkigilegnjglaa
