/- Contracts of MayAmend, the model's and the code's (chapter 30). Condition: the slices have at most 2^40 elements. -/
import Derived.Test.YteffhbboeacogaaAmendA
import Derived.Test.YteffhbboeacogaaBxK
import Derived.Test.YteffhbboeacogaaInts
namespace Go.Proofs.Yteffhbboeacogaa
open Go.ChangeShapes Go.WideShapes Go.ChangeAt Go.RowKit
set_option maxRecDepth 100000
theorem alloc_a (w : World) (o : Obj) : Below w.heap.size w (w.alloc o) := (Below.refl _ _).alloc (Nat.le_refl _) _
/-- Whether a text of n words may be so amended. -/
def mayA (n : Nat) (x : Am) : Bool := inr x.loc 0 n && inr x.drp 0 ((n : Int) - x.loc) && decide ((n : Int) - x.drp + x.put.length ≤ 60)
theorem inr_of {n lo hi : Int} : inr n lo hi = true ↔ lo ≤ n ∧ n ≤ hi := by simp [inr]
theorem mayA_iff {n : Nat} {x : Am} : mayA n x = true ↔ (0 ≤ x.loc ∧ x.loc ≤ n) ∧ (0 ≤ x.drp ∧ x.drp ≤ (n : Int) - x.loc) ∧ (n : Int) - x.drp + x.put.length ≤ 60 := by
  simp [mayA, inr_of, and_assoc]
set_option maxHeartbeats 1000000 in
theorem specMayAmend_any {w : World} {A A' : Option Addr} {n c c' : Nat} {x : Am} (hn : n ≤ 1099511627776) (hx : x.put.length ≤ 1099511627776) :
    Calls Try.prog 42 #[.slice A n c, .agg #[.int .i64 x.loc, .int .i64 x.drp, .slice A' x.put.length c']] w (Tells (mayA n x) w) := by
  have bx := Bx.made w 26 #[Value.int .i64 x.loc, .int .i64 x.drp, .slice A' x.put.length c']
  have bA := alloc_a w (Obj.cells #[Value.int .i64 x.loc, .int .i64 x.drp, .slice A' x.put.length c'] 26)
  obtain ⟨W1, hW⟩ : ∃ W1, w.alloc (Obj.cells #[Value.int .i64 x.loc, .int .i64 x.drp, .slice A' x.put.length c'] 26) = W1 := ⟨_, rfl⟩
  rw [hW] at bx bA
  have HW := Lib.hid hW
  have HBA := Lib.hid bA
  obtain ⟨c0, c1, c2⟩ := bx.k3
  clear hW bx bA
  obtain ⟨m, hm⟩ : ∃ m, x.put.length = m := ⟨_, rfl⟩
  have HV0 := Lib.hid (show mayA n x = (inr x.loc 0 n && inr x.drp 0 ((n : Int) - x.loc) && decide ((n : Int) - x.drp + (m : Int) ≤ 60)) by rw [← hm]; rfl)
  rw [hm] at hx HW c2 ⊢
  obtain ⟨a, ha⟩ : ∃ a, x.loc = a := ⟨_, rfl⟩
  obtain ⟨b, hb⟩ : ∃ b, x.drp = b := ⟨_, rfl⟩
  rw [ha, hb] at HV0 HW ⊢
  rw [ha] at c0
  rw [hb] at c1
  obtain ⟨V, hV⟩ : ∃ V, mayA n x = V := ⟨_, rfl⟩
  rw [hV] at HV0 ⊢
  clear hm ha hb hV
  cases q1 : inr a 0 n with
  | false =>
    have HV := Lib.hid (show V = false by rw [HV0.out, q1]; rfl)
    have HQ := Lib.hid q1
    clear q1
    go_enter Try.func42, Try.ntmps42
    go_wp2_with fail
    rw [HW.out]
    try (go_wp2_with fail)
    refine (l1In_any _ _ _ _).mono ?_
    rintro e u ⟨rfl, rfl⟩
    rw [HQ.out]
    go_wp2_with fail
    go_ret
    exact ⟨ret_b HV.out.symm, HBA.out⟩
  | true =>
    have h1 := inr_of.1 q1
    have w1 := IntWalk.i64_in ((n : Int) - a) (by omega)
    cases q2 : inr b 0 ((n : Int) - a) with
    | false =>
      have HV := Lib.hid (show V = false by rw [HV0.out, q1, q2]; rfl)
      have HQ := Lib.hid q1
      have HR := Lib.hid q2
      clear q1 q2
      go_enter Try.func42, Try.ntmps42
      go_wp2_with fail
      rw [HW.out]
      try (go_wp2_with fail)
      refine (l1In_any _ _ _ _).mono ?_
      rintro e u ⟨rfl, rfl⟩
      rw [HQ.out]
      go_wp2_with fail
      refine (l1In_any _ _ _ _).mono ?_
      rintro e u ⟨rfl, rfl⟩
      rw [HR.out]
      go_wp2_with fail
      go_ret
      exact ⟨ret_b HV.out.symm, HBA.out⟩
    | true =>
      have h2 := inr_of.1 q2
      have w2 := IntWalk.i64_in ((n : Int) - b) (by omega)
      have w3 := IntWalk.i64_in ((n : Int) - b + (m : Int)) (by omega)
      have HV := Lib.hid (show V = decide ((n : Int) - b + (m : Int) ≤ 60) by rw [HV0.out, q1, q2]; rfl)
      have HQ := Lib.hid q1
      have HR := Lib.hid q2
      clear q1 q2
      go_enter Try.func42, Try.ntmps42
      go_wp2_with fail
      rw [HW.out]
      try (go_wp2_with fail)
      refine (l1In_any _ _ _ _).mono ?_
      rintro e u ⟨rfl, rfl⟩
      rw [HQ.out]
      go_wp2_with fail
      refine (l1In_any _ _ _ _).mono ?_
      rintro e u ⟨rfl, rfl⟩
      rw [HR.out]
      go_wp2_with fail
      go_ret
      exact ⟨ret_b HV.out.symm, HBA.out⟩
set_option maxHeartbeats 1000000 in
theorem impMayAmend_any {w : World} {A A' : Option Addr} {n c c' : Nat} {x : Am} (hn : n ≤ 1099511627776) (hx : x.put.length ≤ 1099511627776) :
    Calls Try.prog 19 #[.slice A n c, .agg #[.int .i64 x.loc, .int .i64 x.drp, .slice A' x.put.length c']] w (Tells (mayA n x) w) := by
  have bx := Bx.made w 26 #[Value.int .i64 x.loc, .int .i64 x.drp, .slice A' x.put.length c']
  have bA := alloc_a w (Obj.cells #[Value.int .i64 x.loc, .int .i64 x.drp, .slice A' x.put.length c'] 26)
  obtain ⟨W1, hW⟩ : ∃ W1, w.alloc (Obj.cells #[Value.int .i64 x.loc, .int .i64 x.drp, .slice A' x.put.length c'] 26) = W1 := ⟨_, rfl⟩
  rw [hW] at bx bA
  have HW := Lib.hid hW
  have HBA := Lib.hid bA
  obtain ⟨c0, c1, c2⟩ := bx.k3
  clear hW bx bA
  obtain ⟨m, hm⟩ : ∃ m, x.put.length = m := ⟨_, rfl⟩
  have HV0 := Lib.hid (show mayA n x = (inr x.loc 0 n && inr x.drp 0 ((n : Int) - x.loc) && decide ((n : Int) - x.drp + (m : Int) ≤ 60)) by rw [← hm]; rfl)
  rw [hm] at hx HW c2 ⊢
  obtain ⟨a, ha⟩ : ∃ a, x.loc = a := ⟨_, rfl⟩
  obtain ⟨b, hb⟩ : ∃ b, x.drp = b := ⟨_, rfl⟩
  rw [ha, hb] at HV0 HW ⊢
  rw [ha] at c0
  rw [hb] at c1
  obtain ⟨V, hV⟩ : ∃ V, mayA n x = V := ⟨_, rfl⟩
  rw [hV] at HV0 ⊢
  clear hm ha hb hV
  cases q1 : inr a 0 n with
  | false =>
    have HV := Lib.hid (show V = false by rw [HV0.out, q1]; rfl)
    have HQ := Lib.hid q1
    clear q1
    go_enter Try.func19, Try.ntmps19
    go_wp2_with fail
    rw [HW.out]
    try (go_wp2_with fail)
    refine (inRange_any _ _ _ _).mono ?_
    rintro e u ⟨rfl, rfl⟩
    rw [HQ.out]
    go_wp2_with fail
    go_ret
    exact ⟨ret_b HV.out.symm, HBA.out⟩
  | true =>
    have h1 := inr_of.1 q1
    have w1 := IntWalk.i64_in ((n : Int) - a) (by omega)
    cases q2 : inr b 0 ((n : Int) - a) with
    | false =>
      have HV := Lib.hid (show V = false by rw [HV0.out, q1, q2]; rfl)
      have HQ := Lib.hid q1
      have HR := Lib.hid q2
      clear q1 q2
      go_enter Try.func19, Try.ntmps19
      go_wp2_with fail
      rw [HW.out]
      try (go_wp2_with fail)
      refine (inRange_any _ _ _ _).mono ?_
      rintro e u ⟨rfl, rfl⟩
      rw [HQ.out]
      go_wp2_with fail
      refine (inRange_any _ _ _ _).mono ?_
      rintro e u ⟨rfl, rfl⟩
      rw [HR.out]
      go_wp2_with fail
      go_ret
      exact ⟨ret_b HV.out.symm, HBA.out⟩
    | true =>
      have h2 := inr_of.1 q2
      have w2 := IntWalk.i64_in ((n : Int) - b) (by omega)
      have w3 := IntWalk.i64_in ((n : Int) - b + (m : Int)) (by omega)
      have HV := Lib.hid (show V = decide ((n : Int) - b + (m : Int) ≤ 60) by rw [HV0.out, q1, q2]; rfl)
      have HQ := Lib.hid q1
      have HR := Lib.hid q2
      clear q1 q2
      go_enter Try.func19, Try.ntmps19
      go_wp2_with fail
      rw [HW.out]
      try (go_wp2_with fail)
      refine (inRange_any _ _ _ _).mono ?_
      rintro e u ⟨rfl, rfl⟩
      rw [HQ.out]
      go_wp2_with fail
      refine (inRange_any _ _ _ _).mono ?_
      rintro e u ⟨rfl, rfl⟩
      rw [HR.out]
      go_wp2_with fail
      go_ret
      exact ⟨ret_b HV.out.symm, HBA.out⟩
end Go.Proofs.Yteffhbboeacogaa
