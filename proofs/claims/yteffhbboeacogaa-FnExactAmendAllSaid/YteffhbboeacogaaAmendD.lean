/- Contracts of the laws' own functions markAmend, heldAmend. No conditions but the sizes. -/
import Derived.Test.YteffhbboeacogaaAmendA
import Derived.Test.YteffhbboeacogaaBxK
namespace Go.Proofs.Yteffhbboeacogaa
open Go.ChangeShapes Go.WideShapes Go.ChangeAt Go.RowKit
set_option maxRecDepth 100000
set_option maxHeartbeats 1000000 in
theorem markAmend_any {w : World} {lo hi c : Nat} {A : Option Addr} {x : Am} {q : Int} (hn : x.put.length ≤ 17592186043904) (h0 : 0 ≤ q) (hq : q ≤ 1000000000000000) (h : Row w lo hi 3 (.slice A x.put.length c) (ivs x.put)) :
    Calls Try.prog 46 #[.agg #[.int .i64 x.loc, .int .i64 x.drp, .slice A x.put.length c], .int .i64 q] w (fun e w' => e = .returned (.int .i64 (q + (x.put.length : Int))) ∧ Row w' lo hi 3 (.slice A x.put.length c) (ivs (imks q x.put.length)) ∧ Out lo hi w w') := by
  have bx := Bx.made w 26 #[Value.int .i64 x.loc, .int .i64 x.drp, .slice A x.put.length c]
  have bA : Below w.heap.size w (w.alloc (Obj.cells #[Value.int .i64 x.loc, .int .i64 x.drp, .slice A x.put.length c] 26)) := (Below.refl _ _).alloc (Nat.le_refl _) _
  obtain ⟨W1, hW⟩ : ∃ W1, w.alloc (Obj.cells #[Value.int .i64 x.loc, .int .i64 x.drp, .slice A x.put.length c] 26) = W1 := ⟨_, rfl⟩
  rw [hW] at bx bA
  have HW := Lib.hid hW
  have HBA := Lib.hid bA
  have HR := Lib.hid (h.new bA)
  obtain ⟨c0, c1, c2⟩ := bx.k3
  clear hW bx bA h
  go_enter Try.func46, Try.ntmps46
  go_wp2_with fail
  rw [HW.out]
  try (go_wp2_with fail)
  refine (markIntS_any (q := q) (Lib.hid (ivs_len x.put)) hn h0 hq HR.out).mono ?_
  rintro e w2 ⟨rfl, hr, ho⟩
  have HR2 := Lib.hid hr
  have HO := Lib.hid ho
  clear hr ho
  go_wp2_with fail
  go_ret
  exact ⟨rfl, HR2.out, (Out.of_below HBA.out).trans HO.out⟩
set_option maxHeartbeats 1000000 in
theorem heldAmend_any {w : World} {c : Nat} {A : Option Addr} {x : Am} {q : Int} (hn : x.put.length ≤ 17592186043904) (h0 : 0 ≤ q) (hq : q ≤ 1000000000000000) (hr : Rd w w.heap.size A (ivs (imks q x.put.length))) :
    Calls Try.prog 48 #[.agg #[.int .i64 x.loc, .int .i64 x.drp, .slice A x.put.length c], .int .i64 q] w (fun e w' => e = .returned (.int .i64 (q + (x.put.length : Int))) ∧ Below w.heap.size w w') := by
  have bx := Bx.made w 26 #[Value.int .i64 x.loc, .int .i64 x.drp, .slice A x.put.length c]
  have bA : Below w.heap.size w (w.alloc (Obj.cells #[Value.int .i64 x.loc, .int .i64 x.drp, .slice A x.put.length c] 26)) := (Below.refl _ _).alloc (Nat.le_refl _) _
  obtain ⟨W1, hW⟩ : ∃ W1, w.alloc (Obj.cells #[Value.int .i64 x.loc, .int .i64 x.drp, .slice A x.put.length c] 26) = W1 := ⟨_, rfl⟩
  rw [hW] at bx bA
  have HW := Lib.hid hW
  have HBA := Lib.hid bA
  have HR := Lib.hid ((hr.below bA).more bA.size)
  obtain ⟨c0, c1, c2⟩ := bx.k3
  obtain ⟨m, hm⟩ : ∃ m, x.put.length = m := ⟨_, rfl⟩
  rw [hm] at HW HR c2 hn ⊢
  have hp : ¬ q + (m : Int) < 0 := by omega
  have hp2 : 0 ≤ q + (m : Int) := by omega
  clear hW bx bA hr hm
  go_enter Try.func48, Try.ntmps48
  go_wp2_with fail
  rw [HW.out]
  try (go_wp2_with fail)
  refine (heldIntS_any (q := q) hn h0 hq HR.out).mono ?_
  rintro e w2 ⟨rfl, rfl⟩
  go_wp2_with fail
  go_ret
  exact ⟨rfl, HBA.out⟩
end Go.Proofs.Yteffhbboeacogaa
