/- Contracts of the code of chapter 13: slices.Clone and slices.Insert (of one element) of points. Condition: the points have at most 10^12 elements. -/
import Derived.Test.YtignchefkihdaaaIns3
import Derived.Test.YtignchefkihdaaaPointB
import Derived.Test.YtignchefkihdaaaBinC
import Derived.Lib.SliceRun
namespace Go.Proofs.Ytignchefkihdaaa
open Go.ChangeShapes Go.WideShapes Go.ChangeAt Go.RowKit
set_option maxRecDepth 100000
theorem cloneP_any {w : World} {A : Option Addr} {n c : Nat} {X : List T3} (hl : Hid (X.length = n)) (hn : n ≤ 1000000000000) (hr : Rd w w.heap.size A (t3s X)) :
    Calls Try.prog 89 #[.slice A n c] w (fun e w' => ∃ v, e = .returned v ∧ Row3 w' w.heap.size w'.heap.size 48 v X ∧ Below w.heap.size w w') := by
  obtain ⟨i0, hi, hz0, hz1, hz2⟩ := info_parts PointS_info
  have q22 : ∀ (w : World) (a : Option Addr) (n c n' c' : Nat), (binOp .eql 35 (.slice a n c) (.slice none n' c')).run Try.prog w = .ok (.bool a.isNone) w := fun w a n c n' c' => Lib.run_eql_slice_nil w _ _ a n c n' c' Try.underlying35
  cases A with
  | none =>
    have hx : X = [] := by
      cases X with
      | nil => rfl
      | cons x X =>
        obtain ⟨ad, e, _⟩ := t3_at hr (k := 0) (by simp)
        cases e
    subst hx
    go_enter Try.func89, Try.ntmps89
    go_wp2
    go_ret
    exact ⟨_, rfl, Row3.nil, Below.refl _ _⟩
  | some ad =>
    have hrow0 : Row3 (w.alloc (Obj.cells #[] 48)) w.heap.size (w.heap.size + 1) 48 (.slice (some ⟨w.heap.size, 0, none⟩) 0 0) [] := Row3.made (w := w) w.heap.size #[] 0 (Nat.le_refl _) rfl rfl (Nat.zero_le _)
    have hb0 := alloc_new' w (Obj.cells #[] 48)
    have hr1 := hr.below hb0
    have L1 := Lib.hid (show ([] : List T3).length + n ≤ maxLen ∧ (([] : List T3).length + n) * 24 ≤ 140737488355328 by unfold maxLen; simp; omega)
    go_enter Try.func89, Try.ntmps89
    go_wp2_with (at_builtin; refine wpList_app3 rfl (.tmp 5) (.tmp 6) 35 rfl 48 i0 _ 24 Try.underlying35 hi hz0 hz1 hz2 rfl rfl rfl hrow0 hl.out hr1 L1.out.1 L1.out.2 (by simp) ?_; intro v1 w1 hrow1 ho1)
    go_ret
    exact ⟨v1, rfl, by simpa using hrow1, hb0.trans (ho1.below (Nat.le_refl _) (by simp))⟩
theorem rd_bx3 {w : World} {g : Nat} {t : TypeId} {x : T3} (h : Bx w g t #[.int .i64 x.1, .int .i64 x.2.1, .int .i64 x.2.2]) : Rd w (g + 1) (some ⟨g, 0, none⟩) (t3s [x]) := fun j u hu => by
  refine ⟨_, rfl, by simp, ?_⟩
  have e : (⟨g, 0, none⟩ : Addr).add j = ⟨g, j, none⟩ := by unfold Addr.add; split <;> simp_all
  rw [e, cell_of_row _ _ j _ _ (0, 0) h]
  simpa [t3s] using hu
theorem sl3 (W : World) (g : Nat) {n c k : Nat} (h1 : k ≤ n) (h2 : n ≤ c) (h3 : k < c) : (Instr.slice 35 (.slice (some ⟨g, 0, none⟩) n c) (some (.int .i64 (k : Int))) none none).run Try.prog W = .ok (.slice (some ⟨g, k * 3, none⟩) (n - k) (c - k)) W := by
  obtain ⟨i0, hi, hz0, hz1, hz2⟩ := info_parts PointS_info
  have zz : ∀ w, (Go.sizeOf 48).run Try.prog w = .ok 3 w := fun w => by simp [sizeOf, typeInfo, hi, hz1]
  have h := run_from3 (P := Try.prog) W 35 48 Try.underlying35 zz (some ⟨g, 0, none⟩) h1 h2
  have e : tlA3 (some ⟨g, 0, none⟩) k c = some ⟨g, k * 3, none⟩ := by
    unfold tlA3
    rw [if_neg (by omega), Option.map_some]
    congr 1
    unfold Addr.add
    split <;> simp_all
  rw [e] at h
  exact h
theorem sl3t (W : World) (g : Nat) {n c k : Nat} (h1 : k ≤ c) : (Instr.slice 35 (.slice (some ⟨g, 0, none⟩) n c) none (some (.int .i64 (k : Int))) none).run Try.prog W = .ok (.slice (some ⟨g, 0, none⟩) k c) W := by
  obtain ⟨i0, hi, hz0, hz1, hz2⟩ := info_parts PointS_info
  have zz : ∀ w, (Go.sizeOf 48).run Try.prog w = .ok 3 w := fun w => by simp [sizeOf, typeInfo, hi, hz1]
  exact run_to3 (P := Try.prog) W 35 48 Try.underlying35 zz (some ⟨g, 0, none⟩) h1
/-- What an insertion hands back. -/
def Ins (X : List T3) (p : Nat) (x : T3) (lo hi : Nat) (w : World) (e : Ending) (w' : World) : Prop :=
  ∃ v, e = .returned v ∧ Row3 w' lo w'.heap.size 48 v (X.take p ++ [x] ++ X.drop p) ∧ Out lo hi w w'
set_option maxHeartbeats 4000000 in
theorem insEnd_any {w : World} {lo hi n vb : Nat} {v : Value} {X : List T3} {x : T3} (hl : Hid (X.length = n)) (hn : n ≤ 1000000000000) (hrow : Row3 w lo hi 48 v X) (hlo : lo ≤ w.heap.size) (bx : Bx w vb 48 #[.int .i64 x.1, .int .i64 x.2.1, .int .i64 x.2.2]) :
    Calls Try.prog 97 #[v, .int .i64 (n : Int), .slice (some ⟨vb, 0, none⟩) 1 1] w (Ins X n x lo hi w) := by
  obtain ⟨i0, hi', hz0, hz1, hz2⟩ := info_parts PointS_info
  have zz : ∀ w, (Go.sizeOf 48).run Try.prog w = .ok 3 w := fun w => by simp [sizeOf, typeInfo, hi', hz1]
  obtain ⟨A, c, rfl, hrd, hnc, hcm⟩ := hrow.rd hl.out
  have hsl := fun W => run_from3 (P := Try.prog) W 35 48 Try.underlying35 zz A (Nat.le_refl n) hnc
  have HROW := Lib.hid hrow
  have HB := Lib.hid (rd_bx3 bx)
  have L1 := Lib.hid (show X.length + 1 ≤ maxLen ∧ (X.length + 1) * 24 ≤ 140737488355328 by rw [hl.out]; unfold maxLen; omega)
  have hnb : ((n : Int) == (n : Int)) = true := by simp
  have i0' : (0 : Int) ≤ (n : Int) := by omega
  have HE := Lib.hid (show X.take n ++ [x] ++ X.drop n = X ++ [x] by rw [List.take_of_length_le (by rw [hl.out]; exact Nat.le_refl _), List.drop_of_length_le (by rw [hl.out]; exact Nat.le_refl _), List.append_nil])
  clear hrow bx hrd
  go_enter Try.func97, Try.ntmps97
  go_wp2_with (at_builtin; refine wpList_app3 (m := 1) rfl (.tmp 23) (.tmp 24) 35 rfl 48 i0 _ 24 Try.underlying35 hi' hz0 hz1 hz2 rfl rfl rfl HROW.out rfl HB.out L1.out.1 L1.out.2 hlo ?_; intro v9 w9 hrow9 ho9)
  go_ret
  exact ⟨v9, rfl, by rw [HE.out]; exact hrow9, ho9⟩
end Go.Proofs.Ytignchefkihdaaa
