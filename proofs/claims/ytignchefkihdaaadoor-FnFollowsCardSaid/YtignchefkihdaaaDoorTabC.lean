/- Contracts of the code of chapter 11: lettersOfRow, tableOf, has, sharedRows, tablesOf. Condition: the slices have at most 2^40 elements. -/
import Derived.Test.YtignchefkihdaaaDoorTabBits
import Derived.Test.YtignchefkihdaaaDoorValC
import Derived.Test.YtignchefkihdaaaDoorMg5
import Derived.Test.YtignchefkihdaaaDoorMg2
import Derived.Test.YtignchefkihdaaaDoorMg6
namespace Go.Proofs.YtignchefkihdaaaDoor
open Go.ChangeShapes Go.WideShapes Go.ChangeAt Go.RowKit
set_option maxRecDepth 100000
/-- The first k letters of row m, the others not yet. -/
def lrC (m k : Nat) : Array Value := #[.bool (decide (0 < k) && m.testBit 0), .bool (decide (1 < k) && m.testBit 1), .bool (decide (2 < k) && m.testBit 2), .bool (decide (3 < k) && m.testBit 3), .bool (decide (4 < k) && m.testBit 4), .bool (decide (5 < k) && m.testBit 5)]
theorem lt6 {a : Nat} (h : a < 6) : a = 0 ∨ a = 1 ∨ a = 2 ∨ a = 3 ∨ a = 4 ∨ a = 5 := by omega
theorem lrC_set (m : Nat) {k : Nat} (h : k < 6) : (lrC m k).setIfInBounds k (.bool (m.testBit k)) = lrC m (k + 1) := by
  rcases lt6 h with rfl | rfl | rfl | rfl | rfl | rfl <;> simp [lrC]
theorem lrC_all (m : Nat) : (lrC m 6).toList = bls (rowR m) := by simp [lrC, bls, rowR, List.range_succ]
theorem bit_row2 : ∀ (m : Fin 64) (k : Fin 6), (bits .and .i64 (((m.val : Nat) : Int) / 2 ^ k.val) 1 == 1) = m.val.testBit k.val := by decide +kernel
theorem lettersOfRow_any {w : World} {m : Nat} (hm : m < 64) :
    Calls Tryd.prog 38 #[.int .i64 (m : Int)] w (fun e w' => ∃ A, e = .returned (.slice A 6 6) ∧ Rd w' w'.heap.size A (bls (rowR m)) ∧ Below w.heap.size w w') := by
  have bx := Bx.made w 81 (lrC m 0)
  have hb1 := alloc_new w (Obj.cells (lrC m 0) 81)
  have e0 : #[Value.bool false, .bool false, .bool false, .bool false, .bool false, .bool false] = lrC m 0 := rfl
  obtain ⟨W1, hW⟩ : ∃ v : World, v = w.alloc (Obj.cells (lrC m 0) 81) := ⟨_, rfl⟩
  rw [← hW] at bx hb1
  have HE := Lib.hid e0
  have HW := Lib.hid hW.symm
  have hsz : w.heap.size < W1.heap.size := bx.lt
  clear hW e0
  go_enter Tryd.func38, Tryd.ntmps38
  go_wp2_with fail
  rw [HE.out, HW.out]
  go_loopw [5] (fun i wr => ∃ k : Nat, k ≤ 6 ∧ i = .int .i64 k ∧ Bx wr w.heap.size 81 (lrC m k) ∧ Below w.heap.size w wr) (fun i _ => 6 - (intOf i).toNat)
  case atStart => exact ⟨0, by omega, rfl, bx, hb1⟩
  case round =>
    obtain ⟨k, hk, rfl, bxk, hbw⟩ := hrel
    by_cases hlt : k < 6
    · have hv := bit_row2 ⟨m, hm⟩ ⟨k, hlt⟩
      simp only at hv
      have HS := Lib.hid (lrC_set m hlt)
      obtain ⟨b, hb⟩ : ∃ b, m.testBit k = b := ⟨_, rfl⟩
      rw [hb] at hv HS
      have f1 := bxk.free k
      have c1 : ∃ u, wr.cell? ⟨w.heap.size, k, none⟩ = some u := ⟨_, bxk.at_ (k := k) (v := (lrC m k)[k]'(by simpa [lrC] using hlt)) (by simp)⟩
      obtain ⟨u, c1⟩ := c1
      have HB := Lib.hid bxk
      have i0 : (0 : Int) ≤ (k : Int) := by omega
      clear hb bx bxk
      go_wp2_with fail
      go_roundw
      case rel => exact ⟨k + 1, by omega, by go_num, by have := HB.out.set k (.bool b); rw [HS.out] at this; exact this, hbw.setCell (Nat.le_refl _) _⟩
      case measure => simp [intOf]; omega
    · have e : k = 6 := by omega
      subst e
      have HB := Lib.hid bxk
      clear bx bxk
      go_wp2_with fail
      go_ret
      refine ⟨_, rfl, fun j u hu => ⟨_, rfl, HB.out.lt, ?_⟩, hbw⟩
      rw [add0]
      exact HB.out.at_ (by rw [← lrC_all] at hu; simpa using hu)
theorem wrapN {z : Nat} (h : z < 18446744073709551616) : IntKind.u64.wrap (z : Int) = z := by rw [IntKind.wrap_u64]; omega
theorem or_u64 (a : Nat) {m : Nat} (ha : a < 18446744073709551616) (hm : m < 64) : bits .or .u64 (a : Int) (IntKind.u64.wrap (2 ^ m)) = ((a ||| 2 ^ m : Nat) : Int) := by
  have hp : 2 ^ m < 2 ^ 64 := Nat.pow_lt_pow_right (by omega) hm
  have e : IntKind.u64.wrap (2 ^ m) = ((2 ^ m : Nat) : Int) := by
    have : (2 : Int) ^ m = ((2 ^ m : Nat) : Int) := by push_cast; rfl
    rw [this]
    exact wrapN hp
  rw [e, u64_or_nat _ _ ha hp]
theorem nil_val (t : Tr) (w : World) : (nilAhead 199 (trI t) (trP t) "loop.example/g03009/impl.value").run Tryd.prog w = .ok (some false) w := by
  cases t <;> kernel_rfl
theorem tab_yes {p : Nat → Bool} {m : Nat} (h : p m = true) : tbN p (m + 1) = tbN p m ||| 2 ^ m := by
  show tbN p m ||| (if p m then 2 ^ m else 0) = _
  rw [h]; rfl
theorem tab_no {p : Nat → Bool} {m : Nat} (h : p m = false) : tbN p (m + 1) = tbN p m := by
  show tbN p m ||| (if p m then 2 ^ m else 0) = _
  rw [h]; simp
set_option maxHeartbeats 2000000 in
theorem tableOf_any {w : World} {A : Option Addr} {n c : Nat} {f : List Int} (hl : Hid (f.length = n)) (hr : Rd w w.heap.size A (ivs f)) :
    Calls Tryd.prog 27 #[.slice A n c] w (fun e w' => e = .returned (.tuple #[.int .u64 (tabN f : Nat), .bool (isF f)]) ∧ Below w.heap.size w w') := by
  by_cases hf : isF f = true
  · obtain ⟨t, ht, hv⟩ := fml_tree hf
    have hok : trOk t := by
      have h := hf
      unfold isF at h
      rw [Bool.and_eq_true, decide_eq_true_iff] at h
      exact pileR_ok (f := f) (k := f.length) (n := 1) (by rw [List.take_length]; exact h.1) (Nat.le_refl _) t (by rw [List.take_length, ht]; simp)
    have ih : ∀ (m : Nat) (A' : Option Addr) w, Rd w w.heap.size A' (bls (rowR m)) → Calls Tryd.prog (trF t) #[trP t, .slice A' 6 6] w (Tells (valR f m) w) := fun m A' w h => by
      have := trVal_any (A := A') (c := 6) (Lib.hid (rowR_len m)) t hok w h
      rw [hv (rowR m)] at this
      exact this
    have HT := Lib.hid (show resT f = .iface (trI t) (trP t) by unfold resT; rw [hf, ht]; exact encT_eq t)
    have HF := Lib.hid hf
    have hm := meth_val t
    have hc := call_val t
    have hn := nil_val t
    generalize trI t = i at hm hn HT ⊢
    generalize trP t = p at hm hn hc ih HT ⊢
    generalize trF t = q at hm hc ih ⊢
    have HI := Lib.hid ih
    have HTN := Lib.hid (show tabN f = tbN (valR f) 64 from rfl)
    clear ih hf ht hv hok
    go_enter Tryd.func27, Tryd.ntmps27
    go_wp2_with fail
    refine (treeOf_any (f := f) hl hr).mono ?_
    rintro e w1 ⟨rfl, hb⟩
    rw [HT.out, HF.out]
    go_wp2_with fail
    go_loopw [6, 15] (fun r i wr => ∃ m : Nat, m ≤ 64 ∧ i = .int .i64 m ∧ r = .int .u64 (tbN (valR f) m : Nat) ∧ Below w1.heap.size w1 wr) (fun _ i _ => 64 - (intOf i).toNat)
    case atStart => exact ⟨0, by omega, rfl, rfl, Below.refl _ _⟩
    case round =>
      obtain ⟨m, hm2, rfl, rfl, hbw⟩ := hrel
      have hsz := hbw.size
      by_cases hlt : m < 64
      · have HY := Lib.hid (show valR f m = true → bits .or .u64 (tbN (valR f) m : Nat) (IntKind.u64.wrap (2 ^ m)) = (tbN (valR f) (m + 1) : Nat) from fun h => by rw [tab_yes h]; exact or_u64 _ (tbN_64 _ (by omega)) hlt)
        have HN := Lib.hid (fun (h : valR f m = false) => tab_no (p := valR f) (m := m) h)
        obtain ⟨b, hb'⟩ : ∃ b, b = valR f m := ⟨_, rfl⟩
        have HB := Lib.hid hb'.symm
        rw [← hb'] at HY HN
        obtain ⟨T, hT⟩ : ∃ T, T = tbN (valR f) m := ⟨_, rfl⟩
        rw [← hT] at HY HN
        rw [← hT]
        have i0 : (0 : Int) ≤ (m : Int) := by omega
        clear hb' hT
        go_wp2_with fail
        go_region_law (first
          | (go_simp; go_at_call 38; (with_reducible refine (lettersOfRow_any hlt).mono ?_); rintro e u1 ⟨Ab, rfl, hrb, r⟩; have q1 : Below wr.heap.size wr u1 := (by first | exact r | exact (Below.refl _ _).drew.trans r))
          | (go_simp; (with_reducible refine (HI.out m _ _ (by first | exact hrb | exact hrb.drewN 1)).mono ?_); rintro e u2 ⟨he, r2⟩; rw [HB.out] at he; subst he; have q2 : Below wr.heap.size wr u2 := (by first | exact q1.trans (r2.mono q1.size) | exact q1.drew.trans (r2.mono q1.size))))
        all_goals
          have q3 := hbw.trans (q2.mono hsz)
          cases b with
          | true =>
            go_wp2_with fail
            go_roundw
            case rel => exact ⟨m + 1, by omega, by go_num, by rw [HY.out (by trivial)], q3⟩
            case measure => simp [intOf]; omega
          | false =>
            go_wp2_with fail
            go_roundw
            case rel => exact ⟨m + 1, by omega, by go_num, by rw [HN.out (by trivial)], q3⟩
            case measure => simp [intOf]; omega
      · have e : m = 64 := by omega
        subst e
        go_wp2_with fail
        go_ret2
        exact ⟨by rw [HTN.out, HF.out]; rfl, hb.trans (hbw.mono hb.size)⟩
  · have HF := Lib.hid (show isF f = false by simpa using hf)
    have HV := Lib.hid (tabN_no HF.out)
    clear hf
    go_enter Tryd.func27, Tryd.ntmps27
    go_wp2_with fail
    refine (treeOf_any (f := f) hl hr).mono ?_
    rintro e w1 ⟨rfl, hb⟩
    rw [HF.out]
    go_wp2_with fail
    go_ret2
    exact ⟨by rw [HV.out, HF.out]; rfl, hb⟩
end Go.Proofs.YtignchefkihdaaaDoor
