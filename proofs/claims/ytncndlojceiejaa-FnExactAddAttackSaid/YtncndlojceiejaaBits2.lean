/- Contracts of the code's victims of a claim, and of the list of a row's claims. Conditions: at most 10 claims, rows below 2^16. -/
import Derived.Test.YtncndlojceiejaaBits
import Derived.Test.YtncndlojceiejaaAppend
namespace Go.Proofs.Ytncndlojceiejaa
open Go.ChangeShapes Go.WideShapes Go.ChangeAt Go.RowKit
def vic (n : Int) (f : Nat → Nat) (c : Int) : Nat := if inr c 0 (n - 1) then f c.toNat else 0
theorem victims_any {w : World} {n c : Int} {f : Nat → Nat} (h0 : 0 ≤ n) (h1 : n ≤ 10) :
    Calls Try.prog 46 #[.agg (arC n f), .int .i64 c] w (fun e w' => e = .returned (.int .u16 (vic n f c : Nat)) ∧ Below w.heap.size w w') := by
  have hb : Below w.heap.size w (w.alloc (Obj.cells (arC n f) 60)) := (Below.refl _ _).alloc (Nat.le_refl _) _
  have bx := Bx.made w 60 (arC n f)
  obtain ⟨W1, hW⟩ : ∃ u : World, u = w.alloc (Obj.cells (arC n f) 60) := ⟨_, rfl⟩
  rw [← hW] at hb bx
  have c0 := bx.at_ (k := 0) (v := .int .i64 n) rfl
  by_cases hi : inr c 0 (n - 1) = true
  · have hv : vic n f c = f c.toNat := by unfold vic; rw [if_pos hi]
    have hc : 0 ≤ c ∧ c ≤ n - 1 := by simpa [inr] using hi
    obtain ⟨k, rfl⟩ := Int.eq_ofNat_of_zero_le hc.1
    rw [Int.toNat_natCast] at hv
    have ck := bx.at_ (arC_at n f (a := k) (by omega))
    have HV := Lib.hid hv
    have HI := Lib.hid hi
    obtain ⟨x, hx⟩ : ∃ x, x = f k := ⟨_, rfl⟩
    rw [← hx] at ck HV
    have i1 : (0 : Int) ≤ (k : Int) := by omega
    have i2 : (k : Int) < 10 := by omega
    clear hv hi hx bx
    go_enter Try.func46, Try.ntmps46
    have hW' := hW.symm
    clear hW
    go_wp2_with (go_at_call 36; refine (isClaim_any (by omega) (by omega)).mono ?_; rintro e w1 ⟨he, rfl⟩; rw [HI.out] at he; subst he)
    go_ret
    exact ⟨by rw [HV.out]; rfl, hb⟩
  · have hi' : inr c 0 (n - 1) = false := by simpa using hi
    have HV := Lib.hid (show vic n f c = 0 by unfold vic; rw [if_neg hi])
    have HI := Lib.hid hi'
    clear hi hi' bx
    go_enter Try.func46, Try.ntmps46
    have hW' := hW.symm
    clear hW
    go_wp2_with (go_at_call 36; refine (isClaim_any (by omega) (by omega)).mono ?_; rintro e w1 ⟨he, rfl⟩; rw [HI.out] at he; subst he)
    go_ret
    exact ⟨by rw [HV.out]; rfl, hb⟩
/-- The claims of a row, in order. -/
def lsT (x k : Nat) : List Int := ((List.range k).filter (x.testBit ·)).map fun (j : Nat) => (j : Int)
theorem lsT_yes {x k : Nat} (h : x.testBit k = true) : lsT x (k + 1) = lsT x k ++ [(k : Int)] := by simp [lsT, List.range_succ, h]
theorem lsT_no {x k : Nat} (h : x.testBit k = false) : lsT x (k + 1) = lsT x k := by simp [lsT, List.range_succ, h]
theorem lsT_len (x k : Nat) : (lsT x k).length ≤ k := by
  unfold lsT
  rw [List.length_map]
  exact Nat.le_trans (List.length_filter_le _ _) (by simp)
theorem ivs_snoc_l (zs : List Int) (x : Int) : ivs zs ++ [Value.int .i64 x] = ivs (zs ++ [x]) := by simp [ivs]
set_option maxRecDepth 100000 in
set_option maxHeartbeats 1600000 in
theorem list_any {w : World} {x : Nat} (hx : x < 65536) : Calls Try.prog 49 #[.int .u16 x] w (Fresh 3 (ivs (lsT x 10)) w) := by
  obtain ⟨i0, hi, hz0, hz1, hz2⟩ := info_parts IntS_info
  have hrow0 := Row.made (w := w) w.heap.size #[] 0 3 (Nat.le_refl _) rfl (Nat.zero_le _)
  have hb0 : Below w.heap.size w (w.alloc (Obj.cells #[] 3)) := (Below.refl _ _).alloc (Nat.le_refl _) _
  go_enter Try.func49, Try.ntmps49
  go_wp2
  go_loopw [3, 6] (fun b i wr => ∃ k : Nat, k ≤ 10 ∧ i = .int .i64 k ∧ Row wr w.heap.size wr.heap.size 3 b (ivs (lsT x k)) ∧ Below w.heap.size w wr) (fun _ i _ => 10 - (intOf i).toNat)
  case atStart => exact ⟨0, Nat.zero_le _, rfl, hrow0.wide (Nat.le_refl _) (by simp), hb0⟩
  case round =>
    obtain ⟨k, hk, rfl, hrow, hbw⟩ := hrel
    have hsz := hbw.size
    clear hrow0 hb0
    by_cases hlt : k < 10
    · have e1 : inr (k : Int) 0 9 = true := inr_t (by omega) (by omega)
      obtain ⟨ys, hys⟩ : ∃ ys, ys = lsT x k := ⟨_, rfl⟩
      have hyl : ys.length ≤ k := by rw [hys]; exact lsT_len x k
      by_cases hb : x.testBit k = true
      · have HT := Lib.hid (lsT_yes hb)
        have HB := Lib.hid (show (inr (k : Int) 0 9 && x.testBit (k : Int).toNat) = true by rw [e1, Int.toNat_natCast, hb]; rfl)
        rw [← hys] at hrow HT
        have hbl : Below wr.heap.size wr (wr.alloc (Obj.cells #[Value.int .i64 k] 3)) := (Below.refl _ _).alloc (Nat.le_refl _) _
        have hrow2 := hrow.new hbl
        have hmade := Rd.made wr #[Value.int .i64 k] 3
        have L : (ivs ys).length + 1 ≤ maxLen ∧ ((ivs ys).length + 1) * 8 ≤ 140737488355328 := by rw [ivs_len]; unfold maxLen; omega
        have L1 := Lib.hid L
        clear L hys hb e1
        go_wp2_with (first
          | (go_at_call 47; refine (has_any hx).mono ?_; rintro e w1 ⟨he, rfl⟩; rw [HB.out] at he; subst he)
          | (at_builtin; refine wpList_app rfl (.tmp 12) (.tmp 14) 40 rfl 3 i0 _ 8 Try.underlying40 hi hz0 hz1 hz2 rfl rfl rfl hrow2 rfl hmade (by simp [Value.oneCell']) L1.out.1 L1.out.2 (by simp; omega) ?_; intro v1 w1 hrow1 ho1))
        go_roundw
        case rel => exact ⟨k + 1, by omega, by go_num, by rw [HT.out, ← ivs_snoc_l]; exact hrow1, hbw.trans ((hbl.mono hsz).trans (ho1.below (Nat.le_refl _) (by simp; omega)))⟩
        case measure => simp [intOf]; omega
      · have hb' : x.testBit k = false := by simpa using hb
        have HT := Lib.hid (lsT_no hb')
        have HB := Lib.hid (show (inr (k : Int) 0 9 && x.testBit (k : Int).toNat) = false by rw [e1, Int.toNat_natCast, hb']; rfl)
        rw [← hys] at hrow HT
        clear hys hb hb' e1
        go_wp2_with (go_at_call 47; refine (has_any hx).mono ?_; rintro e w1 ⟨he, rfl⟩; rw [HB.out] at he; subst he)
        go_roundw
        case rel => exact ⟨k + 1, by omega, by go_num, by rw [HT.out]; exact hrow, hbw⟩
        case measure => simp [intOf]; omega
    · have e : k = 10 := by omega
      subst e
      go_wp2
      go_ret
      exact ⟨_, rfl, hrow, hbw⟩
end Go.Proofs.Ytncndlojceiejaa
