/- Contracts of the models of chapter 11: l11Row, CountRows. Condition: the slice has at most 2^40 elements. -/
import Derived.Test.YtignchefkihdaaaMg11
import Derived.Test.YtignchefkihdaaaMg9
import Derived.Test.YtignchefkihdaaaMg4
import Derived.Test.YtignchefkihdaaaMg2
import Derived.Test.YtignchefkihdaaaMg6
namespace Go.Proofs.Ytignchefkihdaaa
open Go.ChangeShapes Go.WideShapes Go.ChangeAt Go.RowKit
set_option maxRecDepth 100000
theorem bit_row : ∀ (m : Fin 64) (k : Fin 6), (bits .and .i64 (((m.val : Nat) : Int) / 2 ^ k.val) 1 == 1) = m.val.testBit k.val := by decide +kernel
theorem rowR_snoc (m : Nat) {k : Nat} (hk : k < 6) : (rowR m).take (k + 1) = (rowR m).take k ++ [m.testBit k] := by
  have h : k < (rowR m).length := by rw [rowR_len]; exact hk
  rw [List.take_succ_eq_append_getElem h]
  congr 2
  simp [rowR]
set_option maxHeartbeats 2000000 in
theorem l11Row_any {w : World} {m : Nat} (hm : m < 64) :
    Calls Try.prog 166 #[.int .i64 (m : Int)] w (Fresh 4 (bls (rowR m)) w) := by
  obtain ⟨i0, hi, hz0, hz1, hz2⟩ := info_parts BoolS_info
  have hrow0 := (Row.made (w := w) w.heap.size #[] 0 4 (Nat.le_refl _) rfl (Nat.zero_le _)).wide (hi' := (w.alloc (Obj.cells #[] 4)).heap.size) (Nat.le_refl _) (by simp)
  have k0 := alloc_new w (Obj.cells #[] 4)
  go_enter Try.func166, Try.ntmps166
  go_wp2_with fail
  go_loopw [3, 4] (fun l i wr => ∃ k : Nat, k ≤ 6 ∧ i = .int .i64 k ∧ Row wr w.heap.size wr.heap.size 4 l (bls ((rowR m).take k)) ∧ Below w.heap.size w wr) (fun _ i _ => 6 - (intOf i).toNat)
  case atStart => exact ⟨0, by omega, rfl, hrow0, k0⟩
  case round =>
    obtain ⟨k, hk, rfl, hrow, hb⟩ := hrel
    clear hrow0 k0
    by_cases hlt : k < 6
    · have hbv := bit_row ⟨m, hm⟩ ⟨k, hlt⟩
      simp only at hbv
      have hsz := hb.size
      obtain ⟨b, hb'⟩ : ∃ b, m.testBit k = b := ⟨_, rfl⟩
      rw [hb'] at hbv
      have HB := Lib.hid hb'
      have hbl := alloc_new wr (Obj.cells #[Value.bool b] 4)
      have row2 := hrow.new hbl
      have hmade := Rd.made wr #[Value.bool b] 4
      have L1 := Lib.hid (show (bls ((rowR m).take k)).length + 1 ≤ maxLen ∧ ((bls ((rowR m).take k)).length + 1) * 1 ≤ 140737488355328 by rw [bls_len, List.length_take, rowR_len]; unfold maxLen; omega)
      have HS := Lib.hid (rowR_snoc m hlt)
      clear hb' hrow
      go_wp2_with (at_builtin; refine wpList_app rfl (.tmp 10) (.tmp 16) 130 rfl 4 i0 _ 1 Try.underlying130 hi hz0 hz1 hz2 rfl rfl rfl row2 rfl hmade (by simp [Value.oneCell']) L1.out.1 L1.out.2 (by simp; omega) ?_; intro v1 w3 row3 ho3)
      have hb3 : Below w.heap.size wr w3 := (hbl.mono hsz).trans (ho3.below (Nat.le_refl _) (by simp; omega))
      go_roundw
      case rel => exact ⟨k + 1, by omega, by go_num, by rw [HS.out, HB.out, show bls ((rowR m).take k ++ [b]) = bls ((rowR m).take k) ++ [Value.bool b] by simp [bls]]; exact row3, hb.trans hb3⟩
      case measure => simp [intOf] <;> omega
    · have e : k = 6 := by omega
      subst e
      have HRW := Lib.hid hrow
      clear hrow
      go_wp2_with fail
      go_ret
      have hr := HRW.out
      rw [List.take_of_length_le (by rw [rowR_len]; exact Nat.le_refl _)] at hr
      exact ⟨_, rfl, hr, hb⟩
theorem cnt_snoc (f : List Int) (m : Nat) : ((List.range (m + 1)).filter (valR f)).length = ((List.range m).filter (valR f)).length + if valR f m then 1 else 0 := by
  rw [List.range_succ, List.filter_append, List.length_append]
  cases h : valR f m <;> simp [h]
end Go.Proofs.Ytignchefkihdaaa
