/- Contracts of EncodeInts, DecodeInts and EqualBytes and of their models. No conditions but that each byte lies in 0 to 255 and that the slices have at most 2^40 elements. -/
import Derived.Test.YtmjnlhejdjkoaaaByteStr
import Derived.Test.YtmjnlhejdjkoaaaIntS
import Derived.Test.YtmjnlhejdjkoaaaEncMath
namespace Go.Proofs.Ytmjnlhejdjkoaaa
open Go.ChangeShapes Go.WideShapes Go.ChangeAt Go.RowKit
set_option maxHeartbeats 1600000 in
theorem specEncodeInts_any {w : World} {A : Option Addr} {n c : Nat} {vs : List Int} (hl : Hid (vs.length = n)) (hn : n ≤ 1099511627776) (hr : Rd w w.heap.size A (ivs vs)) :
    Calls Try.prog 33 #[.slice A n c] w (Fresh 5 (bvs (encs vs)) w) := by
  have hrow0 := Row.made (w := w) w.heap.size #[] 0 5 (Nat.le_refl _) rfl (Nat.zero_le _)
  have hb0 : Below w.heap.size w (w.alloc (Obj.cells #[] 5)) := (Below.refl _ _).alloc (Nat.le_refl _) _
  go_enter Try.func33, Try.ntmps33
  go_wp2
  go_loopw [3, 4] (fun b i wr => ∃ k : Nat, k ≤ n ∧ i = .int .i64 k ∧ Row wr w.heap.size wr.heap.size 5 b (bvs (encs (vs.take k))) ∧ Below w.heap.size w wr) (fun _ i _ => n - (intOf i).toNat)
  case atStart => exact ⟨0, Nat.zero_le _, rfl, hrow0.wide (Nat.le_refl _) (by simp), hb0⟩
  case round =>
    obtain ⟨k, hk, rfl, hrow, hb⟩ := hrel
    clear hrow0 hb0
    have hle : (encs (vs.take k)).length ≤ 6 * k := by have := encs_len (vs.take k); rw [List.length_take] at this; omega
    by_cases hlt : k < n
    · have hkz : k < vs.length := by rw [hl.out]; exact hlt
      obtain ⟨ad, rfl, hab, hc⟩ := ivs_at (hr.below hb) hkz
      have H1 := Lib.hid (encs_take vs k hkz)
      obtain ⟨ds, hds⟩ : ∃ ds, ds = encs (vs.take k) := ⟨_, rfl⟩
      rw [← hds] at hrow hle H1
      obtain ⟨B, d, rfl, hrd, _, _⟩ := hrow.rd (bvs_len ds)
      obtain ⟨x, hx⟩ : ∃ x, x = vs[k] := ⟨_, rfl⟩
      rw [← hx] at hc H1
      have hsz := hb.size
      clear hds hx hr
      go_wp2_with (go_at_call 26; refine (specAppendUvarint_any (Lib.hid rfl) (by omega) hrd).mono ?_; rintro e w1 ⟨v1, rfl, hrow1, hb1⟩)
      go_roundw
      case rel => exact ⟨k + 1, by omega, by go_num, by rw [H1.out]; exact hrow1.wide hsz (Nat.le_refl _), hb.trans (hb1.mono hsz)⟩
      case measure => simp [intOf]; omega
    · have e : k = n := by omega
      subst e
      have H1 := Lib.hid (show vs.take k = vs from List.take_of_length_le (by rw [hl.out]; omega))
      go_wp2
      go_ret
      exact ⟨_, rfl, by rw [← H1.out]; exact hrow, hb⟩
set_option maxHeartbeats 1600000 in
theorem impEncodeInts_any {w : World} {A : Option Addr} {n c : Nat} {vs : List Int} (hl : Hid (vs.length = n)) (hn : n ≤ 1099511627776) (hr : Rd w w.heap.size A (ivs vs)) :
    Calls Try.prog 23 #[.slice A n c] w (Fresh 5 (bvs (encs vs)) w) := by
  have hrow0 := Row.made (w := w) w.heap.size #[] 0 5 (Nat.le_refl _) rfl (Nat.zero_le _)
  have hb0 : Below w.heap.size w (w.alloc (Obj.cells #[] 5)) := (Below.refl _ _).alloc (Nat.le_refl _) _
  go_enter Try.func23, Try.ntmps23
  go_wp2
  go_loopw [3, 9] (fun b i wr => ∃ k : Nat, k ≤ n ∧ i = .int .i64 k ∧ Row wr w.heap.size wr.heap.size 5 b (bvs (encs (vs.take k))) ∧ Below w.heap.size w wr) (fun _ i _ => n - (intOf i).toNat)
  case atStart => exact ⟨0, Nat.zero_le _, rfl, hrow0.wide (Nat.le_refl _) (by simp), hb0⟩
  case round =>
    obtain ⟨k, hk, rfl, hrow, hb⟩ := hrel
    clear hrow0 hb0
    have hle : (encs (vs.take k)).length ≤ 6 * k := by have := encs_len (vs.take k); rw [List.length_take] at this; omega
    by_cases hlt : k < n
    · have hkz : k < vs.length := by rw [hl.out]; exact hlt
      obtain ⟨ad, rfl, hab, hc⟩ := ivs_at (hr.below hb) hkz
      have H1 := Lib.hid (encs_take vs k hkz)
      obtain ⟨ds, hds⟩ : ∃ ds, ds = encs (vs.take k) := ⟨_, rfl⟩
      rw [← hds] at hrow hle H1
      obtain ⟨x, hx⟩ : ∃ x, x = vs[k] := ⟨_, rfl⟩
      rw [← hx] at hc H1
      have hsz := hb.size
      clear hds hx hr
      go_wp2_with (go_at_call 45; refine (putUvarint_any (by omega) hsz hrow).mono ?_; rintro e w1 ⟨v1, rfl, hrow1, hb1⟩)
      go_roundw
      case rel => exact ⟨k + 1, by omega, by go_num, by rw [H1.out]; exact hrow1, hb.trans hb1⟩
      case measure => simp [intOf]; omega
    · have e : k = n := by omega
      subst e
      have H1 := Lib.hid (show vs.take k = vs from List.take_of_length_le (by rw [hl.out]; omega))
      go_wp2
      go_ret
      exact ⟨_, rfl, by rw [← H1.out]; exact hrow, hb⟩
end Go.Proofs.Ytmjnlhejdjkoaaa
