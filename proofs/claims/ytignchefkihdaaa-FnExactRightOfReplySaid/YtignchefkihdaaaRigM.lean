/- Contract of the model RightOfReply (chapter 15). Condition: the slices have at most 2^40 elements. -/
import Derived.Test.YtignchefkihdaaaRigMath
import Derived.Test.YtignchefkihdaaaOrdA
import Derived.Test.YtignchefkihdaaaGraph
import Derived.Test.YtignchefkihdaaaInts
namespace Go.Proofs.Ytignchefkihdaaa
open Go.ChangeShapes Go.WideShapes Go.ChangeAt Go.RowKit
set_option maxRecDepth 100000
set_option maxHeartbeats 8000000 in
theorem specRightOfReply_any {w : World} {A A' : Option Addr} {n c n' c' : Nat} {S Z : List Int} (hl : Hid (S.length = n)) (hn : n ≤ 1099511627776) (hl' : Hid (Z.length = n')) (hn' : n' ≤ 1099511627776) (hr : Rd w w.heap.size A (ivs S)) (hr' : Rd w w.heap.size A' (ivs Z)) :
    Calls Try.prog 67 #[.slice A n c, .slice A' n' c'] w (Fresh 3 (ivs (rigL S Z)) w) := by
  obtain ⟨i0, hi, hz0, hz1, hz2⟩ := info_parts IntS_info
  have hb0 : Below w.heap.size w (w.alloc (Obj.cells #[] 3)) := (Below.refl _ _).alloc (Nat.le_refl _) _
  have hrow0 : Row (w.alloc (Obj.cells #[] 3)) w.heap.size (w.alloc (Obj.cells #[] 3)).heap.size 3 (.slice (some ⟨w.heap.size, 0, none⟩) 0 0) (ivs (rgP S Z 0)) := (Row.made (w := w) w.heap.size #[] 0 3 (Nat.le_refl _) rfl (Nat.zero_le _)).wide (Nat.le_refl _) (by simp)
  have HR := Lib.hid (And.intro hr hr')
  have ww0 : IntKind.i64.wrap ((n : Int) - 1) = (n : Int) - 1 := IntWalk.i64_in _ (by omega)
  clear hr hr'
  go_enter Try.func67, Try.ntmps67
  go_wp2_with fail
  go_loopw [5, 6] (fun s i wr => ∃ q : Nat, q ≤ 2 ∧ i = .int .i64 q ∧ Row wr w.heap.size wr.heap.size 3 s (ivs (rgP S Z q)) ∧ Below w.heap.size w wr) (fun _ i _ => 2 - (intOf i).toNat)
  case atStart => exact ⟨0, by omega, rfl, hrow0, hb0⟩
  case round =>
    obtain ⟨q, hq, rfl, hrow, hb⟩ := hrel
    clear hrow0 hb0
    by_cases hq2 : q < 2
    · have i2 : (q : Int) < 2 := by omega
      have hwq := IntWalk.i64_in ((q : Int) + 1) (by omega)
      have HROW := Lib.hid hrow
      have HB := Lib.hid hb
      obtain ⟨wo, hwo⟩ : ∃ u, u = wr := ⟨_, rfl⟩
      subst hwo
      have hq1 : ((q : Int) == 1) = (q == 1) := by rw [Bool.eq_iff_iff]; simp; omega
      obtain ⟨b, hbq⟩ : ∃ b, (q == 1) = b := ⟨_, rfl⟩
      rw [hbq] at hq1
      have HBQ := Lib.hid hbq
      clear hrow hb hbq
      go_wp2_with fail
      go_loopw [5, 7] (fun s i wq => ∃ k : Nat, k ≤ n ∧ i = .int .i64 ((k : Int) - 1) ∧ Row wq w.heap.size wq.heap.size 3 s (ivs (rgP S Z q)) ∧ Below w.heap.size w wq ∧ Hid (noB S Z b k)) (fun _ i _ => (intOf i + 1).toNat)
      case atStart => exact ⟨n, Nat.le_refl _, rfl, HROW.out, HB.out, Lib.hid (by rw [← hl.out]; exact noB_len S Z b)⟩
      case round =>
        obtain ⟨k, hk, rfl, hrow, hb, hno⟩ := hrel
        have hsz := hb.size
        by_cases hk0 : k = 0
        · subst hk0
          have HV := Lib.hid (show rgP S Z (q + 1) = rgP S Z q from rgP_none (by rw [HBQ.out]; exact hno.out))
          have i3 : ¬ (0 : Int) ≤ ((0 : Nat) : Int) - 1 := by omega
          have i4 : ((0 : Nat) : Int) - 1 = -1 := by omega
          have HROWx := Lib.hid hrow
          have HBx := Lib.hid hb
          clear hrow hb HROW HB
          go_wp2_with fail
          go_roundw
          case rel => exact ⟨q + 1, by omega, by go_num, by rw [HV.out]; exact HROWx.out, HBx.out⟩
          case measure => simp [intOf] <;> omega
        · obtain ⟨j, hj⟩ : ∃ j, k = j + 1 := ⟨k - 1, by omega⟩
          subst hj
          have hjk : (((j + 1 : Nat) : Int) - 1) = (j : Int) := by omega
          rw [hjk]
          have hjS : j < S.length := by rw [hl.out]; omega
          obtain ⟨ad, eA, hab, hc0⟩ := ivs_at ((HR.out.1.below hb).more hsz) hjS
          have i3 : (0 : Int) ≤ (j : Int) := by omega
          have i5 : (j : Int) < (n : Int) := by omega
          have i6 : (j : Int) ≥ 0 := by omega
          have hwj := IntWalk.i64_in ((j : Int) - 1) (by omega)
          have HNO := Lib.hid (fun hx => noB_dec (a := Z) (b := b) hjS hno.out hx)
          have HSO := Lib.hid (fun hx => rgP_some (a := Z) (q := q) hjS (by rw [HBQ.out]; exact hno.out) hx)
          obtain ⟨x, hx⟩ : ∃ y, y = S[j] := ⟨_, rfl⟩
          rw [← hx] at hc0 HNO HSO
          have HRZ := Lib.hid ((HR.out.2.below hb).more hsz)
          have HROWx := Lib.hid hrow
          have HBx := Lib.hid hb
          have HEA := Lib.hid eA
          subst eA
          clear hx hrow hb hno HROW HB hjk
          obtain ⟨t, ht⟩ : ∃ t, Z.contains x = t := ⟨_, rfl⟩
          rw [ht] at HNO HSO
          have HTT := Lib.hid ht
          clear ht
          cases hz : (t == b) with
          | false =>
            have HN := Lib.hid (HNO.out (by intro e; rw [e] at hz; simp at hz))
            go_wp2_with fail
            refine (l4h_any hl' hn' HRZ.out).mono ?_
            rintro e u ⟨rfl, rfl⟩
            rw [HTT.out]
            go_wp2_with fail
            go_roundw
            case rel => exact ⟨j, by omega, by go_num, HROWx.out, HBx.out, HN⟩
            case measure => simp [intOf] <;> omega
          | true =>
            have HV := Lib.hid (HSO.out (by rw [HBQ.out]; simpa using hz))
            have hPl : (rgP S Z q).length ≤ q := rgP_len S Z q
            obtain ⟨P, hP⟩ : ∃ P, rgP S Z q = P := ⟨_, rfl⟩
            have HROWP := Lib.hid (show Row _ _ _ _ _ (ivs P) from hP ▸ HROWx.out)
            rw [hP] at HV hPl
            clear hP HROWx
            have L1 := Lib.hid (show (ivs P).length + 1 ≤ maxLen ∧ ((ivs P).length + 1) * 8 ≤ 140737488355328 by rw [ivs_len]; unfold maxLen; omega)
            go_wp2_with fail
            refine (l4h_any hl' hn' HRZ.out).mono ?_
            rintro e u ⟨rfl, rfl⟩
            rw [HTT.out]
            have b3 := alloc_new wr (Obj.cells #[.int .i64 x] 3)
            have HROW3 := Lib.hid ((HROWP.out.new b3).wide (Nat.le_refl _) b3.size)
            have HMADE := Lib.hid (show Rd _ _ _ [.int .i64 x] from Rd.made wr #[.int .i64 x] 3)
            clear b3
            go_wp2_with (at_builtin; refine wpList_app rfl (.tmp 29) (.tmp 34) 25 rfl 3 i0 _ 8 Try.underlying25 hi hz0 hz1 hz2 rfl rfl rfl HROW3.out rfl HMADE.out (by simp [Value.oneCell']) L1.out.1 L1.out.2 (by simp; omega) ?_; intro v9 w9 hrow9 ho9)
            have hb9 : Below w.heap.size w w9 := HBx.out.trans (((alloc_new wr _).mono hsz).trans (ho9.below (Nat.le_refl _) (by simp; omega)))
            go_roundw
            case rel => exact ⟨q + 1, by omega, by go_num, by rw [HV.out, show ivs (P ++ [x]) = ivs P ++ [.int .i64 x] by simp [ivs]]; exact hrow9, hb9⟩
            case measure => simp [intOf] <;> omega
    · have e : q = 2 := by omega
      subst e
      have HT := Lib.hid (rgP_rig S Z)
      rw [HT.out] at hrow
      have i2 : ¬ ((2 : Nat) : Int) < 2 := by omega
      go_wp2_with fail
      go_ret
      exact ⟨_, rfl, hrow, hb⟩
end Go.Proofs.Ytignchefkihdaaa
