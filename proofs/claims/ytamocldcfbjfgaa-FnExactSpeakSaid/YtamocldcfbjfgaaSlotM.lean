/- Contracts of the models of chapter 14: IsSlot, Speak, LeftOf, OverBy, TotalUsed. Condition: the slice has at most 2^20 elements. -/
import Derived.Test.YtamocldcfbjfgaaSlotA
import Derived.Test.YtamocldcfbjfgaaClkMath
import Derived.Test.YtamocldcfbjfgaaInts
namespace Go.Proofs.Ytamocldcfbjfgaa
open Go.ChangeShapes Go.WideShapes Go.ChangeAt Go.RowKit
set_option maxRecDepth 100000
theorem alloc_new' (w : World) (o : Obj) : Below w.heap.size w (w.alloc o) := (Below.refl _ _).alloc (Nat.le_refl _) o
set_option maxHeartbeats 1000000 in
theorem specIsSlot_any {w : World} {a b c : Int} : Calls Try.prog 15 #[.agg #[.int .i64 a, .int .i64 b, .int .i64 c]] w (Tells (slB (a, b, c)) w) := by
  have hb1 := alloc_new' w (Obj.cells #[Value.int .i64 a, .int .i64 b, .int .i64 c] 25)
  by_cases h1 : inr a 1 99 = true
  · by_cases h2 : inr b 1 1000 = true
    · have hb := inrI h2
      have hw := IntWalk.i64_in (b + 15) (by omega)
      have HV := Lib.hid (show slB (a, b, c) = inr c 0 (b + 15) by unfold slB; simp only [h1, h2, Bool.true_and])
      have H1 := Lib.hid h1
      have H2 := Lib.hid h2
      clear h1 h2
      obtain ⟨r, hr⟩ : ∃ r, inr c 0 (b + 15) = r := ⟨_, rfl⟩
      have HR := Lib.hid hr
      rw [hr] at HV
      clear hr
      go_enter Try.func15, Try.ntmps15
      go_wp2_with fail
      refine (l1In_any _ _ _ _).mono ?_
      rintro e u ⟨rfl, rfl⟩
      rw [H1.out]
      go_wp2_with fail
      refine (l1In_any _ _ _ _).mono ?_
      rintro e u ⟨rfl, rfl⟩
      rw [H2.out]
      go_wp2_with fail
      refine (l1In_any _ _ _ _).mono ?_
      rintro e u ⟨rfl, rfl⟩
      rw [HR.out]
      go_wp2_with fail
      go_ret
      exact ⟨ret_b HV.out.symm, hb1⟩
    · have h2 : inr b 1 1000 = false := by simpa using h2
      have HV := Lib.hid (show slB (a, b, c) = false by unfold slB; simp only [h1, h2]; rfl)
      have H1 := Lib.hid h1
      have H2 := Lib.hid h2
      clear h1 h2
      go_enter Try.func15, Try.ntmps15
      go_wp2_with fail
      refine (l1In_any _ _ _ _).mono ?_
      rintro e u ⟨rfl, rfl⟩
      rw [H1.out]
      go_wp2_with fail
      refine (l1In_any _ _ _ _).mono ?_
      rintro e u ⟨rfl, rfl⟩
      rw [H2.out]
      go_wp2_with fail
      go_ret
      exact ⟨ret_b HV.out.symm, hb1⟩
  · have h1 : inr a 1 99 = false := by simpa using h1
    have HV := Lib.hid (show slB (a, b, c) = false by unfold slB; simp only [h1]; rfl)
    have H1 := Lib.hid h1
    clear h1
    go_enter Try.func15, Try.ntmps15
    go_wp2_with fail
    refine (l1In_any _ _ _ _).mono ?_
    rintro e u ⟨rfl, rfl⟩
    rw [H1.out]
    go_wp2_with fail
    go_ret
    exact ⟨ret_b HV.out.symm, hb1⟩
theorem tot_snoc (X : List T3) (w : Int) {k : Nat} (hk : k < X.length) : totN (X.take (k + 1)) w = totN (X.take k) w + totP w X[k] := by
  unfold totN
  rw [List.take_succ_eq_append_getElem hk, List.foldl_append]
  rfl
set_option maxHeartbeats 4000000 in
theorem specTotalUsed_any {w : World} {A : Option Addr} {n c : Nat} {q : Int} {X : List T3} (hl : Hid (X.length = n)) (hn : n ≤ 1099511627776) (hr : Rd w w.heap.size A (t3s X)) :
    Calls Try.prog 31 #[.slice A n c, .int .i64 q] w (fun e w' => e = .returned (.int .i64 (totN X q)) ∧ Below w.heap.size w w') := by
  go_enter Try.func31, Try.ntmps31
  go_wp2_with fail
  go_loopw [5, 6] (fun s i wr => ∃ (k : Nat) (t : Int), k ≤ n ∧ i = .int .i64 k ∧ s = .int .i64 t ∧ Hid (t = totN (X.take k) q) ∧ (0 ≤ t ∧ t ≤ 1015 * (k : Int)) ∧ Below w.heap.size w wr) (fun _ i _ => n - (intOf i).toNat)
  case atStart => exact ⟨0, 0, Nat.zero_le _, rfl, rfl, Lib.hid rfl, by omega, Below.refl _ _⟩
  case round =>
    obtain ⟨k, t, hk, rfl, rfl, ht, htb, hb⟩ := hrel
    by_cases hlt : k < n
    · have hkz : k < X.length := by rw [hl.out]; exact hlt
      obtain ⟨ad, p, rfl, hp, hab, h0, h1, h2⟩ := t3_cells ((hr.below hb).more hb.size) hkz
      have HS := Lib.hid (tot_snoc X q hkz)
      obtain ⟨x, hx⟩ : ∃ x, x = X[k] := ⟨_, rfl⟩
      rw [← hx] at h0 h1 h2 HS
      have i0 : (0 : Int) ≤ (k : Int) := by omega
      have i1 : (k : Int) < (n : Int) := by omega
      clear hx
      by_cases hw : x.1 = q
      · have hq : (x.1 == q) = true := by simpa using hw
        cases hs : slB x with
        | true =>
          obtain ⟨_, _, s1, s2⟩ := sl_parts hs
          have hx2 : x.2.1 ≤ 1000 := (sl_parts hs).2.1.2
          have HV := Lib.hid (show totP q x = x.2.2 by unfold totP; rw [if_pos ⟨hw, hs⟩])
          have HSL := Lib.hid (show slB (q, x.2.1, x.2.2) = true by rw [← hw]; exact hs)
          have hws := IntWalk.i64_in (t + x.2.2) (by omega)
          clear hs
          go_wp2_with fail
          refine (specIsSlot_any).mono ?_
          rintro e u ⟨he, r⟩
          rw [HSL.out] at he
          subst he
          have c2 := (r.cell (p := ⟨p.block, p.off + 2, none⟩) hab).trans h2
          go_wp2_with fail
          go_roundw
          case rel => exact ⟨k + 1, t + x.2.2, by omega, by go_num, rfl, Lib.hid (by rw [HS.out, HV.out, ht.out]), by omega, hb.trans (r.mono hb.size)⟩
          case measure => simp [intOf]; omega
        | false =>
          have HV := Lib.hid (show totP q x = 0 by unfold totP; rw [if_neg (by simp [hs])])
          have HSL := Lib.hid (show slB (q, x.2.1, x.2.2) = false by rw [← hw]; exact hs)
          clear hs
          go_wp2_with fail
          refine (specIsSlot_any).mono ?_
          rintro e u ⟨he, r⟩
          rw [HSL.out] at he
          subst he
          go_wp2_with fail
          go_roundw
          case rel => exact ⟨k + 1, t, by omega, by go_num, rfl, Lib.hid (by rw [HS.out, HV.out, ht.out]; omega), by omega, hb.trans (r.mono hb.size)⟩
          case measure => simp [intOf]; omega
      · have hq : (x.1 == q) = false := by simpa using hw
        have HV := Lib.hid (show totP q x = 0 by unfold totP; rw [if_neg (by simp [hw])])
        go_wp2_with fail
        go_roundw
        case rel => exact ⟨k + 1, t, by omega, by go_num, rfl, Lib.hid (by rw [HS.out, HV.out, ht.out]; omega), by omega, hb⟩
        case measure => simp [intOf]; omega
    · have e : k = n := by omega
      subst e
      have HT := Lib.hid (show t = totN X q by rw [ht.out, List.take_of_length_le (by rw [hl.out]; exact Nat.le_refl _)])
      go_wp2_with fail
      go_ret
      exact ⟨ret_i HT.out, hb⟩
end Go.Proofs.Ytamocldcfbjfgaa
