/- Contract of the code's signs (a strings.Builder). Conditions: at most 10 claims, rows below 2^16. -/
import Derived.Test.YtpopcjamildhkaaMg11
import Derived.Test.YtpopcjamildhkaaBld
namespace Go.Proofs.Ytpopcjamildhkaa
open Go.ChangeShapes Go.WideShapes Go.ChangeAt Go.RowKit
set_option maxRecDepth 100000
/-- The sign of a claim. -/
def sgn (i o : Bool) : Nat := if i then 43 else if o then 45 else 63
def sgs (x h k : Nat) : List UInt8 := (List.range k).map fun (j : Nat) => (sgn (x.testBit j) (h.testBit j)).toUInt8
theorem sgs_succ (x h k : Nat) : sgs x h (k + 1) = sgs x h k ++ [(sgn (x.testBit k) (h.testBit k)).toUInt8] := by simp [sgs, List.range_succ]
theorem sgs_len (x h k : Nat) : (sgs x h k).length = k := by simp [sgs]
theorem sgn_is (i o : Bool) : sgn i o = 43 ∨ sgn i o = 45 ∨ sgn i o = 63 := by
  unfold sgn
  split
  · exact .inl rfl
  · split
    · exact .inr (.inl rfl)
    · exact .inr (.inr rfl)
theorem rune_sgn (i o : Bool) : Lib.runeCells (sgn i o : Nat) = Lib.byteCells [(sgn i o).toUInt8] := by
  have h := sgn_is i o
  generalize sgn i o = r at h
  rcases h with rfl | rfl | rfl <;> rfl
theorem signOf_any {w : World} {i o : Bool} : Calls Try.prog 142 #[.bool i, .bool o] w (fun e w' => e = .returned (.int .i32 (sgn i o : Nat)) ∧ w = w') := by
  go_enter Try.func142, Try.ntmps142
  cases i
  · cases o
    · go_wp2
      go_ret
      exact ⟨rfl, rfl⟩
    · go_wp2
      go_ret
      exact ⟨rfl, rfl⟩
  · go_wp2
    go_ret
    exact ⟨rfl, rfl⟩
set_option maxHeartbeats 4000000 in
theorem signs_any {w : World} {m : Int} {f : Nat → Nat} (r0 : 0 ≤ m) (r1 : m ≤ 10) (hf : ∀ a, f a < 65536) {K : Nat} (hK10 : K ≤ 10) (hK : itB m f (K + 1) = itB m f K) (hgrow : ∀ j, j < K → itB m f (j + 1) ≠ itB m f j) :
    Calls Try.prog 95 #[.agg (arC m f)] w (fun e w' => e = .returned (.string ⟨(sgs (itB m f K) (hB f (itB m f K) 10) m.toNat).toArray⟩) ∧ Below w.heap.size w w') := by
  obtain ⟨n, rfl⟩ := Int.eq_ofNat_of_zero_le r0
  rw [Int.toNat_natCast]
  obtain ⟨m, hm⟩ : ∃ m : Int, m = n := ⟨_, rfl⟩
  rw [← hm] at r0 r1 hK hgrow ⊢
  have HM := Lib.hid hm
  clear hm
  have hb1 : Below w.heap.size w (w.alloc (Obj.cells (arC m f) 80)) := (Below.refl _ _).alloc (Nat.le_refl _) _
  have bx1 := Bx.made w 80 (arC m f)
  obtain ⟨c0, c1, c2, c3, c4, c5, c6, c7, c8, c9, c10⟩ := bx1.eleven
  obtain ⟨W1, hW⟩ : ∃ u : World, u = w.alloc (Obj.cells (arC m f) 80) := ⟨_, rfl⟩
  rw [← hW] at hb1 bx1 c0 c1 c2 c3 c4 c5 c6 c7 c8 c9 c10
  have hW' := hW.symm
  clear hW
  go_enter Try.func95, Try.ntmps95
  go_wp2_with fail
  clear hW' c0 c1 c2 c3 c4 c5 c6 c7 c8 c9 c10
  refine (grounded_any r0 r1 hf hK10 hK hgrow).mono ?_
  rintro e w2 ⟨rfl, hb2⟩
  have hb3 := hb1.trans (hb2.mono hb1.size)
  have bx2 := bx1.new hb2
  obtain ⟨c0, c1, c2, c3, c4, c5, c6, c7, c8, c9, c10⟩ := bx2.eleven
  have hx := Nat.lt_trans (itB_lt r1 f K) (show 1024 < 65536 by decide)
  obtain ⟨x, hxx⟩ : ∃ x, x = itB m f K := ⟨_, rfl⟩
  have HX := Lib.hid hxx.symm
  rw [← hxx] at hx ⊢
  clear hxx
  go_wp2_with fail
  clear c0 c1 c2 c3 c4 c5 c6 c7 c8 c9 c10
  refine (hitBits_any (n := m) hf hx).mono ?_
  rintro e w3 ⟨rfl, hb4⟩
  have hb5 := hb3.trans (hb4.mono hb3.size)
  have bx3 := bx2.new hb4
  have hh := hB_lt hf x 10
  obtain ⟨h, hhh⟩ : ∃ h, h = hB f x 10 := ⟨_, rfl⟩
  have HH := Lib.hid hhh.symm
  rw [← hhh] at hh ⊢
  clear hhh
  have isb := (Lib.IsBuilderF.of (Lib.fresh_isBuilder 138 5 w3))
  have hb6 : Below w3.heap.size w3 (w3.alloc (Obj.cells #[.pointer none, .slice none 0 0] 138)) := (Below.refl _ _).alloc (Nat.le_refl _) _
  have bx4 := bx3.new hb6
  have c0 := bx4.at_ (k := 0) (v := .int .i64 m) rfl
  obtain ⟨W4, hW4⟩ : ∃ u : World, u = w3.alloc (Obj.cells #[.pointer none, .slice none 0 0] 138) := ⟨_, rfl⟩
  rw [← hW4] at isb hb6 c0
  have hW4' := hW4.symm
  clear hW4 bx4
  have hmn := HM.out
  subst hmn
  go_wp2_with fail
  clear hW4' c0 bx3 bx2 bx1
  have hs4 := hb6.size
  have hwb := hb5.size
  generalize w3.heap.size = b at *
  go_loopw [14] (fun i wr => ∃ k : Nat, k ≤ n ∧ i = .int .i64 k ∧ Lib.IsBuilderF 138 5 b b (Lib.byteCells (sgs x h k)) wr ∧ Below b w3 wr ∧ b ≤ wr.heap.size) (fun i _ => n - (intOf i).toNat)
  case atStart => exact ⟨0, Nat.zero_le _, rfl, isb, hb6, hs4⟩
  case round =>
    obtain ⟨k, hk, rfl, isk, hbk, hsk⟩ := hrel
    by_cases hlt : k < n
    · have hl4 : (Lib.byteCells (sgs x h k)).length + 4 ≤ 140737488355328 := by rw [Lib.byteCells_length, sgs_len]; omega
      have HT := Lib.hid (sgs_succ x h k)
      have HR := Lib.hid (rune_sgn (x.testBit k) (h.testBit k))
      have HS := Lib.hid (sgn_is (x.testBit k) (h.testBit k))
      have hbit : ∀ y : Nat, (inr (k : Int) 0 9 && y.testBit (k : Int).toNat) = y.testBit k := fun y => by rw [show inr (k : Int) 0 9 = true from inr_t (by omega) (by omega), Int.toNat_natCast, Bool.true_and]
      have HB1 := Lib.hid (hbit x)
      have HB2 := Lib.hid (hbit h)
      clear hbit
      generalize sgs x h k = acc at *
      obtain ⟨q1, hq1⟩ : ∃ q, q = x.testBit k := ⟨_, rfl⟩
      obtain ⟨q2, hq2⟩ : ∃ q, q = h.testBit k := ⟨_, rfl⟩
      rw [← hq1, ← hq2] at HT HR HS
      rw [← hq1] at HB1
      rw [← hq2] at HB2
      clear hq1 hq2
      have i0 : (0 : Int) ≤ (k : Int) := by omega
      go_wp2_with fail
      refine (has_any hx).mono ?_
      rintro e w5 ⟨rfl, rfl⟩
      rw [HB1.out]
      go_wp2_with fail
      refine (has_any hh).mono ?_
      rintro e w5 ⟨rfl, rfl⟩
      rw [HB2.out]
      go_wp2_with fail
      refine (signOf_any).mono ?_
      rintro e w5 ⟨rfl, rfl⟩
      go_wp2_with fail
      refine (writeRune_any b b _ (sgn q1 q2 : Nat) (by have := HS.out; omega) (by have := HS.out; omega) _ isk hl4 hsk).mono ?_
      rintro e w5 ⟨rfl, h1, b1, k1⟩
      go_wp2_with fail
      go_roundw
      case rel =>
        refine ⟨k + 1, by omega, by go_num, ?_, hbk.trans b1, Nat.le_trans hsk b1.size⟩
        rw [HT.out, Lib.byteCells_append, ← HR.out]
        exact Or.inr h1
      case measure => simp [intOf]; omega
    · have e : k = n := by omega
      subst e
      go_wp2_with fail
      refine (builderString_any b b _ _ isk hsk).mono ?_
      rintro e w5 ⟨rfl, _, b1, _⟩
      go_wp2_with fail
      go_ret
      exact ⟨by rw [HX.out, HH.out]; rfl, hb5.trans ((hbk.trans b1).mono hwb)⟩
end Go.Proofs.Ytpopcjamildhkaa
