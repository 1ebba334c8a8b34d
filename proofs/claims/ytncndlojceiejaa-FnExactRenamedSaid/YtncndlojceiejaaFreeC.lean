/- Contracts of the code's sets of bits: bitsOf, hitBy, all, defendedBy, HitBy. Conditions: rows below 2^16; the slices have at most 2^40 elements. -/
import Derived.Test.YtncndlojceiejaaFreeB
import Derived.Test.YtncndlojceiejaaRowsOf
import Derived.Deep.RegionHeld3
namespace Go.Proofs.Ytncndlojceiejaa
open Go.ChangeShapes Go.WideShapes Go.ChangeAt Go.RowKit
set_option maxRecDepth 100000
theorem shl_bit {k : Nat} (h : k < 10) : IntKind.u16.wrap (2 ^ k) = ((2 ^ k : Nat) : Int) := by
  rcases lt10 h with rfl | rfl | rfl | rfl | rfl | rfl | rfl | rfl | rfl | rfl <;> rfl
set_option maxHeartbeats 2000000 in
theorem bitsOf_any {w : World} {B : Nat} {A : Option Addr} {n c : Nat} {S : List Int} (hl : Hid (S.length = n)) (hn : n ≤ 1099511627776) (hr : Rd w B A (ivs S)) :
    Calls Try.prog 54 #[.slice A n c] w (fun e w' => e = .returned (.int .u16 (bS S : Nat)) ∧ w = w') := by
  go_enter Try.func54, Try.ntmps54
  go_wp2_with fail
  go_loopw [3, 8] (fun b i wr => ∃ k : Nat, k ≤ n ∧ i = .int .i64 k ∧ b = .int .u16 (bS (S.take k) : Nat) ∧ wr = w) (fun _ i _ => n - (intOf i).toNat)
  case atStart => exact ⟨0, Nat.zero_le _, rfl, rfl, rfl⟩
  case round =>
    obtain ⟨k, hk, rfl, rfl, rfl⟩ := hrel
    have hx : bS (S.take k) < 65536 := Nat.lt_trans (bS_lt _) (by decide)
    by_cases hlt : k < n
    · have hkz : k < S.length := by rw [hl.out]; exact hlt
      obtain ⟨ad, rfl, hab, hc⟩ := ivs_at hr hkz
      have HT := Lib.hid (bS_take hkz)
      obtain ⟨z, hz⟩ : ∃ z, z = S[k] := ⟨_, rfl⟩
      obtain ⟨x, hxx⟩ : ∃ x, x = bS (S.take k) := ⟨_, rfl⟩
      rw [← hz] at hc HT
      rw [← hxx] at hx HT ⊢
      have i0 : (0 : Int) ≤ (k : Int) := by omega
      clear hz hxx
      by_cases hi : inr z 0 9 = true
      · have hz' : 0 ≤ z ∧ z ≤ 9 := by simpa [inr] using hi
        obtain ⟨h0, h1⟩ := hz'
        obtain ⟨j, rfl⟩ := Int.eq_ofNat_of_zero_le h0
        have HI := Lib.hid hi
        have HO := Lib.hid (or_bit (b := j) hx (by omega))
        have HE := Lib.hid (HT.out.trans (if_pos hi))
        clear hi
        go_wp2_with (go_at_call 36; refine (isClaim_any (by omega) (by omega)).mono ?_; rintro e w1 ⟨he, rfl⟩; rw [show (10 : Int) - 1 = 9 from rfl, HI.out] at he; subst he)
        rw [HO.out]
        go_roundw
        case rel => exact ⟨k + 1, by omega, by go_num, by rw [HE.out, Int.toNat_natCast], trivial⟩
        case measure => simp [intOf]; omega
      · have hi' : inr z 0 9 = false := by simpa using hi
        have HI := Lib.hid hi'
        have HE := Lib.hid (HT.out.trans (if_neg hi))
        clear hi hi'
        go_wp2_with (go_at_call 36; refine (isClaim_any (by omega) (by omega)).mono ?_; rintro e w1 ⟨he, rfl⟩; rw [show (10 : Int) - 1 = 9 from rfl, HI.out] at he; subst he)
        go_roundw
        case rel => exact ⟨k + 1, by omega, by go_num, by rw [HE.out], trivial⟩
        case measure => simp [intOf]; omega
    · have e : k = n := by omega
      subst e
      rw [List.take_of_length_le (by rw [hl.out]; exact Nat.le_refl _)]
      go_wp2
      go_ret
      exact ⟨rfl, rfl⟩
theorem all_any {w : World} {n : Int} {f : Nat → Nat} (h0 : 0 ≤ n) (h1 : n ≤ 10) :
    Calls Try.prog 60 #[.agg (arC n f)] w (fun e w' => e = .returned (.int .u16 (alB n : Nat)) ∧ Below w.heap.size w w') := by
  have hb1 : Below w.heap.size w (w.alloc (Obj.cells (arC n f) 60)) := (Below.refl _ _).alloc (Nat.le_refl _) _
  have bx := Bx.made w 60 (arC n f)
  have c0 := bx.at_ (k := 0) (v := .int .i64 n) rfl
  obtain ⟨W1, hW⟩ : ∃ u : World, u = w.alloc (Obj.cells (arC n f) 60) := ⟨_, rfl⟩
  rw [← hW] at hb1 c0
  have hW' := hW.symm
  obtain ⟨k, rfl⟩ := Int.eq_ofNat_of_zero_le h0
  have hk : k < 11 := by omega
  have HE : IntKind.u16.wrap (IntKind.u16.wrap (2 ^ k) - 1) = ((alB (k : Int) : Nat) : Int) := by
    have : k = 0 ∨ k = 1 ∨ k = 2 ∨ k = 3 ∨ k = 4 ∨ k = 5 ∨ k = 6 ∨ k = 7 ∨ k = 8 ∨ k = 9 ∨ k = 10 := by omega
    rcases this with rfl | rfl | rfl | rfl | rfl | rfl | rfl | rfl | rfl | rfl | rfl <;> rfl
  have HE' := Lib.hid HE
  clear HE hW bx
  go_enter Try.func60, Try.ntmps60
  go_wp2_with fail
  go_ret
  exact ⟨by rw [HE'.out]; rfl, hb1⟩
/-- The rows as an array. -/
def arV (f : Nat → Nat) : Array Value := #[.int .u16 (f 0 : Nat), .int .u16 (f 1 : Nat), .int .u16 (f 2 : Nat), .int .u16 (f 3 : Nat), .int .u16 (f 4 : Nat), .int .u16 (f 5 : Nat), .int .u16 (f 6 : Nat), .int .u16 (f 7 : Nat), .int .u16 (f 8 : Nat), .int .u16 (f 9 : Nat)]
theorem arV_at (f : Nat → Nat) {a : Nat} (ha : a < 10) : (arV f)[a]? = some (.int .u16 (f a : Nat)) := by
  rcases lt10 ha with rfl | rfl | rfl | rfl | rfl | rfl | rfl | rfl | rfl | rfl <;> rfl
theorem CB_infoF : (Try.prog.info? 57).map (fun i => (i.zero, i.size, i.bytes)) = some (some (.int .u16 0), 1, 2) := by kernel_rfl
theorem idxAR {cs : Array Value} {k : Nat} {v : Value} (w : World) (hk : k < 10) (hv : cs[k]? = some v) : (Instr.index 58 (.agg cs) (.int .i64 k)).run Try.prog w = .ok v w := by
  obtain ⟨i2, hi2, _, hz2, _⟩ := info_parts CB_infoF
  have h0 : (0 : Int) ≤ (k : Int) ∧ (k : Int) < 10 := by omega
  simp [Instr.index, run_underlying Try.underlying58, run_underlying Try.underlying57, asIntOf, h0, hk, part, isAgg, Sem.run_bind, sizeOf, typeInfo, hi2, hz2, hv]
set_option maxHeartbeats 2000000 in
theorem hitBits_any {w : World} {n : Int} {f : Nat → Nat} {x : Nat} (hf : ∀ a, f a < 65536) (hx : x < 65536) :
    Calls Try.prog 53 #[.agg (arC n f), .int .u16 x] w (fun e w' => e = .returned (.int .u16 (hB f x 10 : Nat)) ∧ Below w.heap.size w w') := by
  have hb1 : Below w.heap.size w (w.alloc (Obj.cells (arC n f) 60)) := (Below.refl _ _).alloc (Nat.le_refl _) _
  have bx := Bx.made w 60 (arC n f)
  obtain ⟨c0, c1, c2, c3, c4, c5, c6, c7, c8, c9, c10⟩ := bx.eleven
  obtain ⟨W1, hW⟩ : ∃ u : World, u = w.alloc (Obj.cells (arC n f) 60) := ⟨_, rfl⟩
  rw [← hW] at hb1 c0 c1 c2 c3 c4 c5 c6 c7 c8 c9 c10
  have hW' := hW.symm
  clear hW bx
  go_enter Try.func53, Try.ntmps53
  go_wp2_with fail
  go_loopw [5, 10] (fun b i wr => ∃ k : Nat, k ≤ 10 ∧ i = .int .i64 k ∧ b = .int .u16 (hB f x k : Nat) ∧ wr = W1) (fun _ i _ => 10 - (intOf i).toNat)
  case atStart => exact ⟨0, Nat.zero_le _, rfl, rfl, rfl⟩
  case round =>
    obtain ⟨k, hk, rfl, rfl, rfl⟩ := hrel
    have hxk := hB_lt hf x k
    by_cases hlt : k < 10
    · have hv := arV_at f hlt
      have hfk := hf k
      have i0 : (0 : Int) ≤ (k : Int) := by omega
      have i1 : (k : Int) < 10 := by omega
      have e1 : inr (k : Int) 0 9 = true := inr_t (by omega) (by omega)
      have hidx := idxAR wr hlt hv
      unfold arV at hidx
      clear hv
      by_cases hb : x.testBit k = true
      · have HB := Lib.hid (show (inr (k : Int) 0 9 && x.testBit (k : Int).toNat) = true by rw [e1, Int.toNat_natCast, hb]; rfl)
        have HT := Lib.hid (hB_yes (f := f) hb)
        obtain ⟨y, hy⟩ : ∃ y, y = hB f x k := ⟨_, rfl⟩
        rw [← hy] at hxk HT ⊢
        have HO := Lib.hid (u16_or_nat y (f k) hxk hfk)
        clear hy hb e1
        go_wp2_with (go_at_call 47; refine (has_any hx).mono ?_; rintro e w1 ⟨he, rfl⟩; rw [HB.out] at he; subst he)
        rw [HO.out]
        go_roundw
        case rel => exact ⟨k + 1, by omega, by go_num, by rw [HT.out], trivial⟩
        case measure => simp [intOf]; omega
      · have hb' : x.testBit k = false := by simpa using hb
        have HB := Lib.hid (show (inr (k : Int) 0 9 && x.testBit (k : Int).toNat) = false by rw [e1, Int.toNat_natCast, hb']; rfl)
        have HT := Lib.hid (hB_no (f := f) hb')
        obtain ⟨y, hy⟩ : ∃ y, y = hB f x k := ⟨_, rfl⟩
        rw [← hy] at hxk HT ⊢
        clear hy hb hb' e1
        go_wp2_with (go_at_call 47; refine (has_any hx).mono ?_; rintro e w1 ⟨he, rfl⟩; rw [HB.out] at he; subst he)
        go_roundw
        case rel => exact ⟨k + 1, by omega, by go_num, by rw [HT.out], trivial⟩
        case measure => simp [intOf]; omega
    · have e : k = 10 := by omega
      subst e
      go_wp2
      go_ret
      exact ⟨rfl, hb1⟩
theorem u16_anB {a b : Nat} (ha : a < 65536) (hb : b < 65536) : bits .andNot .u16 (a : Int) (b : Int) = ((anB a b : Nat) : Int) := u16_andNot_nat a b ha hb
theorem Bx.eleven_new {w w' : World} {g : Nat} {t : TypeId} {n : Int} {f : Nat → Nat} (h : Bx w g t (arC n f)) (hb : Below w.heap.size w w') :
    Below w.heap.size w w' ∧ w'.cell? ⟨g, 0, none⟩ = some (.int .i64 n) ∧ w'.cell? ⟨g, 1, none⟩ = some (.int .u16 (f 0 : Nat)) ∧ w'.cell? ⟨g, 2, none⟩ = some (.int .u16 (f 1 : Nat)) ∧ w'.cell? ⟨g, 3, none⟩ = some (.int .u16 (f 2 : Nat)) ∧ w'.cell? ⟨g, 4, none⟩ = some (.int .u16 (f 3 : Nat)) ∧ w'.cell? ⟨g, 5, none⟩ = some (.int .u16 (f 4 : Nat)) ∧ w'.cell? ⟨g, 6, none⟩ = some (.int .u16 (f 5 : Nat)) ∧ w'.cell? ⟨g, 7, none⟩ = some (.int .u16 (f 6 : Nat)) ∧ w'.cell? ⟨g, 8, none⟩ = some (.int .u16 (f 7 : Nat)) ∧ w'.cell? ⟨g, 9, none⟩ = some (.int .u16 (f 8 : Nat)) ∧ w'.cell? ⟨g, 10, none⟩ = some (.int .u16 (f 9 : Nat)) :=
  ⟨hb, (h.new hb).eleven⟩
set_option maxHeartbeats 4000000 in
theorem impHitBits_any {w : World} {A A' : Option Addr} {n c n' c' : Nat} {N : Int} {X : List (List Int)} {S : List Int} (hl : Hid (X.length = n)) (hn : n ≤ 1099511627776) (hr : RdSS w w.heap.size A X) (hl' : Hid (S.length = n')) (hn' : n' ≤ 1099511627776) (hr' : Rd w w.heap.size A' (ivs S)) :
    Calls Try.prog 22 #[.agg #[.int .i64 N, .slice A n c], .slice A' n' c'] w (Fresh 3 (ivs (hit N X S)) w) := by
  have hb1 : Below w.heap.size w (w.alloc (Obj.cells #[Value.int IntKind.i64 N, Value.slice A n c] 26)) := (Below.refl _ _).alloc (Nat.le_refl _) _
  have HR := Lib.hid hr
  clear hr
  go_enter Try.func22, Try.ntmps22
  go_wp2_with fail
  obtain ⟨W1, hW⟩ : ∃ u : World, u = w.alloc (Obj.cells #[Value.int IntKind.i64 N, Value.slice A n c] 26) := ⟨_, rfl⟩
  rw [← hW] at hb1 ⊢
  clear hW
  refine (rowsOf_any hl hn ((HR.out.below hb1).more hb1.size)).mono ?_
  rintro e w2 ⟨rfl, hb2⟩
  have hb3 := hb1.trans (hb2.mono hb1.size)
  have HQ := Lib.hid (hitB_code N X S)
  have hfl := rf_lt N X
  generalize rf N X = f at hfl HQ ⊢
  generalize rn N X = m
  go_wp2_with fail
  refine (bitsOf_any hl' hn' (hr'.below hb3)).mono ?_
  rintro e w3 ⟨rfl, rfl⟩
  go_wp2_with fail
  refine (hitBits_any (n := m) hfl (Nat.lt_trans (bS_lt S) (by decide))).mono ?_
  rintro e w3 ⟨rfl, hb4⟩
  have hb5 := hb3.trans (hb4.mono hb3.size)
  have hx := hB_lt hfl (bS S) 10
  go_wp2_with fail
  refine (list_any hx).mono ?_
  rintro e w4 ⟨v, rfl, hrow, hb6⟩
  go_wp2_with fail
  go_ret
  exact ⟨v, rfl, by rw [← HQ.out]; exact hrow.wide hb5.size (Nat.le_refl _), hb5.trans (hb6.mono hb5.size)⟩
end Go.Proofs.Ytncndlojceiejaa
