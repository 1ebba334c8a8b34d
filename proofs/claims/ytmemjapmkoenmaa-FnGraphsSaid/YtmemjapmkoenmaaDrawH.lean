/- Contracts of chapter 3's draws: keys and values lie in -1 to 2^31, rows are short. Condition: the cursor lies in a block of its own (Cur). -/
import Derived.Test.YtmemjapmkoenmaaDrawS
import Derived.Test.YtmemjapmkoenmaaIntS
namespace Go.Proofs.Ytmemjapmkoenmaa
open Go.ChangeShapes Go.WideShapes Go.ChangeAt Go.RowKit
def InW (x : Int) : Prop := -1 ≤ x ∧ x ≤ 2147483648
theorem mulW {a b : Int} (a0 : 0 ≤ a) (a1 : a < 1000000) (b0 : 0 ≤ b) (b1 : b < 2000) : 0 ≤ a * b ∧ a * b ≤ 2000000000 := by
  have h1 := Int.mul_nonneg a0 b0
  have h2 : a * b ≤ 1000000 * b := Int.mul_le_mul_of_nonneg_right (by omega) b0
  omega
set_option maxHeartbeats 1600000 in
theorem word_any {w : World} {B : Nat} {A : Option Addr} {n c : Nat} (h : Cur w B A n c) :
    Calls Try.prog 61 #[.pointer (some ⟨B, 0, none⟩)] w (Drawn InW B A n c w) := by
  go_enter Try.func61, Try.ntmps61
  go_wp2_with fail
  refine (once_any h _ (by omega)).mono ?_
  rintro e w1 ⟨x, rfl, hg, hc⟩
  have hne : B ≠ w1.heap.size := by have := hc.lt; omega
  have HR := Lib.hid (introw_alloc InW w1 [-1, 2147483647, 2147483648] 3 (by simp [InW]))
  cases x
  · go_wp2_with fail
    refine (once_any hc _ (by omega)).mono ?_
    rintro e w2 ⟨x, rfl, hg2, hc2⟩
    have hne2 : B ≠ w2.heap.size := by have := hc2.lt; omega
    have HR2 := Lib.hid (introw_alloc InW w2 [0, 1, 2147483646] 3 (by simp [InW]))
    cases x
    · go_wp2_with fail
      refine (below_any hc2 1000000 (by omega)).mono ?_
      rintro e w3 ⟨a, ⟨a0, a1⟩, rfl, hg3, hc3⟩
      go_wp2_with fail
      refine (below_any hc3 2000 (by omega)).mono ?_
      rintro e w4 ⟨b, ⟨b0, b1⟩, rfl, hg4, hc4⟩
      obtain ⟨m0, m1⟩ := mulW a0 a1 b0 b1
      have HW : IntKind.i64.wrap (a * b) = a * b := IntWalk.i64_in _ (by omega)
      have HW2 : wrap64 (a * b) = a * b := IntWalk.wrap64_in _ (by omega)
      go_wp2
      go_ret
      exact ⟨_, ⟨by omega, by omega⟩, rfl, only_trans (only_trans (only_trans hg hg2) hg3) hg4, hc4⟩
    · go_wp2_with fail
      refine (int_any InW (hc2.alloc _) _ 3 (Ne.symm hne2) (by omega) (by omega) HR2.out).mono ?_
      rintro e w3 ⟨y, hy, rfl, hg3, hc3⟩
      go_wp2
      go_ret
      exact ⟨_, hy, rfl, only_trans (only_trans hg hg2) (only_ofalloc hg3), hc3⟩
  · go_wp2_with fail
    refine (int_any InW (hc.alloc _) _ 3 (Ne.symm hne) (by omega) (by omega) HR.out).mono ?_
    rintro e w2 ⟨y, hy, rfl, hg2, hc2⟩
    go_wp2
    go_ret
    exact ⟨_, hy, rfl, only_trans hg (only_ofalloc hg2), hc2⟩
/-- At most m integers, each InW, were drawn into a new row. -/
def DrewWs (m : Nat) (B : Nat) (A : Option Addr) (n c : Nat) (w : World) (e : Ending) (w' : World) : Prop :=
  ∃ (ys : List Int) (v : Value), ys.length ≤ m ∧ (∀ x ∈ ys, InW x) ∧ e = .returned v ∧ Row w' w.heap.size w'.heap.size 3 v (ivs ys) ∧ w.grownBy w' (some B) ∧ Cur w' B A n c
theorem inW_snoc {ys : List Int} {x : Int} (h : ∀ y ∈ ys, InW y) (hx : InW x) : ∀ y ∈ ys ++ [x], InW y := by
  intro y hy
  rw [List.mem_append, List.mem_singleton] at hy
  rcases hy with hy | rfl
  · exact h y hy
  · exact hx
theorem ivs_snoc_w (zs : List Int) (x : Int) : ivs zs ++ [Value.int .i64 x] = ivs (zs ++ [x]) := by simp [ivs]
set_option maxHeartbeats 1600000 in
theorem words_any {w : World} {B : Nat} {A : Option Addr} {n c : Nat} (h : Cur w B A n c) :
    Calls Try.prog 66 #[.pointer (some ⟨B, 0, none⟩)] w (DrewWs 4 B A n c w) := by
  obtain ⟨i0, hi, hz0, hz1, hz2⟩ := info_parts IntS_info
  have hrow0 := Row.made (w := w) w.heap.size #[] 0 3 (Nat.le_refl _) rfl (Nat.zero_le _)
  have hb0 : Below w.heap.size w (w.alloc (Obj.cells #[] 3)) := (Below.refl _ _).alloc (Nat.le_refl _) _
  have hB := h.lt
  have hc0 := h.below hb0
  have hg0 : w.grownBy (w.alloc (Obj.cells #[] 3)) (some B) := only_new hb0 _
  go_enter Try.func66, Try.ntmps66
  go_wp2_with fail
  refine (below_any hc0 5 (by omega)).mono ?_
  rintro e w1 ⟨x, ⟨hx0, hx1⟩, rfl, hg1, hc1⟩
  obtain ⟨m, rfl⟩ := Int.eq_ofNat_of_zero_le hx0
  have hg01 := only_trans hg0 hg1
  have hrow1 : Row w1 w.heap.size w1.heap.size 3 (.slice (some ⟨w.heap.size, 0, none⟩) 0 0) (ivs []) := (hrow0.out (Out.of_only hg1) (by omega)).wide (Nat.le_refl _) (by have := hg1.size; simpa using this)
  clear hrow0 hb0 hc0 hg0 hg1 h hx0
  go_wp2
  go_loopw [3, 4] (fun b i wr => ∃ (k : Nat) (ys : List Int), k ≤ m ∧ i = .int .i64 k ∧ Hid (ys.length + k = m) ∧ Hid (∀ x ∈ ys, InW x) ∧ Row wr w.heap.size wr.heap.size 3 b (ivs ys) ∧ w.grownBy wr (some B) ∧ Cur wr B A n c) (fun _ i _ => (intOf i).toNat)
  case atStart => exact ⟨m, [], Nat.le_refl _, rfl, Lib.hid (by simp), Lib.hid (by simp), hrow1, hg01, hc1⟩
  case round =>
    obtain ⟨k, ys, hk, rfl, hyl, hyb, hrow, hg, hcur⟩ := hrel
    have hsz := hg.size
    clear hrow1 hg01 hc1
    by_cases hlt : 0 < k
    · have L : (ivs ys).length + 1 ≤ maxLen ∧ ((ivs ys).length + 1) * 8 ≤ 140737488355328 := by have := hyl.out; rw [ivs_len]; unfold maxLen; omega
      have L1 := Lib.hid L
      clear L
      go_wp2_with (first
        | (go_at_call 61; refine (word_any hcur).mono ?_; rintro e w2 ⟨x, hx, rfl, hg1, hcur1⟩; have HXX := Lib.hid hx; clear hx; have hs1 := hg1.size; have hbl : Below w2.heap.size w2 (w2.alloc (Obj.cells #[Value.int .i64 x] 3)) := (Below.refl _ _).alloc (Nat.le_refl _) _; have hrow2 := (hrow.out (Out.of_only hg1) (by omega)).new hbl; have hmade := Rd.made w2 #[Value.int .i64 x] 3)
        | (at_builtin; refine wpList_app rfl (.tmp 12) (.tmp 15) 28 rfl 3 i0 _ 8 Try.underlying28 hi hz0 hz1 hz2 rfl rfl rfl hrow2 rfl hmade (by simp [Value.oneCell']) L1.out.1 L1.out.2 (by simp; omega) ?_; intro v1 w3 hrow3 ho2))
      have hs2 := ho2.size
      have hb2 : Below w.heap.size w2 w3 := (hbl.mono (by omega)).trans (ho2.below (Nat.le_refl _) (by simp; omega))
      go_roundw
      case rel => exact ⟨k - 1, ys ++ [x], by omega, by go_num, Lib.hid (by have := hyl.out; simp; omega), Lib.hid (inW_snoc hyb.out HXX.out), by rw [← ivs_snoc_w]; exact hrow3, only_then (only_trans hg hg1) hb2, hcur1.below' hb2 hB⟩
      case measure => simp [intOf]; omega
    · have e : k = 0 := by omega
      subst e
      go_wp2
      go_ret
      exact ⟨ys, _, by have := hyl.out; omega, hyb.out, rfl, hrow, hg, hcur⟩
/-- An integer InW and a row of bytes were drawn; nothing old has turned. -/
def DrewWB (m : Nat) (w : World) (e : Ending) (w' : World) : Prop :=
  ∃ (x : Int) (ys : List Int) (v : Value), InW x ∧ ys.length ≤ m ∧ (∀ x ∈ ys, 0 ≤ x ∧ x ≤ 255) ∧ e = .returned (.tuple #[.int .i64 x, v]) ∧ Row w' w.heap.size w'.heap.size 5 v (bvs ys) ∧ Below w.heap.size w w'
theorem drawEnc {w : World} {A : Option Addr} {n c : Nat} (h : Code8 w A n) :
    Calls Try.prog 16 #[.slice A n c] w (DrewWB 7 w) := by
  go_enter Try.func16, Try.ntmps16
  go_wp2_with (first
    | (go_at_call 60; refine (new_any h).mono ?_; rintro e w1 ⟨rfl, hb1, cur1⟩)
    | (go_at_call 61; refine (word_any cur1).mono ?_; rintro e w2 ⟨y, hy, rfl, hg2, cur2⟩; have HY := Lib.hid hy; clear hy)
    | (go_at_call 63; refine (below_any cur2 8 (by omega)).mono ?_; rintro e w3 ⟨x, ⟨hx0, hx1⟩, rfl, hg3, cur3⟩; obtain ⟨m, rfl⟩ := Int.eq_ofNat_of_zero_le hx0)
    | (go_at_call 62; refine (bytes_any (m := m) cur3 (by omega)).mono ?_; rintro e w4 ⟨ys, v, hyl, hyb, rfl, hrow4, hg4, cur4⟩; have HL := Lib.hid hyl; have HB := Lib.hid hyb; clear hyl hyb))
  go_ret2
  have hb2 := cur_below hb1 hg2 (Nat.le_refl _)
  have hb3 := cur_below hb2 hg3 (Nat.le_refl _)
  have hb4 := cur_below hb3 hg4 (Nat.le_refl _)
  exact ⟨y, ys, v, HY.out, by rw [HL.out]; omega, HB.out, rfl, hrow4.wide hb3.size (Nat.le_refl _), hb4⟩
/-- An integer and a row of integers were drawn, each InW; nothing old has turned. -/
def DrewWW (m : Nat) (w : World) (e : Ending) (w' : World) : Prop :=
  ∃ (x : Int) (ys : List Int) (v : Value), InW x ∧ ys.length ≤ m ∧ (∀ x ∈ ys, InW x) ∧ e = .returned (.tuple #[.int .i64 x, v]) ∧ Row w' w.heap.size w'.heap.size 3 v (ivs ys) ∧ Below w.heap.size w w'
theorem drawKH {w : World} {A : Option Addr} {n c : Nat} (h : Code8 w A n) :
    Calls Try.prog 20 #[.slice A n c] w (DrewWW 4 w) := by
  go_enter Try.func20, Try.ntmps20
  go_wp2_with (first
    | (go_at_call 60; refine (new_any h).mono ?_; rintro e w1 ⟨rfl, hb1, cur1⟩)
    | (go_at_call 61; refine (word_any cur1).mono ?_; rintro e w2 ⟨y, hy, rfl, hg2, cur2⟩; have HY := Lib.hid hy; clear hy)
    | (go_at_call 66; refine (words_any cur2).mono ?_; rintro e w4 ⟨ys, v, hyl, hyb, rfl, hrow4, hg4, cur4⟩; have HL := Lib.hid hyl; have HB := Lib.hid hyb; clear hyl hyb))
  go_ret2
  have hb2 := cur_below hb1 hg2 (Nat.le_refl _)
  have hb4 := cur_below hb2 hg4 (Nat.le_refl _)
  exact ⟨y, ys, v, HY.out, HL.out, HB.out, rfl, hrow4.wide hb2.size (Nat.le_refl _), hb4⟩
/-- A string of at most 100 bytes was drawn. -/
def DrewStr (B : Nat) (A : Option Addr) (n c : Nat) (w : World) (e : Ending) (w' : World) : Prop :=
  ∃ s : ByteArray, s.size ≤ 100 ∧ e = .returned (.string s) ∧ w.grownBy w' (some B) ∧ Cur w' B A n c
def StrRow (w : World) (G k : Nat) : Prop := G < w.heap.size ∧ ∀ j, j < k → ∃ s : ByteArray, s.size ≤ 100 ∧ w.cell? ⟨G, j, none⟩ = some (.string s)
theorem strrow_alloc (w : World) (zs : List ByteArray) (t : TypeId) (h : ∀ z ∈ zs, z.size ≤ 100) : StrRow (w.alloc (.cells (zs.map Value.string).toArray t)) w.heap.size zs.length := by
  refine ⟨by simp, fun j hj => ⟨zs[j], h _ (List.getElem_mem _), ?_⟩⟩
  rw [cell_of_row _ _ j _ t (0, 0) (heap_alloc_new w _)]
  simp [hj]
theorem str_any {w : World} {B : Nat} {A : Option Addr} {n c : Nat} (h : Cur w B A n c) (G k : Nat) (hG : G ≠ B) (hk : 0 < k) (hk2 : k ≤ 1000) (hr : StrRow w G k) :
    Calls Try.prog 69 #[.pointer (some ⟨B, 0, none⟩), .slice (some ⟨G, 0, none⟩) k k] w (DrewStr B A n c w) := by
  have HR := Lib.hid hr
  clear hr
  go_enter Try.func69, Try.ntmps69
  go_wp2_with fail
  refine (below_any h _ (by omega)).mono ?_
  rintro e w1 ⟨x, ⟨hx0, hx1⟩, rfl, hg, hc⟩
  obtain ⟨i, rfl⟩ : ∃ i : Nat, x = i := ⟨x.toNat, by omega⟩
  obtain ⟨z, hP, hz⟩ := HR.out.2 i (by omega)
  have hz1 : w1.cell? ⟨G, i, none⟩ = some (.string z) := hg.cell hz (by simpa using hG)
  have HG := Lib.hid hz
  clear hz
  go_wp2
  go_ret
  exact ⟨_, hP, rfl, hg, hc⟩
/-- An integer InW and a short string were drawn; nothing old has turned. -/
def DrewWS (w : World) (e : Ending) (w' : World) : Prop :=
  ∃ (x : Int) (s : ByteArray), InW x ∧ s.size ≤ 100 ∧ e = .returned (.tuple #[.int .i64 x, .string s]) ∧ Below w.heap.size w w'
theorem drawDS {w : World} {A : Option Addr} {n c : Nat} (h : Code8 w A n) :
    Calls Try.prog 25 #[.slice A n c] w (DrewWS w) := by
  go_enter Try.func25, Try.ntmps25
  go_wp2_with fail
  refine (new_any h).mono ?_
  rintro e w1 ⟨rfl, hb1, cur1⟩
  go_wp2_with fail
  refine (word_any cur1).mono ?_
  rintro e w2 ⟨y, hy, rfl, hg2, cur2⟩
  have HY := Lib.hid hy
  clear hy
  have hne2 : w.heap.size ≠ w2.heap.size := by have := cur2.lt; omega
  have HS := Lib.hid (strrow_alloc w2 ["".toUTF8, "a".toUTF8, "b".toUTF8, "ab".toUTF8, "news".toUTF8, "x".toUTF8] 9 (by decide))
  go_wp2_with fail
  refine (str_any (cur2.alloc _) _ 6 (Ne.symm hne2) (by omega) (by omega) HS.out).mono ?_
  rintro e w3 ⟨s, hs, rfl, hg3, cur3⟩
  have HZ := Lib.hid hs
  clear hs
  go_wp2
  go_ret2
  have hb2 := cur_below hb1 hg2 (Nat.le_refl _)
  have hb3 := cur_below hb2 (only_ofalloc hg3) (Nat.le_refl _)
  exact ⟨y, s, HY.out, HZ.out, rfl, hb3⟩
end Go.Proofs.Ytmemjapmkoenmaa
