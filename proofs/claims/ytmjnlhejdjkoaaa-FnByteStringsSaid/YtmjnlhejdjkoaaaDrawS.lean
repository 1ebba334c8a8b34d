/- Contracts of the draws that give slices of bytes: which bytes is left open, but each lies in 0 to 255 and the row is new. Condition: the cursor lies in a block of its own (Cur). -/
import Derived.Test.YtmjnlhejdjkoaaaDrawNum
import Derived.Test.YtmjnlhejdjkoaaaByteStr
import Derived.Test.YtmjnlhejdjkoaaaVarApp
namespace Go.Proofs.Ytmjnlhejdjkoaaa
open Go.ChangeShapes Go.WideShapes Go.ChangeAt Go.RowKit
theorem code8_of_rd {W : World} {A : Option Addr} {zs : List Int} (hr : Rd W W.heap.size A (bvs zs)) (hb : ∀ x ∈ zs, 0 ≤ x ∧ x ≤ 255) (hn : zs.length ≤ 9223372036854775807) : Code8 W A zs.length :=
  ⟨hn, fun hp => by
    obtain ⟨ad, e, h1, _⟩ := bvs_at hr hp
    refine ⟨ad, e, h1, fun j hj => ?_⟩
    obtain ⟨ad', e', _, hc⟩ := bvs_at hr hj
    have : ad' = ad := by rw [e] at e'; injection e' with e'; exact e'.symm
    subst this
    have hx := hb zs[j] (List.getElem_mem _)
    exact ⟨_, hx.1, hx.2, hc⟩⟩
theorem Out.of_only {w w' : World} {B : Nat} (h : w.grownBy w' (some B)) : Out B (B + 1) w w' := ⟨h.os, h.tape, h.output, h.size, fun k hk hne => h.block k hk (fun e => by injection e; omega)⟩
theorem only_new {a w : World} (h : Below a.heap.size a w) (r : Option Nat) : a.grownBy w r := ⟨h.os, h.tape, h.output, h.size, fun i hi _ => h.block i hi⟩
theorem only_then {a b c : World} {r : Option Nat} (h : a.grownBy b r) (k : Below a.heap.size b c) : a.grownBy c r :=
  ⟨k.os.trans h.os, k.tape.trans h.tape, k.output.trans h.output, Nat.le_trans h.size k.size, fun i hi hne => (k.block i hi).trans (h.block i hi hne)⟩
theorem Cur.below' {w w' : World} {B L : Nat} {A : Option Addr} {n c : Nat} (h : Cur w B A n c) (hb : Below L w w') (hL : B < L) : Cur w' B A n c := h.keep hb.size (fun k hk => hb.block k (by omega))
theorem cur_below {w w1 w2 : World} {B : Nat} (hb : Below w.heap.size w w1) (hg : w1.grownBy w2 (some B)) (hB : w.heap.size ≤ B) : Below w.heap.size w w2 :=
  hb.grown hg hb.size (fun k e => by cases e; exact hB)
/-- m bytes were drawn into a new row. -/
def DrewRow (m : Nat) (B : Nat) (A : Option Addr) (n c : Nat) (w : World) (e : Ending) (w' : World) : Prop :=
  ∃ (ys : List Int) (v : Value), ys.length = m ∧ (∀ x ∈ ys, 0 ≤ x ∧ x ≤ 255) ∧ e = .returned v ∧ Row w' w.heap.size w'.heap.size 5 v (bvs ys) ∧ w.grownBy w' (some B) ∧ Cur w' B A n c
theorem bytes_snoc {ys : List Int} {x : Int} (h : ∀ y ∈ ys, 0 ≤ y ∧ y ≤ 255) (hx : 0 ≤ x ∧ x ≤ 255) : ∀ y ∈ ys ++ [x], 0 ≤ y ∧ y ≤ 255 := by
  intro y hy
  rw [List.mem_append, List.mem_singleton] at hy
  rcases hy with hy | rfl
  · exact h y hy
  · exact hx
set_option maxHeartbeats 1600000 in
theorem bytes_any {w : World} {B : Nat} {A : Option Addr} {n c m : Nat} (h : Cur w B A n c) (hm : m ≤ 1000000) :
    Calls Try.prog 42 #[.pointer (some ⟨B, 0, none⟩), .int .i64 m] w (DrewRow m B A n c w) := by
  obtain ⟨i0, hi, hz0, hz1, hz2⟩ := info_parts ByteS_info
  have hrow0 := Row.made (w := w) w.heap.size #[] 0 5 (Nat.le_refl _) rfl (Nat.zero_le _)
  have hb0 : Below w.heap.size w (w.alloc (Obj.cells #[] 5)) := (Below.refl _ _).alloc (Nat.le_refl _) _
  have hB := h.lt
  have hc0 := h.below hb0
  go_enter Try.func42, Try.ntmps42
  go_wp2
  go_loopw [5, 6] (fun b i wr => ∃ (k : Nat) (ys : List Int), k ≤ m ∧ i = .int .i64 k ∧ Hid (ys.length = k) ∧ Hid (∀ x ∈ ys, 0 ≤ x ∧ x ≤ 255) ∧ Row wr w.heap.size wr.heap.size 5 b (bvs ys) ∧ w.grownBy wr (some B) ∧ Cur wr B A n c) (fun _ i _ => m - (intOf i).toNat)
  case atStart => exact ⟨0, [], Nat.zero_le _, rfl, rfl, Lib.hid (by simp), hrow0.wide (Nat.le_refl _) (by simp), only_new hb0 _, hc0⟩
  case round =>
    obtain ⟨k, ys, hk, rfl, hyl, hyb, hrow, hg, hcur⟩ := hrel
    have hsz := hg.size
    clear hrow0 hb0 hc0 h
    by_cases hlt : k < m
    · have L : (bvs ys).length + 1 ≤ maxLen ∧ ((bvs ys).length + 1) * 1 ≤ 140737488355328 := by rw [bvs_len, hyl.out]; unfold maxLen; omega
      have L1 := Lib.hid L
      clear L
      go_wp2_with (first
        | (go_at_call 55; refine (byte_any hcur).mono ?_; rintro e w1 ⟨x, ⟨hx0, hx1⟩, rfl, hg1, hcur1⟩; have hs1 := hg1.size; have hbl : Below w1.heap.size w1 (w1.alloc (Obj.cells #[Value.int .u8 x] 5)) := (Below.refl _ _).alloc (Nat.le_refl _) _; have hrow2 := (hrow.out (Out.of_only hg1) (by omega)).new hbl; have hmade := Rd.made w1 #[Value.int .u8 x] 5)
        | (at_builtin; refine wpList_app rfl (.tmp 13) (.tmp 17) 22 rfl 5 i0 _ 1 Try.underlying22 hi hz0 hz1 hz2 rfl rfl rfl hrow2 rfl hmade (by simp [Value.oneCell']) L1.out.1 L1.out.2 (by simp; omega) ?_; intro v1 w2 hrow1 ho2))
      have hs2 := ho2.size
      have hb2 : Below w.heap.size w1 w2 := (hbl.mono (by omega)).trans (ho2.below (Nat.le_refl _) (by simp; omega))
      go_roundw
      case rel => exact ⟨k + 1, ys ++ [x], by omega, by go_num, Lib.hid (by simp [hyl.out]), Lib.hid (bytes_snoc hyb.out ⟨hx0, hx1⟩), by rw [← bvs_snoc]; exact hrow1, only_then (only_trans hg hg1) hb2, hcur1.below' hb2 hB⟩
      case measure => simp [intOf]; omega
    · have e : k = m := by omega
      subst e
      go_wp2
      go_ret
      exact ⟨ys, _, hyl.out, hyb.out, rfl, hrow, hg, hcur⟩
/-- A row of bytes and an integer were drawn; nothing old has turned. -/
def DrewBI (P : Int → Prop) (m : Nat) (w : World) (e : Ending) (w' : World) : Prop :=
  ∃ (ys : List Int) (x : Int) (v : Value), ys.length ≤ m ∧ (∀ x ∈ ys, 0 ≤ x ∧ x ≤ 255) ∧ P x ∧ e = .returned (.tuple #[v, .int .i64 x]) ∧ Row w' w.heap.size w'.heap.size 5 v (bvs ys) ∧ Below w.heap.size w w'
theorem drawAU {w : World} {A : Option Addr} {n c : Nat} (h : Code8 w A n) :
    Calls Try.prog 13 #[.slice A n c] w (DrewBI In64 2 w) := by
  go_enter Try.func13, Try.ntmps13
  go_wp2_with (first
    | (go_at_call 41; refine (new_any h).mono ?_; rintro e w1 ⟨rfl, hb1, cur1⟩)
    | (go_at_call 43; refine (below_any cur1 3 (by omega)).mono ?_; rintro e w2 ⟨x, ⟨hx0, hx1⟩, rfl, hg2, cur2⟩; obtain ⟨m, rfl⟩ := Int.eq_ofNat_of_zero_le hx0)
    | (go_at_call 42; refine (bytes_any (m := m) cur2 (by omega)).mono ?_; rintro e w3 ⟨ys, v, hyl, hyb, rfl, hrow3, hg3, cur3⟩; have HL := Lib.hid hyl; have HB := Lib.hid hyb; clear hyl hyb)
    | (go_at_call 44; refine (one_any cur3).mono ?_; rintro e w4 ⟨y, hy, rfl, hg4, cur4⟩))
  go_ret2
  have hb2 := cur_below hb1 hg2 (Nat.le_refl _)
  have hb3 := cur_below hb2 hg3 (Nat.le_refl _)
  have hb4 := cur_below hb3 hg4 (Nat.le_refl _)
  have hlt := cur2.lt
  exact ⟨ys, y, v, by rw [HL.out]; omega, HB.out, hy, rfl, (hrow3.out (Out.of_only hg4) (by omega)).wide hb2.size hg4.size, hb4⟩
/-- Two rows of bytes were drawn; nothing old has turned. -/
def DrewBB (m m' : Nat) (w : World) (e : Ending) (w' : World) : Prop :=
  ∃ (ys zs : List Int) (v v' : Value) (M : Nat), ys.length ≤ m ∧ zs.length ≤ m' ∧ (∀ x ∈ ys, 0 ≤ x ∧ x ≤ 255) ∧ (∀ x ∈ zs, 0 ≤ x ∧ x ≤ 255) ∧ e = .returned (.tuple #[v, v']) ∧ w.heap.size ≤ M ∧ M ≤ w'.heap.size ∧
    Row w' w.heap.size M 5 v (bvs ys) ∧ Row w' M w'.heap.size 5 v' (bvs zs) ∧ Below w.heap.size w w'
theorem drawAB {w : World} {A : Option Addr} {n c : Nat} (h : Code8 w A n) :
    Calls Try.prog 19 #[.slice A n c] w (DrewBB 2 5 w) := by
  go_enter Try.func19, Try.ntmps19
  go_wp2_with (first
    | (go_at_call 41; refine (new_any h).mono ?_; rintro e w1 ⟨rfl, hb1, cur1⟩)
    | (go_at_call 43; ((with_reducible refine (below_any cur1 3 (by omega)).mono ?_); rintro e w2 ⟨x, ⟨hx0, hx1⟩, rfl, hg2, cur2⟩; obtain ⟨m, rfl⟩ := Int.eq_ofNat_of_zero_le hx0))
    | (go_at_call 42; ((with_reducible refine (bytes_any (m := m) cur2 (by omega)).mono ?_); rintro e w3 ⟨ys, v, hyl, hyb, rfl, hrow3, hg3, cur3⟩; have HL := Lib.hid hyl; have HB := Lib.hid hyb; clear hyl hyb))
    | (go_at_call 43; ((with_reducible refine (below_any cur3 6 (by omega)).mono ?_); rintro e w4 ⟨x, ⟨hy0, hy1⟩, rfl, hg4, cur4⟩; obtain ⟨m', rfl⟩ := Int.eq_ofNat_of_zero_le hy0))
    | (go_at_call 42; ((with_reducible refine (bytes_any (m := m') cur4 (by omega)).mono ?_); rintro e w5 ⟨zs, v', hzl, hzb, rfl, hrow5, hg5, cur5⟩; have HL' := Lib.hid hzl; have HB' := Lib.hid hzb; clear hzl hzb)))
  go_ret2
  have hb2 := cur_below hb1 hg2 (Nat.le_refl _)
  have hb3 := cur_below hb2 hg3 (Nat.le_refl _)
  have hb4 := cur_below hb3 hg4 (Nat.le_refl _)
  have hb5 := cur_below hb4 hg5 (Nat.le_refl _)
  have hlt := cur2.lt
  have l4 := hg4.size
  have l5 := hg5.size
  have l2 := hb2.size
  exact ⟨ys, zs, v, v', w4.heap.size, by rw [HL.out]; omega, by rw [HL'.out]; omega, HB.out, HB'.out, rfl, hb4.size, l5,
    ((hrow3.out (Out.of_only hg4) (by omega)).out (Out.of_only hg5) (by omega)).wide l2 l4, hrow5, hb5⟩
set_option maxHeartbeats 1600000 in
theorem drawRU {w : World} {A : Option Addr} {n c : Nat} (h : Code8 w A n) :
    Calls Try.prog 17 #[.slice A n c] w (DrewBI In64 20 w) := by
  obtain ⟨i0, hi, hz0, hz1, hz2⟩ := info_parts ByteS_info
  go_enter Try.func17, Try.ntmps17
  go_wp2_with fail
  refine (new_any h).mono ?_
  rintro e w1 ⟨rfl, hb1, cur1⟩
  go_wp2_with fail
  refine (once_any cur1 2 (by omega)).mono ?_
  rintro e w2 ⟨b, rfl, hg2, cur2⟩
  have hb2 := cur_below hb1 hg2 (Nat.le_refl _)
  have s2 := hb2.size
  have hlt := cur2.lt
  clear hg2 cur1 hb1 h
  cases b with
  | true =>
    go_wp2_with (first
      | (go_at_call 42; refine (bytes_any (m := 1) cur2 (by omega)).mono ?_; rintro e w3 ⟨ys, v, hyl, hyb, rfl, hrow3, hg3, cur3⟩; have HL := Lib.hid hyl; have HB := Lib.hid hyb; clear hyl hyb)
      | (go_at_call 50; refine (num_any cur3).mono ?_; rintro e w4 ⟨y, ⟨hy0, hy1⟩, rfl, hg4, cur4⟩; have s3 := hg3.size; have s4 := hg4.size; have hrow4 := hrow3.out (Out.of_only hg4) (by omega); obtain ⟨A2, c2, rfl, hrd4, _, _⟩ := hrow4.rd (bvs_len ys); have hrd := hrd4.more s4)
      | (go_at_call 26; refine (specAppendUvarint_any (Lib.hid rfl) (by rw [HL.out]; omega) hrd).mono ?_; rintro e w5 ⟨v5, rfl, hrow5, hb5⟩))
    go_ret2
    have hb3 := cur_below hb2 hg3 (Nat.le_refl _)
    have hb4 := cur_below hb3 hg4 (Nat.le_refl _)
    have hu := uvr_len y
    refine ⟨ys ++ uvr y, 1, v5, by rw [List.length_append, HL.out]; omega, fun z hz => ?_, by unfold In64; omega, rfl, hrow5.wide hb4.size (Nat.le_refl _), hb4.trans (hb5.mono hb4.size)⟩
    rw [List.mem_append] at hz
    rcases hz with hz | hz
    · exact HB.out z hz
    · exact uvr_byte y z hz
  | false =>
    have hrow0 := Row.made (w := w2) w2.heap.size #[] 0 5 (Nat.le_refl _) rfl (Nat.zero_le _)
    have hb0 : Below w2.heap.size w2 (w2.alloc (Obj.cells #[] 5)) := (Below.refl _ _).alloc (Nat.le_refl _) _
    have hc0 := cur2.below hb0
    go_wp2_with (go_at_call 43; refine (below_any hc0 8 (by omega)).mono ?_; rintro e w3 ⟨x, ⟨hx0, hx1⟩, rfl, hg3, cur3⟩; obtain ⟨m, rfl⟩ := Int.eq_ofNat_of_zero_le hx0)
    have s3 := hg3.size
    have hrow3 := (hrow0.out (Out.of_only hg3) (by omega)).wide (Nat.le_refl _) (show w2.heap.size + 1 ≤ w3.heap.size by simpa using s3)
    have hg23 : w2.grownBy w3 (some w.heap.size) := only_trans (only_new hb0 _) hg3
    have hm : m ≤ 7 := by omega
    clear hg3 hrow0 hb0 hc0 hx1
    go_loopw [5, 6] (fun b i wr => ∃ (k : Nat) (ys : List Int), k ≤ m ∧ i = .int .i64 k ∧ Hid (ys.length + k = m) ∧ Hid (∀ x ∈ ys, 0 ≤ x ∧ x ≤ 255) ∧ Row wr w2.heap.size wr.heap.size 5 b (bvs ys) ∧ w2.grownBy wr (some w.heap.size) ∧ Cur wr w.heap.size A n c) (fun _ i _ => (intOf i).toNat)
    case atStart => exact ⟨m, [], Nat.le_refl _, rfl, Lib.hid (by simp), Lib.hid (by simp), hrow3, hg23, cur3⟩
    case round =>
      obtain ⟨k, ys, hk, rfl, hyl, hyb, hrow, hg, hcur⟩ := hrel
      have hsz := hg.size
      clear hrow3 hg23 cur3
      by_cases hpos : 0 < k
      · have L : (bvs ys).length + 1 ≤ maxLen ∧ ((bvs ys).length + 1) * 1 ≤ 140737488355328 := by have := hyl.out; rw [bvs_len]; unfold maxLen; omega
        have L1 := Lib.hid L
        clear L
        have ir := introw_alloc (fun z => 0 ≤ z ∧ z ≤ 255) wr [128, 255, 0, 1, 127] 3 (by intro z hz; simp at hz; omega)
        have hcl := hcur.lt
        have hca := hcur.alloc (Obj.cells ([128, 255, 0, 1, 127].map (Value.int .i64)).toArray 3)
        have hba : Below wr.heap.size wr (wr.alloc (Obj.cells ([128, 255, 0, 1, 127].map (Value.int .i64)).toArray 3)) := (Below.refl _ _).alloc (Nat.le_refl _) _
        have hrowa := hrow.new hba
        go_wp2_with (first
          | (go_at_call 51; refine (int_any _ hca wr.heap.size 5 (by omega) (by omega) (by omega) ir).mono ?_; rintro e w4 ⟨x, ⟨hx0, hx1⟩, rfl, hg4, cur4⟩; have hs4 := hg4.size; have hs5 : wr.heap.size + 1 ≤ w4.heap.size := (by simpa using hs4); have hbl : Below w4.heap.size w4 (w4.alloc (Obj.cells #[Value.int .u8 x] 5)) := (Below.refl _ _).alloc (Nat.le_refl _) _; have hrow2 := (hrowa.out (Out.of_only hg4) (by omega)).new hbl; have hmade := Rd.made w4 #[Value.int .u8 x] 5)
          | (at_builtin; refine wpList_app rfl (.tmp 23) (.tmp 28) 22 rfl 5 i0 _ 1 Try.underlying22 hi hz0 hz1 hz2 rfl rfl rfl hrow2 rfl hmade (by simp [Value.oneCell']) L1.out.1 L1.out.2 (by simp; omega) ?_; intro v1 w5 hrow1 ho2))
        have hs2 := ho2.size
        have hb5 : Below w2.heap.size w4 w5 := (hbl.mono (by omega)).trans (ho2.below (Nat.le_refl _) (by simp; omega))
        have hg14 : w2.grownBy w4 (some w.heap.size) := only_trans (only_trans hg (only_new hba _)) hg4
        go_roundw
        case rel => exact ⟨k - 1, ys ++ [x], by omega, by go_num, Lib.hid (by have := hyl.out; simp; omega), Lib.hid (bytes_snoc hyb.out ⟨hx0, hx1⟩), by rw [← bvs_snoc]; exact hrow1, only_then hg14 hb5, cur4.below' hb5 (by omega)⟩
        case measure => simp [intOf]; omega
      · obtain rfl : k = 0 := by omega
        go_wp2_with (go_at_call 43; refine (below_any hcur 4 (by omega)).mono ?_; rintro e w4 ⟨x, ⟨hx0, hx1⟩, rfl, hg4, cur4⟩)
        go_ret2
        have hb4 := cur_below (hb2.trans ((Out.of_only hg).below (Nat.le_refl _) s2)) hg4 (Nat.le_refl _)
        have hs4 := hg4.size
        exact ⟨ys, x - 1, _, by have := hyl.out; omega, hyb.out, by unfold In64; omega, rfl, (hrow.out (Out.of_only hg4) (by omega)).wide (by omega) hs4, hb4⟩
end Go.Proofs.Ytmjnlhejdjkoaaa
