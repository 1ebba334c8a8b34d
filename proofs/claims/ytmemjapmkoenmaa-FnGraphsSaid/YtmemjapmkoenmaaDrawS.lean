/- Contracts of the draws that give slices of bytes: which bytes is left open, but each lies in 0 to 255 and the row is new. Condition: the cursor lies in a block of its own (Cur). -/
import Derived.Test.YtmemjapmkoenmaaDrawNum
import Derived.Test.YtmemjapmkoenmaaByteStr
import Derived.Test.YtmemjapmkoenmaaVarApp
namespace Go.Proofs.Ytmemjapmkoenmaa
open Go.ChangeShapes Go.WideShapes Go.ChangeAt Go.RowKit
theorem code8_of_rd {W : World} {A : Option Addr} {zs : List Int} (hr : Rd W W.heap.size A (bvs zs)) (hb : ∀ x ∈ zs, 0 ≤ x ∧ x ≤ 255) (hn : zs.length ≤ 9223372036854775807) : Code8 W A zs.length :=
  ⟨hn, fun hp => by
    obtain ⟨ad, e, h1, _⟩ := bvs_at hr hp
    refine ⟨ad, e, h1, fun j hj => ?_⟩
    obtain ⟨ad', e', _, hc⟩ := bvs_at hr hj
    have : ad' = ad := by rw [e] at e'; injection e' with e'; exact e'.symm
    subst this
    have hx := hb zs[j] (List.getElem_mem _)
    exact ⟨_, hx.1, hx.2, hc⟩⟩
theorem Out.of_only {w w' : World} {B : Nat} (h : w.grownBy w' (some B)) : Out B (B + 1) w w' := ⟨h.os, h.tape, h.output, h.size, fun k hk hne => h.block k hk (fun e => by injection e; omega)⟩
theorem only_new {a w : World} (h : Below a.heap.size a w) (r : Option Nat) : a.grownBy w r := ⟨h.os, h.tape, h.output, h.size, fun i hi _ => h.block i hi⟩
theorem only_then {a b c : World} {r : Option Nat} (h : a.grownBy b r) (k : Below a.heap.size b c) : a.grownBy c r :=
  ⟨k.os.trans h.os, k.tape.trans h.tape, k.output.trans h.output, Nat.le_trans h.size k.size, fun i hi hne => (k.block i hi).trans (h.block i hi hne)⟩
theorem Cur.below' {w w' : World} {B L : Nat} {A : Option Addr} {n c : Nat} (h : Cur w B A n c) (hb : Below L w w') (hL : B < L) : Cur w' B A n c := h.keep hb.size (fun k hk => hb.block k (by omega))
theorem cur_below {w w1 w2 : World} {B : Nat} (hb : Below w.heap.size w w1) (hg : w1.grownBy w2 (some B)) (hB : w.heap.size ≤ B) : Below w.heap.size w w2 :=
  hb.grown hg hb.size (fun k e => by cases e; exact hB)
/-- m bytes were drawn into a new row. -/
def DrewRow (m : Nat) (B : Nat) (A : Option Addr) (n c : Nat) (w : World) (e : Ending) (w' : World) : Prop :=
  ∃ (ys : List Int) (v : Value), ys.length = m ∧ (∀ x ∈ ys, 0 ≤ x ∧ x ≤ 255) ∧ e = .returned v ∧ Row w' w.heap.size w'.heap.size 5 v (bvs ys) ∧ w.grownBy w' (some B) ∧ Cur w' B A n c
theorem bytes_snoc {ys : List Int} {x : Int} (h : ∀ y ∈ ys, 0 ≤ y ∧ y ≤ 255) (hx : 0 ≤ x ∧ x ≤ 255) : ∀ y ∈ ys ++ [x], 0 ≤ y ∧ y ≤ 255 := by
  intro y hy
  rw [List.mem_append, List.mem_singleton] at hy
  rcases hy with hy | rfl
  · exact h y hy
  · exact hx
set_option maxHeartbeats 1600000 in
theorem bytes_any {w : World} {B : Nat} {A : Option Addr} {n c m : Nat} (h : Cur w B A n c) (hm : m ≤ 1000000) :
    Calls Try.prog 62 #[.pointer (some ⟨B, 0, none⟩), .int .i64 m] w (DrewRow m B A n c w) := by
  obtain ⟨i0, hi, hz0, hz1, hz2⟩ := info_parts ByteS_info
  have hrow0 := Row.made (w := w) w.heap.size #[] 0 5 (Nat.le_refl _) rfl (Nat.zero_le _)
  have hb0 : Below w.heap.size w (w.alloc (Obj.cells #[] 5)) := (Below.refl _ _).alloc (Nat.le_refl _) _
  have hB := h.lt
  have hc0 := h.below hb0
  go_enter Try.func62, Try.ntmps62
  go_wp2
  go_loopw [5, 6] (fun b i wr => ∃ (k : Nat) (ys : List Int), k ≤ m ∧ i = .int .i64 k ∧ Hid (ys.length = k) ∧ Hid (∀ x ∈ ys, 0 ≤ x ∧ x ≤ 255) ∧ Row wr w.heap.size wr.heap.size 5 b (bvs ys) ∧ w.grownBy wr (some B) ∧ Cur wr B A n c) (fun _ i _ => m - (intOf i).toNat)
  case atStart => exact ⟨0, [], Nat.zero_le _, rfl, rfl, Lib.hid (by simp), hrow0.wide (Nat.le_refl _) (by simp), only_new hb0 _, hc0⟩
  case round =>
    obtain ⟨k, ys, hk, rfl, hyl, hyb, hrow, hg, hcur⟩ := hrel
    have hsz := hg.size
    clear hrow0 hb0 hc0 h
    by_cases hlt : k < m
    · have L : (bvs ys).length + 1 ≤ maxLen ∧ ((bvs ys).length + 1) * 1 ≤ 140737488355328 := by rw [bvs_len, hyl.out]; unfold maxLen; omega
      have L1 := Lib.hid L
      clear L
      go_wp2_with (first
        | (go_at_call 90; refine (byte_any hcur).mono ?_; rintro e w1 ⟨x, ⟨hx0, hx1⟩, rfl, hg1, hcur1⟩; have hs1 := hg1.size; have hbl : Below w1.heap.size w1 (w1.alloc (Obj.cells #[Value.int .u8 x] 5)) := (Below.refl _ _).alloc (Nat.le_refl _) _; have hrow2 := (hrow.out (Out.of_only hg1) (by omega)).new hbl; have hmade := Rd.made w1 #[Value.int .u8 x] 5)
        | (at_builtin; refine wpList_app rfl (.tmp 13) (.tmp 17) 22 rfl 5 i0 _ 1 Try.underlying22 hi hz0 hz1 hz2 rfl rfl rfl hrow2 rfl hmade (by simp [Value.oneCell']) L1.out.1 L1.out.2 (by simp; omega) ?_; intro v1 w2 hrow1 ho2))
      have hs2 := ho2.size
      have hb2 : Below w.heap.size w1 w2 := (hbl.mono (by omega)).trans (ho2.below (Nat.le_refl _) (by simp; omega))
      go_roundw
      case rel => exact ⟨k + 1, ys ++ [x], by omega, by go_num, Lib.hid (by simp [hyl.out]), Lib.hid (bytes_snoc hyb.out ⟨hx0, hx1⟩), by rw [← bvs_snoc]; exact hrow1, only_then (only_trans hg hg1) hb2, hcur1.below' hb2 hB⟩
      case measure => simp [intOf]; omega
    · have e : k = m := by omega
      subst e
      go_wp2
      go_ret
      exact ⟨ys, _, hyl.out, hyb.out, rfl, hrow, hg, hcur⟩
/-- A row of bytes and an integer were drawn; nothing old has turned. -/
def DrewBI (P : Int → Prop) (m : Nat) (w : World) (e : Ending) (w' : World) : Prop :=
  ∃ (ys : List Int) (x : Int) (v : Value), ys.length ≤ m ∧ (∀ x ∈ ys, 0 ≤ x ∧ x ≤ 255) ∧ P x ∧ e = .returned (.tuple #[v, .int .i64 x]) ∧ Row w' w.heap.size w'.heap.size 5 v (bvs ys) ∧ Below w.heap.size w w'
/-- Two rows of bytes were drawn; nothing old has turned. -/
def DrewBB (m m' : Nat) (w : World) (e : Ending) (w' : World) : Prop :=
  ∃ (ys zs : List Int) (v v' : Value) (M : Nat), ys.length ≤ m ∧ zs.length ≤ m' ∧ (∀ x ∈ ys, 0 ≤ x ∧ x ≤ 255) ∧ (∀ x ∈ zs, 0 ≤ x ∧ x ≤ 255) ∧ e = .returned (.tuple #[v, v']) ∧ w.heap.size ≤ M ∧ M ≤ w'.heap.size ∧
    Row w' w.heap.size M 5 v (bvs ys) ∧ Row w' M w'.heap.size 5 v' (bvs zs) ∧ Below w.heap.size w w'
end Go.Proofs.Ytmemjapmkoenmaa
