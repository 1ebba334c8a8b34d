/- Contracts of the draws that give slices of bytes: which bytes is left open, but each lies in 0 to 255 and the row is new. Condition: the cursor lies in a block of its own (Cur). -/
import Derived.Test.YtdhnhhicjjcmdaaDrawNum
import Derived.Test.YtdhnhhicjjcmdaaByteStr
import Derived.Test.YtdhnhhicjjcmdaaVarApp
namespace Go.Proofs.Ytdhnhhicjjcmdaa
open Go.ChangeShapes Go.WideShapes Go.ChangeAt Go.RowKit
theorem code8_of_rd {W : World} {A : Option Addr} {zs : List Int} (hr : Rd W W.heap.size A (bvs zs)) (hb : ∀ x ∈ zs, 0 ≤ x ∧ x ≤ 255) (hn : zs.length ≤ 9223372036854775807) : Code8 W A zs.length :=
  ⟨hn, fun hp => by
    obtain ⟨ad, e, h1, _⟩ := bvs_at hr hp
    refine ⟨ad, e, h1, fun j hj => ?_⟩
    obtain ⟨ad', e', _, hc⟩ := bvs_at hr hj
    have : ad' = ad := by rw [e] at e'; injection e' with e'; exact e'.symm
    subst this
    have hx := hb zs[j] (List.getElem_mem _)
    exact ⟨_, hx.1, hx.2, hc⟩⟩
theorem Out.of_only {w w' : World} {B : Nat} (h : w.grownBy w' (some B)) : Out B (B + 1) w w' := ⟨h.os, h.tape, h.output, h.size, fun k hk hne => h.block k hk (fun e => by injection e; omega)⟩
theorem only_new {a w : World} (h : Below a.heap.size a w) (r : Option Nat) : a.grownBy w r := ⟨h.os, h.tape, h.output, h.size, fun i hi _ => h.block i hi⟩
theorem only_then {a b c : World} {r : Option Nat} (h : a.grownBy b r) (k : Below a.heap.size b c) : a.grownBy c r :=
  ⟨k.os.trans h.os, k.tape.trans h.tape, k.output.trans h.output, Nat.le_trans h.size k.size, fun i hi hne => (k.block i hi).trans (h.block i hi hne)⟩
theorem Cur.below' {w w' : World} {B L : Nat} {A : Option Addr} {n c : Nat} (h : Cur w B A n c) (hb : Below L w w') (hL : B < L) : Cur w' B A n c := h.keep hb.size (fun k hk => hb.block k (by omega))
theorem cur_below {w w1 w2 : World} {B : Nat} (hb : Below w.heap.size w w1) (hg : w1.grownBy w2 (some B)) (hB : w.heap.size ≤ B) : Below w.heap.size w w2 :=
  hb.grown hg hb.size (fun k e => by cases e; exact hB)
/-- m bytes were drawn into a new row. -/
def DrewRow (m : Nat) (B : Nat) (A : Option Addr) (n c : Nat) (w : World) (e : Ending) (w' : World) : Prop :=
  ∃ (ys : List Int) (v : Value), ys.length = m ∧ (∀ x ∈ ys, 0 ≤ x ∧ x ≤ 255) ∧ e = .returned v ∧ Row w' w.heap.size w'.heap.size 5 v (bvs ys) ∧ w.grownBy w' (some B) ∧ Cur w' B A n c
theorem bytes_snoc {ys : List Int} {x : Int} (h : ∀ y ∈ ys, 0 ≤ y ∧ y ≤ 255) (hx : 0 ≤ x ∧ x ≤ 255) : ∀ y ∈ ys ++ [x], 0 ≤ y ∧ y ≤ 255 := by
  intro y hy
  rw [List.mem_append, List.mem_singleton] at hy
  rcases hy with hy | rfl
  · exact h y hy
  · exact hx
/-- A row of bytes and an integer were drawn; nothing old has turned. -/
def DrewBI (P : Int → Prop) (m : Nat) (w : World) (e : Ending) (w' : World) : Prop :=
  ∃ (ys : List Int) (x : Int) (v : Value), ys.length ≤ m ∧ (∀ x ∈ ys, 0 ≤ x ∧ x ≤ 255) ∧ P x ∧ e = .returned (.tuple #[v, .int .i64 x]) ∧ Row w' w.heap.size w'.heap.size 5 v (bvs ys) ∧ Below w.heap.size w w'
/-- Two rows of bytes were drawn; nothing old has turned. -/
def DrewBB (m m' : Nat) (w : World) (e : Ending) (w' : World) : Prop :=
  ∃ (ys zs : List Int) (v v' : Value) (M : Nat), ys.length ≤ m ∧ zs.length ≤ m' ∧ (∀ x ∈ ys, 0 ≤ x ∧ x ≤ 255) ∧ (∀ x ∈ zs, 0 ≤ x ∧ x ≤ 255) ∧ e = .returned (.tuple #[v, v']) ∧ w.heap.size ≤ M ∧ M ≤ w'.heap.size ∧
    Row w' w.heap.size M 5 v (bvs ys) ∧ Row w' M w'.heap.size 5 v' (bvs zs) ∧ Below w.heap.size w w'
end Go.Proofs.Ytdhnhhicjjcmdaa
