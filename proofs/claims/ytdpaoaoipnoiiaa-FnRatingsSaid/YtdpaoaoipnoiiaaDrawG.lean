/- Contracts of the draws of graphs: l4Raw, l4Draw. Condition: as for the cursor's own functions. -/
import Derived.Test.YtdpaoaoipnoiiaaAddM2
import Derived.Test.YtdpaoaoipnoiiaaMg3
import Derived.Test.YtdpaoaoipnoiiaaDrawH
namespace Go.Proofs.Ytdpaoaoipnoiiaa
open Go.ChangeShapes Go.WideShapes Go.ChangeAt Go.RowKit
set_option maxRecDepth 100000
theorem only_ofalloc' {w w' : World} {o : Obj} {r : Option Nat} (h : (w.alloc o).grownBy w' r) : w.grownBy w' r := only_trans (only_alloc (only_refl w r) o) h
/-- Small pairs, k at most. -/
def GOK (k : Nat) (X : List (List Int)) : Prop := X.length ≤ k ∧ ∀ x ∈ X, x.length ≤ 2
theorem GOK.add {k : Nat} {X : List (List Int)} (h : GOK k X) (N a b : Int) : GOK (k + 1) (addL N X a b) := by
  unfold addL
  split
  · refine ⟨by rw [ins_len]; have := h.1; omega, fun x hx => ?_⟩
    rcases ins_mem.1 hx with hx | rfl
    · exact h.2 x hx
    · simp
  · exact ⟨by have := h.1; omega, h.2⟩
theorem GOK.snoc {k : Nat} {X : List (List Int)} (h : GOK k X) {x : List Int} (hx : x.length ≤ 2) : GOK (k + 1) (X ++ [x]) := by
  refine ⟨by rw [List.length_append]; have := h.1; simp; omega, fun y hy => ?_⟩
  rcases List.mem_append.1 hy with hy | hy
  · exact h.2 y hy
  · rw [List.mem_singleton.1 hy]; exact hx
theorem GOK.more {k k' : Nat} {X : List (List Int)} (h : GOK k X) (hk : k ≤ k') : GOK k' X := ⟨Nat.le_trans h.1 hk, h.2⟩
theorem GOK.small {k : Nat} {X : List (List Int)} (h : GOK k X) : Hid (∀ x ∈ X, x.length ≤ 1099511627776) := Lib.hid fun x hx => Nat.le_trans (h.2 x hx) (by omega)
/-- A graph was drawn; its memory is new. -/
def DrewG (P : Int → Prop) (k B : Nat) (A : Option Addr) (n c : Nat) (w : World) (e : Ending) (w' : World) : Prop :=
  ∃ (N : Int) (X : List (List Int)) (v : Value), P N ∧ GOK k X ∧ e = .returned (.agg #[.int .i64 N, v]) ∧ OwnSS w' w.heap.size w'.heap.size v X ∧ w.grownBy w' (some B) ∧ Cur w' B A n c
theorem OwnSS.only {w w' : World} {lo hi B : Nat} {v : Value} {X : List (List Int)} (h : OwnSS w lo hi v X) (hg : w.grownBy w' (some B)) (hB : B < lo) : OwnSS w' lo hi v X := h.out (Out.of_only hg) (.inr hB)
theorem Bx.only {w w' : World} {g B : Nat} {t : TypeId} {cs : Array Value} (h : Bx w g t cs) (hg : w.grownBy w' (some B)) (hB : B ≠ g) : Bx w' g t cs := h.out (Out.of_only hg) (by omega)
theorem Cur.drew_ {w : World} {B : Nat} {A : Option Addr} {n c : Nat} (h : Cur w B A n c) : Cur w.drew B A n c := h.keep (Nat.le_refl _) (fun _ _ => rfl)
theorem only_setnew {a w : World} {r : Option Nat} (h : a.grownBy w r) {p : Addr} (hp : a.heap.size ≤ p.block) (u : Value) : a.grownBy (w.setCell p u) r :=
  ⟨h.os, h.tape, h.output, by simpa using h.size, fun i hi hne => (heap_setCell_other w p i u (by omega)).trans (h.block i hi hne)⟩
theorem only_drew {a w : World} {r : Option Nat} (h : a.grownBy w r) : a.grownBy w.drew r := ⟨h.os, h.tape, h.output, h.size, h.block⟩
theorem only_row {a w : World} {r : Option Nat} (h : a.grownBy w r) {g : Nat} (hg : a.heap.size ≤ g) (cs : Array Value) : a.grownBy (w.setRow g cs) r :=
  only_then h ((setRow_out w g cs (Nat.le_refl _) (Nat.lt_succ_self _)).below hg h.size)
end Go.Proofs.Ytdpaoaoipnoiiaa
