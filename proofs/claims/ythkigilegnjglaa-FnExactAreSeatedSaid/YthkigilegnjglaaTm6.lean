/- Boxes of six cells (teams that a call made); worlds that only grew (Grw). No conditions. -/
import Derived.Test.YthkigilegnjglaaAtMath3
import Derived.Sort.Grow
namespace Go.Proofs.Ythkigilegnjglaa
open Go.ChangeShapes Go.WideShapes Go.ChangeAt Go.RowKit
theorem drew_cell (W : World) (p : Addr) : W.drew.cell? p = W.cell? p := rfl
theorem drew_heap (W : World) (b : Nat) : W.drew.heap[b]? = W.heap[b]? := rfl
section
variable {w w' : World} {g : Nat} {t : TypeId} {a b c d e f x y z u v s : Value}
theorem Bx.c6 (h : Bx w g t #[a, b, c, d, e, f]) (hb : Below w.heap.size w w') : w'.cell? ⟨g, 0, none⟩ = some a ∧ w'.cell? ⟨g, 1, none⟩ = some b ∧ w'.cell? ⟨g, 2, none⟩ = some c ∧ w'.cell? ⟨g, 3, none⟩ = some d ∧ w'.cell? ⟨g, 4, none⟩ = some e ∧ w'.cell? ⟨g, 5, none⟩ = some f :=
  ⟨(h.new hb).at_ (k := 0) rfl, (h.new hb).at_ (k := 1) rfl, (h.new hb).at_ (k := 2) rfl, (h.new hb).at_ (k := 3) rfl, (h.new hb).at_ (k := 4) rfl, (h.new hb).at_ (k := 5) rfl⟩
theorem Bx.c2 (h : Bx w g t #[a, b]) (hb : Below w.heap.size w w') : w'.cell? ⟨g, 0, none⟩ = some a ∧ w'.cell? ⟨g, 1, none⟩ = some b :=
  ⟨(h.new hb).at_ (k := 0) rfl, (h.new hb).at_ (k := 1) rfl⟩
theorem box6 (w : World) (t : TypeId) (a b c d e f : Value) : ∃ W1 : World, w.alloc (Obj.cells #[a, b, c, d, e, f] t) = W1 ∧ Bx W1 w.heap.size t #[a, b, c, d, e, f] ∧ Below w.heap.size w W1 ∧ W1.heap.size = w.heap.size + 1 :=
  ⟨_, rfl, Bx.made w t _, alloc_m w _, by simp⟩
theorem box2T (w : World) (t : TypeId) (a b : Value) : ∃ W1 : World, w.alloc (Obj.cells #[a, b] t) = W1 ∧ Bx W1 w.heap.size t #[a, b] ∧ Below w.heap.size w W1 ∧ W1.heap.size = w.heap.size + 1 :=
  ⟨_, rfl, Bx.made w t _, alloc_m w _, by simp⟩
abbrev set6 (w : World) (g : Nat) (x y z u v s : Value) : World := (((((w.setCell ⟨g, 0, none⟩ x).setCell ⟨g, 1, none⟩ y).setCell ⟨g, 2, none⟩ z).setCell ⟨g, 3, none⟩ u).setCell ⟨g, 4, none⟩ v).setCell ⟨g, 5, none⟩ s
theorem Bx.sets6 (h : Bx w g t #[a, b, c, d, e, f]) (x y z u v s : Value) : Bx (set6 w g x y z u v s) g t #[x, y, z, u, v, s] := (((((h.set 0 x).set 1 y).set 2 z).set 3 u).set 4 v).set 5 s
theorem Bx.far6 {g' : Nat} {cs : Array Value} (h : Bx w g t cs) (hp : g ≠ g') (x y z u v s : Value) : Bx (set6 w g' x y z u v s) g t cs := (((((h.far (p := ⟨g', 0, none⟩) hp x).far (p := ⟨g', 1, none⟩) hp y).far (p := ⟨g', 2, none⟩) hp z).far (p := ⟨g', 3, none⟩) hp u).far (p := ⟨g', 4, none⟩) hp v).far (p := ⟨g', 5, none⟩) hp s
theorem below_sets6 {B : Nat} {w0 : World} (h : Below B w0 w) (hg : B ≤ g) : Below B w0 (set6 w g x y z u v s) := (((((h.setCell hg x).setCell hg y).setCell hg z).setCell hg u).setCell hg v).setCell hg s
theorem set6_cell {p : Addr} (h : p.block ≠ g) : (set6 w g x y z u v s).cell? p = w.cell? p := World.cell?_of_block (by
  unfold set6
  repeat rw [Below.heap_setCell _ _ _ _ h])
theorem set6_heap {b : Nat} (h : b ≠ g) : (set6 w g x y z u v s).heap[b]? = w.heap[b]? := by
  unfold set6
  repeat rw [Below.heap_setCell _ _ _ _ h]
theorem set6_celld {p : Addr} (h : p.block ≠ g) : (set6 w g x y z u v s).drew.cell? p = w.cell? p := by
  rw [drew_cell, set6_cell h]
theorem set66_celld {g' : Nat} {x' y' z' u' v' s' : Value} {p : Addr} (h : p.block ≠ g) (h' : p.block ≠ g') : (set6 (set6 w g x y z u v s) g' x' y' z' u' v' s').drew.cell? p = w.cell? p := by
  rw [set6_celld h', set6_cell h]
theorem set6_heapd {b : Nat} (h : b ≠ g) : (set6 w g x y z u v s).drew.heap[b]? = w.heap[b]? := by
  rw [drew_heap, set6_heap h]
theorem set66_heapd {g' : Nat} {x' y' z' u' v' s' : Value} {b : Nat} (h : b ≠ g) (h' : b ≠ g') : (set6 (set6 w g x y z u v s) g' x' y' z' u' v' s').drew.heap[b]? = w.heap[b]? := by
  rw [set6_heapd h', set6_heap h]
theorem Bx.sets2 (h : Bx w g t #[a, b]) (x y : Value) : Bx ((w.setCell ⟨g, 0, none⟩ x).setCell ⟨g, 1, none⟩ y) g t #[x, y] := (h.set 0 x).set 1 y
theorem below_sets2 {B : Nat} {w0 : World} (h : Below B w0 w) (hg : B ≤ g) : Below B w0 ((w.setCell ⟨g, 0, none⟩ x).setCell ⟨g, 1, none⟩ y) := (h.setCell hg x).setCell hg y
end
/-- The world has drawn and grown, nothing else. -/
def Grw (w u : World) : Prop := ∃ (q : Nat) (os : Array Obj), u = Sort.grow (w.drewN q) os
section
variable {w w' u v : World}
theorem Grw.refl : Grw w w := ⟨0, #[], by rw [Sort.grow_empty]; rfl⟩
theorem Grw.drew (h : Grw w u) : Grw w u.drew := by
  obtain ⟨q, os, rfl⟩ := h
  exact ⟨q + 1, os, rfl⟩
theorem Grw.alloc (h : Grw w u) (o : Obj) : Grw w (u.alloc o) := by
  obtain ⟨q, os, rfl⟩ := h
  exact ⟨q, os ++ #[o], by rw [Sort.alloc_eq_grow, Sort.grow_grow]⟩
theorem Grw.below (h : Grw w u) : Below w.heap.size w u := by
  obtain ⟨q, os, rfl⟩ := h
  refine ⟨rfl, rfl, rfl, ?_, fun k hk => ?_⟩
  · show w.heap.size ≤ (w.heap ++ os).size
    rw [Array.size_append]; omega
  · show (w.heap ++ os)[k]? = _
    rw [Array.getElem?_append_left hk]
theorem Grw.trans (h : Grw w u) (k : Grw u v) : Grw w v := by
  obtain ⟨q, os, rfl⟩ := h
  obtain ⟨q', os', rfl⟩ := k
  refine ⟨q + q', os ++ os', ?_⟩
  show Sort.grow (Sort.grow ((w.drewN q).drewN q') os) os' = _
  rw [Sort.grow_grow]
  show _ = Sort.grow (w.drewN (q + q')) _
  unfold World.drewN Sort.grow
  simp [Nat.add_assoc]
end
end Go.Proofs.Ythkigilegnjglaa
