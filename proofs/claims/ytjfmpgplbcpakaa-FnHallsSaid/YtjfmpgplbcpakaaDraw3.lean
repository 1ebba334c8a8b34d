/- Words for the draws of structs of three integers: a row of them stays while the cursor turns; over any program. No conditions. -/
import Derived.Test.YtjfmpgplbcpakaaDrawS
import Derived.Test.YtjfmpgplbcpakaaDrawNum
import Derived.Test.YtjfmpgplbcpakaaSet3
import Derived.Test.YtjfmpgplbcpakaaGraph
namespace Go.Proofs.Ytjfmpgplbcpakaa
open Go.ChangeShapes Go.WideShapes Go.ChangeAt Go.RowKit
set_option maxRecDepth 100000
theorem row3_only {w w' : World} {lo B : Nat} {t : TypeId} {v : Value} {X : List T3} (h : Row3 w lo w.heap.size t v X) (g : w.grownBy w' (some B)) (hB : B < lo) : Row3 w' lo w'.heap.size t v X :=
  (h.out (Out.of_only g) (.inr (by omega))).wide (Nat.le_refl _) g.size
theorem row3_new {w w' : World} {lo : Nat} {t : TypeId} {v : Value} {X : List T3} (h : Row3 w lo w.heap.size t v X) (b : Below w.heap.size w w') : Row3 w' lo w'.heap.size t v X :=
  (h.new b).wide (Nat.le_refl _) b.size
theorem row3_at {w : World} {lo hi g n c k : Nat} {t : TypeId} {X : List T3} (h : Row3 w lo hi t (.slice (some ⟨g, 0, none⟩) n c) X) (hk : k < X.length) :
    (⟨g, 0, none⟩ : Addr).add (k * 3) = ⟨g, k * 3, none⟩ ∧ w.cell? ⟨g, k * 3, none⟩ = some (.int .i64 X[k].1) ∧ w.cell? ⟨g, k * 3 + 1, none⟩ = some (.int .i64 X[k].2.1) ∧ w.cell? ⟨g, k * 3 + 2, none⟩ = some (.int .i64 X[k].2.2) ∧ w.frozen? ⟨g, k * 3, none⟩ = false ∧ w.frozen? ⟨g, k * 3 + 1, none⟩ = false ∧ w.frozen? ⟨g, k * 3 + 2, none⟩ = false := by
  have e : (⟨g, 0, none⟩ : Addr).add (k * 3) = ⟨g, k * 3, none⟩ := by rw [Addr.add_lit]; simp
  obtain ⟨ad, p, e1, e2, _, h0, h1, h2⟩ := t3_cells h.rd' hk
  injection e1 with e1
  subst e1
  rw [e] at e2
  subst e2
  exact ⟨e, h0, h1, h2, h.froz, h.froz, h.froz⟩
theorem below_set3 (w : World) {L g o : Nat} {x : Int} (hg : L ≤ g) : Below L w (w.setCell ⟨g, o, none⟩ (.int .i64 x)) := (Below.refl _ _).setCell (p := ⟨g, o, none⟩) hg _
theorem Bx.only3 {w w' : World} {g B : Nat} {t : TypeId} {cs : Array Value} (h : Bx w g t cs) (hg : w.grownBy w' (some B)) (hB : B ≠ g) : Bx w' g t cs := h.out (Out.of_only hg) (by omega)
theorem only_of3 {w w' : World} {o : Obj} {r : Option Nat} (h : (w.alloc o).grownBy w' r) : w.grownBy w' r := only_trans (only_alloc (only_refl w r) o) h
/-- A cursor stays where neither its block nor the code's turns. -/
theorem Cur.far3 {w w' : World} {B : Nat} {A : Option Addr} {n c : Nat} (h : Cur w B A n c) (hs : w.heap.size ≤ w'.heap.size) (hb : w'.heap[B]? = w.heap[B]?) (hA : ∀ a, A = some a → 0 < n → w'.heap[a.block]? = w.heap[a.block]?) : Cur w' B A n c := by
  have e : ∀ p : Addr, p.block = B → w'.cell? p = w.cell? p := fun p hp => World.cell?_of_block (by rw [hp]; exact hb)
  refine ⟨Nat.lt_of_lt_of_le h.lt hs, (e _ rfl).trans h.c0, ?_, ?_, fun k => (World.frozen?_of_block hb).trans (h.f0 k), h.len, fun hn => ?_⟩
  · obtain ⟨i, hi, hc⟩ := h.c1; exact ⟨i, hi, (e _ rfl).trans hc⟩
  · obtain ⟨i, hc⟩ := h.c2; exact ⟨i, (e _ rfl).trans hc⟩
  · obtain ⟨a, rfl, ha, hc⟩ := h.code hn
    exact ⟨a, rfl, ha, fun j hj => by
      obtain ⟨z, z0, z1, hz⟩ := hc j hj
      exact ⟨z, z0, z1, (World.cell?_of_block (by rw [add_block]; exact hA a rfl hn)).trans hz⟩⟩
theorem Cur.sets3 {w w0 : World} {B : Nat} {A : Option Addr} {n c g : Nat} {x y z : Value} (h : Cur w B A n c) (h8 : Code8 w0 A n) (hg : w0.heap.size ≤ g) (hB : B ≠ g) : Cur (((w.setCell ⟨g, 0, none⟩ x).setCell ⟨g, 1, none⟩ y).setCell ⟨g, 2, none⟩ z) B A n c := by
  have e : ∀ k, k ≠ g → (((w.setCell ⟨g, 0, none⟩ x).setCell ⟨g, 1, none⟩ y).setCell ⟨g, 2, none⟩ z).heap[k]? = w.heap[k]? := fun k hk => by
    rw [Below.heap_setCell _ _ _ _ (by simpa using hk), Below.heap_setCell _ _ _ _ (by simpa using hk), Below.heap_setCell _ _ _ _ (by simpa using hk)]
  refine h.far3 (by simp [World.setCell]) (e B hB) fun a ha hn => e _ ?_
  obtain ⟨a', e', hlt, _⟩ := h8.code hn
  rw [ha] at e'
  injection e' with e'
  subst e'
  omega
def InW3 (a : Int) : Prop := IntKind.i64.min ≤ a ∧ a ≤ IntKind.i64.max
def In3 (x : T3) : Prop := InW3 x.1 ∧ InW3 x.2.1 ∧ InW3 x.2.2
theorem inW3 {a : Int} (h : -9223372036854775808 ≤ a ∧ a ≤ 9223372036854775807) : InW3 a := h
end Go.Proofs.Ytjfmpgplbcpakaa
