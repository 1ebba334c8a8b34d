/- Contracts of the laws' own helpers over Graph: toGraph, eqGraph, markGraph, heldGraph, szGraph. For every graph whose slices have at most 2^40 elements; no other condition. -/
import Derived.Test.YteffhbboeacogaaIntSS
namespace Go.Proofs.Yteffhbboeacogaa
open Go.ChangeShapes Go.WideShapes Go.ChangeAt Go.RowKit
/-- Block g is just the cells cs. -/
def Bx (w : World) (g : Nat) (t : TypeId) (cs : Array Value) : Prop := w.heap[g]? = some (.cells cs t (0, 0))
section
variable {w w' : World} {g : Nat} {t : TypeId} {cs : Array Value}
theorem Bx.lt (h : Bx w g t cs) : g < w.heap.size := (Array.getElem?_eq_some_iff.1 h).1
theorem Bx.made (w : World) (t : TypeId) (cs : Array Value) : Bx (w.alloc (.cells cs t)) w.heap.size t cs := heap_alloc_new w _
theorem Bx.new (h : Bx w g t cs) (hb : Below w.heap.size w w') : Bx w' g t cs := (hb.block g h.lt).trans h
theorem Bx.out {lo hi : Nat} (h : Bx w g t cs) (o : Out lo hi w w') (hd : g < lo ∨ hi ≤ g) : Bx w' g t cs := (o.block g h.lt hd).trans h
theorem Bx.two {a b : Value} (h : Bx w g t #[a, b]) : w.cell? ⟨g, 0, none⟩ = some a ∧ w.cell? ⟨g, 1, none⟩ = some b :=
  ⟨by rw [cell_of_row w g 0 _ t (0, 0) h]; rfl, by rw [cell_of_row w g 1 _ t (0, 0) h]; rfl⟩
theorem trans_new {a b c : World} (h : Below a.heap.size a b) (k : Below b.heap.size b c) : Below a.heap.size a c := h.trans (k.mono h.size)
theorem arg_rd {W a b : World} {A : Option Addr} {X : List (List Int)} (R : RdSS W W.heap.size A X) (B : Below W.heap.size W a) (h : Below a.heap.size a b) : RdSS b b.heap.size A X :=
  (R.below (B.trans (h.mono B.size))).more (Nat.le_trans B.size h.size)
end
theorem bcell {W w1 : World} (hb : Below W.heap.size W w1) : (∀ b o, b < W.heap.size → w1.cell? ⟨b, o, none⟩ = W.cell? ⟨b, o, none⟩) ∧ (∀ b o, b < W.heap.size → w1.frozen? ⟨b, o, none⟩ = W.frozen? ⟨b, o, none⟩) :=
  ⟨fun b o h => hb.cell (p := ⟨b, o, none⟩) h, fun b o h => hb.frozen (p := ⟨b, o, none⟩) h⟩
theorem OwnSS.setFar {w : World} {lo hi : Nat} {v : Value} {X : List (List Int)} (h : OwnSS w lo hi v X) {p : Addr} (hp : p.block < lo ∨ hi ≤ p.block) (u : Value) : OwnSS (w.setCell p u) lo hi v X :=
  Owns.keep h SSR_frames fun b h1 h2 _ => Below.heap_setCell w p u b (by omega)
/-- A graph whose slices are new is returned. -/
def FreshG (N : Int) (X : List (List Int)) (w : World) (e : Ending) (w' : World) : Prop :=
  ∃ v, e = .returned (.agg #[.int .i64 N, v]) ∧ OwnSS w' w.heap.size w'.heap.size v X ∧ Below w.heap.size w w'
def MarkedG (q : Int) (lo hi : Nat) (v : Value) (X : List (List Int)) (w : World) (e : Ending) (w' : World) : Prop :=
  e = .returned (.int .i64 q) ∧ OwnSS w' lo hi v X ∧ Out lo hi w w'
/-- What is left of q when a slice's elements are counted off. -/
def szd (q : Int) (n : Nat) : Int := if q - (n : Int) < 0 then -1 else q - (n : Int)
theorem szIntS_any {w : World} {A : Option Addr} {n c : Nat} {q : Int} (hn : n ≤ 9223372036854775807) (h0 : 0 ≤ q) (hq : q ≤ 1000000000000000) :
    Calls Try.prog 77 #[.slice A n c, .int .i64 q] w (fun e w' => e = .returned (.int .i64 (szd q n)) ∧ w = w') := by
  by_cases h : q - (n : Int) < 0
  · have HS : Hid (szd q n = -1) := if_pos h
    go_enter Try.func77, Try.ntmps77
    go_wp2
    go_ret
    exact ⟨ret_i HS.out.symm, rfl⟩
  · have HS : Hid (szd q n = q - (n : Int)) := if_neg h
    have h' : (n : Int) ≤ q := by omega
    clear h
    go_enter Try.func77, Try.ntmps77
    go_wp2
    go_ret
    exact ⟨ret_i HS.out.symm, rfl⟩
/-- Either all is counted, or there is too much. -/
def SzP (q : Int) (X : List (List Int)) (w : World) (e : Ending) (w' : World) : Prop :=
  ∃ r : Int, e = .returned (.int .i64 r) ∧ Below w.heap.size w w' ∧ (r = -1 ∨ 0 ≤ r ∧ r + (X.length : Int) + (psum X X.length : Int) ≤ q)
end Go.Proofs.Yteffhbboeacogaa
