/- Contracts of the draws of AddAttack and HitBy. Condition: the code's bytes lie in old memory. -/
import Derived.Test.YtobghogkflgpeaaDrawG2
namespace Go.Proofs.Ytobghogkflgpeaa
open Go.ChangeShapes Go.WideShapes Go.ChangeAt Go.RowKit
set_option maxRecDepth 100000
theorem mn12 (N : Int) : mn 12 N ≤ 12 := by unfold mn; split <;> omega
/-- A set was drawn; its memory is new. -/
def DrewS (B : Nat) (A : Option Addr) (n c : Nat) (w : World) (e : Ending) (w' : World) : Prop :=
  ∃ (zs : List Int) (v : Value), zs.length ≤ 12 ∧ e = .returned v ∧ Row w' w.heap.size w'.heap.size 3 v (ivs zs) ∧ w.grownBy w' (some B) ∧ Cur w' B A n c
/-- A graph and an integer were drawn; nothing old has turned. -/
def DrewGI (w : World) (e : Ending) (w' : World) : Prop :=
  ∃ (N : Int) (X : List (List Int)) (v : Value) (x : Int), GOK 10 X ∧ e = .returned (.tuple #[.agg #[.int .i64 N, v], .int .i64 x]) ∧ OwnSS w' w.heap.size w'.heap.size v X ∧ Below w.heap.size w w'
theorem drew_result {w w2 : World} {M : Nat} {v : Value} {X : List (List Int)} (cs : Array Value) (hown : OwnSS w2 M w2.heap.size v X) (hb : Below w.heap.size w w2) (hM : w.heap.size + 1 ≤ M) (hz : w.heap.size ≤ w2.heap.size) :
    OwnSS (w2.setRow w.heap.size cs) w.heap.size (w2.setRow w.heap.size cs).heap.size v X ∧ Below w.heap.size w (w2.setRow w.heap.size cs) :=
  ⟨(hown.out (setRow_out w2 _ cs (Nat.le_refl _) (Nat.lt_succ_self _)) (.inr hM)).wide (by omega) (by simp [World.setRow]), hb.trans ((setRow_out w2 _ cs (Nat.le_refl _) (Nat.lt_succ_self _)).below (Nat.le_refl _) hz)⟩
theorem cells_result {w w2 : World} {M : Nat} {v a b : Value} {X : List (List Int)} (hown : OwnSS w2 M w2.heap.size v X) (hb : Below w.heap.size w w2) (hM : w.heap.size + 1 ≤ M) :
    OwnSS ((w2.setCell ⟨w.heap.size, 0, none⟩ a).setCell ⟨w.heap.size, 1, none⟩ b) w.heap.size ((w2.setCell ⟨w.heap.size, 0, none⟩ a).setCell ⟨w.heap.size, 1, none⟩ b).heap.size v X ∧ Below w.heap.size w ((w2.setCell ⟨w.heap.size, 0, none⟩ a).setCell ⟨w.heap.size, 1, none⟩ b) :=
  ⟨((hown.setFar (p := ⟨w.heap.size, 0, none⟩) (.inl hM) _).setFar (p := ⟨w.heap.size, 1, none⟩) (.inl hM) _).wide (by omega) (by simp), (hb.setCell (Nat.le_refl _) _).setCell (Nat.le_refl _) _⟩
theorem results_cell_tmp2 {fn : Func} {p u v : Tmp} {ty : TypeId} (h : fn.results = #[.cell p ty, .tmp u, .tmp v]) (tmps : Array Value) (P : Program) (w : World) :
    (results fn tmps).run P w = ((asAddr (tmps.getD p undef)).run P w).andThen fun a w₁ => ((loadVar ty a).run P w₁).andThen fun x w₂ => .ok (.tuple #[x, tmps.getD u undef, tmps.getD v undef]) w₂ := by
  simp only [results, h]
  simp [Sem.run_bind, Result.andThen]
theorem resGII {w : World} {fn : Func} {p u v : Tmp} {tmps : Array Value} {g : Nat} {cs : Array Value} {x y : Value} (h : fn.results = #[.cell p 27, .tmp u, .tmp v]) (hb : Bx w g 27 cs) (hs : cs.size = 2) (hp : tmps.getD p undef = .pointer (some ⟨g, 0, none⟩)) (hu : tmps.getD u undef = x) (hv : tmps.getD v undef = y) : (results fn tmps).run Try.prog w = .ok (.tuple #[.agg cs, x, y]) w := by
  rw [results_cell_tmp2 h, hp, hu, hv]
  simp [asAddr, run_loadVar_row w g _ _ cs (0, 0) _ hb Try.underlying27 rfl (by rw [GR_info, hs])]
end Go.Proofs.Ytobghogkflgpeaa
