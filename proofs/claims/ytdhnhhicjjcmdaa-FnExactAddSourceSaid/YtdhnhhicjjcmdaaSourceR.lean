/- Words for slices of sources, over any program: their cells, what an argument gives. No conditions. -/
import Derived.Test.YtdhnhhicjjcmdaaRowG2
namespace Go.Proofs.Ytdhnhhicjjcmdaa
open Go.ChangeShapes Go.WideShapes Go.ChangeAt Go.RowKit
set_option maxRecDepth 100000
abbrev Src := Int × Int × Int × Bool
def srcE : CEnc Src := ⟨fun x => [.int .i64 x.1, .int .i64 x.2.1, .int .i64 x.2.2.1, .bool x.2.2.2], 4, fun _ => rfl, by intro x u hu; simp at hu; rcases hu with rfl | rfl | rfl | rfl <;> rfl, by decide⟩
/-- A source as a value. -/
abbrev srcV (x : Src) : Value := .agg #[.int .i64 x.1, .int .i64 x.2.1, .int .i64 x.2.2.1, .bool x.2.2.2]
theorem src_cells {w : World} {B : Nat} {A : Option Addr} {X : List Src} (h : Rd w B A (flE srcE X)) {k : Nat} (hk : k < X.length) :
    ∃ ad p : Addr, A = some ad ∧ ad.add (k * 4) = p ∧ p.block < B ∧ w.cell? p = some (.int .i64 X[k].1) ∧ w.cell? ⟨p.block, p.off + 1, none⟩ = some (.int .i64 X[k].2.1) ∧ w.cell? ⟨p.block, p.off + 2, none⟩ = some (.int .i64 X[k].2.2.1) ∧ w.cell? ⟨p.block, p.off + 3, none⟩ = some (.bool X[k].2.2.2) := by
  obtain ⟨ad, p, e, hp, hb, h0, hj⟩ := rdE_at srcE h hk
  exact ⟨ad, p, e, hp, hb, h0 _ rfl, hj 0 _ rfl, hj 1 _ rfl, hj 2 _ rfl⟩
theorem src_el {H : Type} {enc : TypeId × Value → H} {P : Program} {W : World} {e : TypeId} {f0 f1 f2 f3 : Field} (he : P.underlying e = some (.struct #[f0, f1, f2, f3]))
    (o0 : f0.offset = 0) (o1 : f1.offset = 1) (o2 : f2.offset = 2) (o3 : f3.offset = 3) (u0 : P.underlying f0.type = some (.int .i64)) (u1 : P.underlying f1.type = some (.int .i64)) (u2 : P.underlying f2.type = some (.int .i64)) (u3 : P.underlying f3.type = some .bool) (c0 : P.cellsOf f0.type = 1) (c1 : P.cellsOf f1.type = 1) (c2 : P.cellsOf f2.type = 1) (c3 : P.cellsOf f3.type = 1) :
    ∀ (f : Nat) (cs : List Value) (D : DataW H) (Pl : List MemPlace), cs.length = srcE.size → DataW.trod enc P W 0 (fun _ => true) true f e cs = some (D, Pl) → ∃ x : Src, cs = srcE.enc x := by
  intro f cs D Pl hlen h
  obtain ⟨xs, j, _, _, _, hxl, hf⟩ := DataW.trod_struct he h
  match cs, hlen with
  | [v0, v1, v2, v3], _ =>
    match xs, hxl with
    | [y0, y1, y2, y3], _ =>
      have g0 := hf 0 f0 rfl
      have g1 := hf 1 f1 rfl
      have g2 := hf 2 f2 rfl
      have g3 := hf 3 f3 rfl
      simp [o0, c0, o1, c1, o2, c2, o3, c3] at g0 g1 g2 g3
      obtain ⟨z0, q0, _, _⟩ := DataW.trod_int u0 g0
      obtain ⟨z1, q1, _, _⟩ := DataW.trod_int u1 g1
      obtain ⟨z2, q2, _, _⟩ := DataW.trod_int u2 g2
      obtain ⟨z3, q3, _⟩ := DataW.trod_bool u3 g3
      simp at q0 q1 q2 q3
      subst q0 q1 q2 q3
      exact ⟨(z0, z1, z2, z3), rfl⟩
theorem src_open {H : Type} {enc : TypeId × Value → H} {P : Program} {W : World} {t : TypeId} {f0 f1 f2 f3 : Field} {v : Value} {d : DataW H} {p : List MemPlace} {base : Nat} (ht : P.underlying t = some (.struct #[f0, f1, f2, f3])) (hone : Go.Deep.oneCellFields P #[f0, f1, f2, f3] = true) (hc : P.cellsOf t = 4)
    (u0 : P.underlying f0.type = some (.int .i64)) (u1 : P.underlying f1.type = some (.int .i64)) (u2 : P.underlying f2.type = some (.int .i64)) (u3 : P.underlying f3.type = some .bool)
    (hv : Value.okWide P W .any base t v) (h : DataW.Trod enc P W 0 (fun _ => true) true t v d p) :
    ∃ x : Src, v = srcV x := by
  obtain ⟨v0, v1, v2, v3, y0, y1, y2, y3, n, rfl, _, _, g0, g1, g2, g3⟩ := Go.Joins.open_agg4 ht hone hc hv h
  obtain ⟨z0, q0, _, _⟩ := DataW.trod_int u0 g0
  obtain ⟨z1, q1, _, _⟩ := DataW.trod_int u1 g1
  obtain ⟨z2, q2, _, _⟩ := DataW.trod_int u2 g2
  obtain ⟨z3, q3, _⟩ := DataW.trod_bool u3 g3
  simp at q0 q1 q2 q3
  subst q0 q1 q2 q3
  exact ⟨(z0, z1, z2, z3), rfl⟩
end Go.Proofs.Ytdhnhhicjjcmdaa
