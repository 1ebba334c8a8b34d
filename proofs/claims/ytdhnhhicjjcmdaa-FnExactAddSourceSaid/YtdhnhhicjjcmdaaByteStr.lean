/- Contracts of AppendBytes and ReadBytes and of their models. No conditions but that each byte lies in 0 to 255 and that the slices have at most 2^45 elements. -/
import Derived.Test.YtdhnhhicjjcmdaaVarApp
namespace Go.Proofs.Ytdhnhhicjjcmdaa
open Go.ChangeShapes Go.WideShapes Go.ChangeAt Go.RowKit
theorem Rd.cut {w : World} {B : Nat} {ad : Addr} {xs : List Value} (h : Rd w B (some ad) xs) (q m : Nat) : Rd w B (some (ad.add q)) ((xs.drop q).take m) := fun j u hu => by
  have hj : xs[q + j]? = some u := by
    rcases Nat.lt_or_ge j m with hm | hm
    · rw [List.getElem?_take, if_pos hm, List.getElem?_drop] at hu; exact hu
    · rw [List.getElem?_take, if_neg (by omega)] at hu; cases hu
  obtain ⟨ad', e, hb, hc⟩ := h _ u hj
  injection e with e
  subst e
  exact ⟨_, rfl, by rw [add_blk]; exact hb, by rw [add_add_]; exact hc⟩
theorem bvs_cut (zs : List Int) (q m : Nat) : ((bvs zs).drop q).take m = bvs ((zs.drop q).take m) := by simp [bvs]
/-- As Fresh, with two more results. -/
def Fresh3 (t : TypeId) (xs : List Value) (a b : Value) (w : World) (e : Ending) (w' : World) : Prop :=
  ∃ v, e = .returned (.tuple #[v, a, b]) ∧ Row w' w.heap.size w'.heap.size t v xs ∧ Below w.heap.size w w'
/-- What ReadBytes answers: the bytes and the offset behind them. -/
def rbAt (zs : List Int) (o most : Int) : Option (List Int × Int) :=
  match rvAt zs o with
  | none => none
  | some (m, j) => if most < m ∨ (zs.length : Int) - (o + j) < m then none else some ((zs.drop (o.toNat + j)).take m.toNat, o + j + m)
theorem rbAt_len {zs ys : List Int} {o most r : Int} (h : rbAt zs o most = some (ys, r)) : ys.length ≤ zs.length := by
  unfold rbAt at h
  split at h
  · cases h
  · split at h
    · cases h
    · injection h with h
      injection h with h _
      rw [← h, List.length_take, List.length_drop]; omega
theorem Fresh3.nil {w w' : World} {t : TypeId} {a b : Value} (hb : Below w.heap.size w w') {cs : Array Value} (hcs : cs = #[]) : Fresh3 t (bvs []) a b w (.returned (.tuple #[.slice (some ⟨w'.heap.size, 0, none⟩) 0 0, a, b])) (w'.alloc (.cells cs t)) := by
  subst hcs
  exact ⟨_, rfl, (Row.made (w := w') w.heap.size #[] 0 t hb.size rfl (Nat.zero_le _)).wide (Nat.le_refl _) (by simp), hb.alloc hb.size _⟩
end Go.Proofs.Ytdhnhhicjjcmdaa
