/- Contracts of the models l10Op and Value. Condition: the slices have at most 2^40 elements. -/
import Derived.Test.YthhdklmdldikfabTreeOf
namespace Go.Proofs.Ythhdklmdldikfab
open Go.ChangeShapes Go.WideShapes Go.ChangeAt Go.RowKit
set_option maxRecDepth 100000
theorem Row.set_ {w : World} {lo hi : Nat} {t : TypeId} {g n c i : Nat} {xs : List Value} {v : Value} (h : Row w lo hi t (.slice (some ⟨g, 0, none⟩) n c) xs) : Row (w.setCell ⟨g, i, none⟩ v) lo hi t (.slice (some ⟨g, 0, none⟩) n c) (xs.set i v) := by
  obtain ⟨⟨h1, h2⟩, h3⟩ := h
  rcases h2 with ⟨e, hn⟩ | ⟨g', cap, cur, e, hb, hgg, hnc, hcm, hcs, htk⟩
  · injection e with e1; cases e1
  · injection e with e1 e2 e3
    injection e1 with e1
    injection e1 with e1
    subst e1 e3
    have hst := (World.ownsRow.stored (w := w) (base := lo) (e := t) (size := 1) (g := g) (n := n) (cap := c) (xs := xs) (e2 ▸ ⟨h1, .inr ⟨g, c, cur, rfl, hb, hgg, hnc, hcm, hcs, htk⟩⟩) i v).1
    refine ⟨?_, fun g' hg' => h3 g' hg'⟩
    rw [List.length_set]
    exact e2 ▸ hst
theorem Row.froz {w : World} {lo hi : Nat} {t : TypeId} {g n c i : Nat} {xs : List Value} (h : Row w lo hi t (.slice (some ⟨g, 0, none⟩) n c) xs) : w.frozen? ⟨g, i, none⟩ = false := by
  obtain ⟨⟨h1, h2⟩, h3⟩ := h
  rcases h2 with ⟨e, hn⟩ | ⟨g', cap, cur, e, hb, hgg, _⟩
  · injection e with e1; cases e1
  · injection e with e1 e2 e3
    injection e1 with e1
    injection e1 with e1
    subst e1
    exact frozen_of_row w g i cur t hgg
theorem fml_pre {f : List Int} (h : isF f = true) {k : Nat} : ∃ j, cntF (f.take k) = some j := by
  unfold isF at h
  rw [Bool.and_eq_true, decide_eq_true_iff] at h
  have e : f = f.take k ++ f.drop k := (List.take_append_drop k f).symm
  exact cnt_some_pre (g := f.drop k) (by rw [← e]; exact h.1)
theorem pileV_next {L : List Bool} {f : List Int} {k : Nat} {x : Int} (hk : k < f.length) (hx : x = f[k]) : pileV L (f.take (k + 1)) = stV L (pileV L (f.take k)) x := by rw [take_next hk, pileV_snoc, hx]
theorem lastB_at {P : List Bool} {r : Nat} (h : P.length = r + 1) : P.getLastD false = P[r] := by
  have e : P[P.length - 1]? = some P[r] := by rw [show P.length - 1 = r by omega]; exact List.getElem?_eq_getElem _
  rw [List.getLastD_eq_getLast?, List.getLast?_eq_getElem?, e]
  rfl
theorem lastB_drop {P : List Bool} {r : Nat} (h : P.length = r + 2) : P.dropLast.getLastD false = P[r] := by
  have e : P.dropLast[P.dropLast.length - 1]? = some P[r] := by
    rw [List.length_dropLast, show P.length - 1 - 1 = r by omega, List.getElem?_eq_getElem (by rw [List.length_dropLast]; omega), List.getElem_dropLast]
  rw [List.getLastD_eq_getLast?, List.getLast?_eq_getElem?, e]
  rfl
theorem dropB_one {P : List Bool} {r : Nat} (h : P.length = r + 1) : P.dropLast = P.take r := by rw [List.dropLast_eq_take, h]; rfl
theorem dropB_two {P : List Bool} {r : Nat} (h : P.length = r + 2) : P.dropLast.dropLast = P.take r := by
  rw [List.dropLast_eq_take, List.dropLast_eq_take, List.length_take, h, List.take_take]
  congr 1
  omega
theorem bls_one {p : List Bool} : ∀ u ∈ bls p, u.oneCell' = true := by
  intro u hu
  obtain ⟨t, _, rfl⟩ := List.mem_map.1 hu
  rfl
end Go.Proofs.Ythhdklmdldikfab
