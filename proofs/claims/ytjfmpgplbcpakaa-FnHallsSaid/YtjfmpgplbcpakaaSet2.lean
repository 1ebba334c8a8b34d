/- Stores into a row of structs of two integers, and the row that make lays, over any program. No conditions. -/
import Derived.Test.YtjfmpgplbcpakaaRow2
namespace Go.Proofs.Ytjfmpgplbcpakaa
open Go.ChangeShapes Go.WideShapes Go.ChangeAt Go.RowKit
set_option maxRecDepth 100000
theorem t2s_sets (X : List T2) (k : Nat) (h : k < X.length) (a : Int) : (t2s X).set (k * 2) (.int .i64 a) = t2s (X.set k (a, X[k].2)) ∧ (t2s X).set (k * 2 + 1) (.int .i64 a) = t2s (X.set k (X[k].1, a)) := by
  induction X generalizing k with
  | nil => simp at h
  | cons p X ih =>
    cases k with
    | zero => exact ⟨rfl, rfl⟩
    | succ k =>
      obtain ⟨h0, h1⟩ := ih k (by simpa using h)
      simp only [List.set_cons_succ, List.getElem_cons_succ, t2s_cons, ← h0, ← h1, show (k + 1) * 2 = k * 2 + 1 + 1 by omega]
      refine ⟨?_, ?_⟩ <;> first | trivial | rfl
theorem Row2.set2 {w : World} {lo hi g n c k : Nat} {t : TypeId} {X : List T2} (h : Row2 w lo hi t (.slice (some ⟨g, 0, none⟩) n c) X) (hk : k < X.length) (q : T2) :
    Row2 ((w.setCell ⟨g, k * 2, none⟩ (.int .i64 q.1)).setCell ⟨g, k * 2 + 1, none⟩ (.int .i64 q.2)) lo hi t (.slice (some ⟨g, 0, none⟩) n c) (X.set k q) := by
  have h1 := h.set (t2s_sets X k hk q.1).1
  have k1 : k < (X.set k (q.1, X[k].2)).length := by simpa using hk
  have h2 := h1.set (t2s_sets _ k k1 q.2).2
  simpa using h2
theorem t2s_zero (n : Nat) : (madeCells (Value.agg #[.int .i64 0, .int .i64 0]).cells (n * 2)).toList = t2s (List.replicate n (0, 0)) := by
  have h1 : (madeCells (Value.agg #[.int .i64 0, .int .i64 0]).cells (n * 2)).toList = List.replicate (n * 2) (.int .i64 0) := by
    rw [List.eq_replicate_iff]
    refine ⟨by simp [madeCells], fun b hb => ?_⟩
    unfold madeCells at hb
    simp only [Array.toList_map, List.mem_map] at hb
    obtain ⟨j, _, rfl⟩ := hb
    have : j % 2 = 0 ∨ j % 2 = 1 := by omega
    rcases this with e | e <;> simp [Value.cells, e]
  have h2 : t2s (List.replicate n (0, 0)) = List.replicate (n * 2) (.int .i64 0) := by
    rw [List.eq_replicate_iff]
    refine ⟨by rw [t2s_len]; simp, fun b hb => ?_⟩
    unfold t2s at hb
    obtain ⟨p, hp, hb⟩ := List.mem_flatMap.1 hb
    rw [(List.mem_replicate.1 hp).2] at hb
    simp at hb
    exact hb
  rw [h1, h2]
end Go.Proofs.Ytjfmpgplbcpakaa
