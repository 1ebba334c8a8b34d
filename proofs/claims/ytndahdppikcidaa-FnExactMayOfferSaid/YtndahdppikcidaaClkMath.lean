/- Sums of chapter 14, without code: the clock; and all that its law says. A slot is (Who, Limit, Used). -/
import Derived.Test.YtndahdppikcidaaBurMath
namespace Go.Proofs.Ytndahdppikcidaa
def slB (s : T3) : Bool := inr s.1 1 99 && inr s.2.1 1 1000 && inr s.2.2 0 (s.2.1 + 15)
def spkK (s : T3) (n : Int) : Int := if slB s && decide (0 ≤ n) then min n (s.2.1 + 15 - s.2.2) else 0
def spkS (s : T3) (n : Int) : T3 := (s.1, s.2.1, s.2.2 + spkK s n)
def lefN (s : T3) : Int := if slB s then max 0 (s.2.1 - s.2.2) else 0
def ovrN (s : T3) : Int := if slB s then max 0 (s.2.2 - s.2.1) else 0
def belL (s : T3) : List Int := if slB s then (if 120 < s.2.1 then [60, s.2.1 - 60] else []) ++ [s.2.1, s.2.1 + 15] else []
def totP (w : Int) (s : T3) : Int := if s.1 = w ∧ slB s = true then s.2.2 else 0
def totN (l : List T3) (w : Int) : Int := l.foldl (fun n s => n + totP w s) 0
theorem sl_parts {s : T3} (h : slB s = true) : (1 ≤ s.1 ∧ s.1 ≤ 99) ∧ (1 ≤ s.2.1 ∧ s.2.1 ≤ 1000) ∧ 0 ≤ s.2.2 ∧ s.2.2 ≤ s.2.1 + 15 := by
  unfold slB at h
  simp only [Bool.and_eq_true] at h
  exact ⟨inrI h.1.1, inrI h.1.2, inrI h.2⟩
theorem spk_pos (s : T3) (n : Int) : 0 ≤ spkK s n := by
  unfold spkK
  split
  · rename_i h
    rw [Bool.and_eq_true, decide_eq_true_iff] at h
    obtain ⟨_, _, _, _⟩ := sl_parts h.1
    omega
  · omega
theorem spk_sl {s : T3} {n : Int} (h : slB s = true) : slB (spkS s n) = true ∧ (0 ≤ n → spkK s n ≤ n) := by
  obtain ⟨⟨a1, a2⟩, ⟨b1, b2⟩, c1, c2⟩ := sl_parts h
  have hk : 0 ≤ spkK s n ∧ spkK s n ≤ s.2.1 + 15 - s.2.2 := by
    refine ⟨spk_pos s n, ?_⟩
    unfold spkK
    split <;> omega
  refine ⟨?_, fun hn => ?_⟩
  · unfold slB spkS
    simp only [Bool.and_eq_true]
    exact ⟨⟨inrJ a1 a2, inrJ b1 b2⟩, inrJ (by omega) (by omega)⟩
  · unfold spkK
    rw [h, decide_eq_true hn]
    simp only [Bool.and_self, if_true]
    omega
theorem lef_ovr {s : T3} (h : slB s = true) : lefN s - ovrN s = s.2.1 - s.2.2 := by
  unfold lefN ovrN
  rw [if_pos h, if_pos h]
  omega
theorem bel_asc (s : T3) : (belL s).Pairwise (· < ·) := by
  unfold belL
  split
  · rename_i h
    obtain ⟨_, ⟨b1, b2⟩, _⟩ := sl_parts h
    split
    · simp
      omega
    · simp
      omega
  · simp
theorem bel_len (s : T3) : decide (0 < (belL s).length) = slB s ∧ (belL s).length ≤ 4 := by
  unfold belL
  cases h : slB s with
  | true =>
    simp only [if_true]
    split <;> simp
  | false => simp
theorem totP_pos (w : Int) (s : T3) : 0 ≤ totP w s ∧ totP w s ≤ 1015 := by
  unfold totP
  split
  · rename_i h
    obtain ⟨_, _, _, _⟩ := sl_parts h.2
    omega
  · omega
theorem tot_from (w : Int) : ∀ (l : List T3) (n : Int), n ≤ l.foldl (fun n s => n + totP w s) n ∧ l.foldl (fun n s => n + totP w s) n ≤ n + 1015 * (l.length : Int)
  | [], n => by simp
  | s :: l, n => by
    have h := tot_from w l (n + totP w s)
    have := totP_pos w s
    rw [List.foldl_cons, List.length_cons]
    omega
theorem tot_pos (l : List T3) (w : Int) : 0 ≤ totN l w := (tot_from w l 0).1
end Go.Proofs.Ytndahdppikcidaa
