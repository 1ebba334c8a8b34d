/- Contracts of the code's IsFree, IsAdmissible, IsStable, IsComplete. No conditions but that the slices have at most 2^40 elements. -/
import Derived.Test.YtncndlojceiejaaDoorFault
namespace Go.Proofs.YtncndlojceiejaaDoor
open Go.ChangeShapes Go.WideShapes Go.ChangeAt Go.RowKit
set_option maxRecDepth 100000
theorem flt_free {N : Int} {X : List (List Int)} {S : List Int} (h : freeB N X S = true) : flt N X S = .nilIface := by
  have hs := free_set h
  unfold flt
  rw [setB_g hs, hs, if_pos rfl, if_pos rfl, quarrel_code hs]
  unfold freeB at h
  rw [Bool.and_eq_true, Bool.not_eq_true'] at h
  rw [h.1]
  rfl
theorem flt_not {N : Int} {X : List (List Int)} {S : List Int} (h : freeB N X S = false) : ∃ k : Int, flt N X S = .iface 84 (.int .i64 k) ∧ (setB N X S = true ↔ k = 2) := by
  unfold flt
  by_cases hg : gB N X = true
  · rw [if_pos hg]
    by_cases hs : setB N X S = true
    · rw [if_pos hs, quarrel_code hs]
      unfold freeB at h
      rw [hs, Bool.and_true, Bool.not_eq_false'] at h
      rw [h]
      exact ⟨2, rfl, by simp [hs]⟩
    · rw [if_neg hs]
      exact ⟨1, rfl, by simp [hs]⟩
  · rw [if_neg hg]
    have : setB N X S = false := by unfold setB; rw [show gB N X = false by simpa using hg]; rfl
    exact ⟨0, rfl, by rw [this]; simp⟩
theorem cast_beq0 (q : Nat) : ((q : Int) == 0) = (q == 0) := by rw [Bool.eq_iff_iff, beq_iff_eq, beq_iff_eq]; omega
theorem cast_beq (p q : Nat) : ((p : Int) == (q : Int)) = (p == q) := by rw [Bool.eq_iff_iff, beq_iff_eq, beq_iff_eq]; omega
theorem rdSS_new {a b : World} {A : Option Addr} {X : List (List Int)} (h : RdSS a a.heap.size A X) (hb : Below a.heap.size a b) : RdSS b b.heap.size A X := (h.below hb).more hb.size
theorem rd_new {a b : World} {A : Option Addr} {xs : List Value} (h : Rd a a.heap.size A xs) (hb : Below a.heap.size a b) : Rd b b.heap.size A xs := (h.below hb).more hb.size
theorem stab_new {w w' : World} {g gg : Nat} {t tt : TypeId} {n : Int} {f : Nat → Nat} {u v : Value} (hh : Bx w gg tt #[u, v]) (h : Bx w g t (arC n f)) (hb : Below w.heap.size w w') :
    Below w.heap.size w w' ∧ w'.cell? ⟨gg, 0, none⟩ = some u ∧ w'.cell? ⟨gg, 1, none⟩ = some v ∧ w'.cell? ⟨g, 0, none⟩ = some (.int .i64 n) ∧ w'.cell? ⟨g, 1, none⟩ = some (.int .u16 (f 0 : Nat)) ∧ w'.cell? ⟨g, 2, none⟩ = some (.int .u16 (f 1 : Nat)) ∧ w'.cell? ⟨g, 3, none⟩ = some (.int .u16 (f 2 : Nat)) ∧ w'.cell? ⟨g, 4, none⟩ = some (.int .u16 (f 3 : Nat)) ∧ w'.cell? ⟨g, 5, none⟩ = some (.int .u16 (f 4 : Nat)) ∧ w'.cell? ⟨g, 6, none⟩ = some (.int .u16 (f 5 : Nat)) ∧ w'.cell? ⟨g, 7, none⟩ = some (.int .u16 (f 6 : Nat)) ∧ w'.cell? ⟨g, 8, none⟩ = some (.int .u16 (f 7 : Nat)) ∧ w'.cell? ⟨g, 9, none⟩ = some (.int .u16 (f 8 : Nat)) ∧ w'.cell? ⟨g, 10, none⟩ = some (.int .u16 (f 9 : Nat)) :=
  ⟨hb, (hh.new hb).two.1, (hh.new hb).two.2, (h.new hb).eleven⟩
theorem comp_code {N : Int} {X : List (List Int)} {S : List Int} (hf : freeB N X S = true) : (bS S == dB (rn N X) (rf N X) (bS S)) = compB N X S := by
  have hs := free_set hf
  have h := setB_g hs
  unfold compB
  rw [hf, Bool.true_and, dB_bS hs]
  obtain ⟨n, rfl, hn, hp, _⟩ := gB_ok h
  by_cases e : defL n X S = S
  · rw [e, decide_eq_true rfl]; simp
  · rw [decide_eq_false e, beq_eq_false_iff_ne]
    intro e'
    have : lsT (bS S) 10 = lsT (bS (defL n X S)) 10 := by rw [e']
    rw [show lsT (bS S) 10 = S from lsT_bS h hn hs, show lsT (bS (defL n X S)) 10 = defL n X S from lsT_bS h hn (defL_set h hp)] at this
    exact e this.symm
section
variable {w : World} {A A' : Option Addr} {n c n' c' : Nat} {N : Int} {X : List (List Int)} {S : List Int} (hl : Hid (X.length = n)) (hn : n ≤ 1099511627776) (hr : RdSS w w.heap.size A X) (hl' : Hid (S.length = n')) (hn' : n' ≤ 1099511627776) (hr' : Rd w w.heap.size A' (ivs S))
include hl hn hr hl' hn' hr'
end
end Go.Proofs.YtncndlojceiejaaDoor
