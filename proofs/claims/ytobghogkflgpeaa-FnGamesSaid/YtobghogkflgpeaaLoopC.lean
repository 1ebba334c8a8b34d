/- Contracts of the code's LongestGame and CountLoops. No conditions but that the slices have at most 2^40 elements. -/
import Derived.Test.YtobghogkflgpeaaMg24
import Derived.Test.YtobghogkflgpeaaMg20
namespace Go.Proofs.Ytobghogkflgpeaa
open Go.ChangeShapes Go.WideShapes Go.ChangeAt Go.RowKit
set_option maxRecDepth 100000
def selfL (f : Nat → Nat) (k : Nat) : List Nat := (List.range k).filter fun j => (f j).testBit j
theorem selfL_yes {f : Nat → Nat} {k : Nat} (h : (f k).testBit k = true) : (selfL f (k + 1)).length = (selfL f k).length + 1 := by simp [selfL, List.range_succ, h]
theorem selfL_no {f : Nat → Nat} {k : Nat} (h : (f k).testBit k = false) : selfL f (k + 1) = selfL f k := by simp [selfL, List.range_succ, h]
theorem selfL_len (f : Nat → Nat) (k : Nat) : (selfL f k).length ≤ k := Nat.le_trans (List.length_filter_le _ _) (by simp)
theorem loops_code (N : Int) (X : List (List Int)) : loops N X = ((selfL (rf N X) 10).length : Int) := by
  by_cases h : gB N X = true
  · have h0 := h
    obtain ⟨n, rfl, hn, hp, ha⟩ := gB_ok h
    unfold loops
    rw [if_pos h0]
    have key : (X.filter loopP).map (fun x => x.getD 0 0) = (selfL (rf n X) 10).map fun (j : Nat) => (j : Int) := by
      refine sorted_ext lt_irr lt_tr ?_ (range_asc 10 _) fun z => ?_
      · rw [List.pairwise_map, List.pairwise_filter]
        refine List.Pairwise.imp ?_ ha
        intro x y hl h1 h2
        rw [ltP_iff] at hl
        simp only [loopP, beq_iff_eq] at h1 h2
        omega
      · rw [List.mem_map, List.mem_map]
        constructor
        · rintro ⟨x, hx, rfl⟩
          rw [List.mem_filter] at hx
          obtain ⟨p, q, rfl, h1, h2⟩ := hp x hx.1
          have hpq : (p : Int) = (q : Int) := by simpa [loopP] using hx.2
          obtain rfl : p = q := by omega
          exact ⟨p, List.mem_filter.2 ⟨List.mem_range.2 (by omega), (rf_mem h0 hp p p).2 hx.1⟩, rfl⟩
        · rintro ⟨j, hj, rfl⟩
          have hm := (rf_mem h0 hp j j).1 (List.mem_filter.1 hj).2
          exact ⟨_, List.mem_filter.2 ⟨hm, by simp [loopP]⟩, by simp⟩
    have := congrArg List.length key
    rw [List.length_map, List.length_map] at this
    omega
  · have h' : gB N X = false := by simpa using h
    unfold loops
    rw [if_neg h, rf_none h']
    have : selfL (fun _ => 0) 10 = [] := by
      unfold selfL
      rw [List.filter_eq_nil_iff]
      intro j _
      simp
    rw [this]
    rfl
set_option maxHeartbeats 4000000 in
theorem impLongestGame_any {w : World} {A : Option Addr} {n c : Nat} {N : Int} {X : List (List Int)} (hl : Hid (X.length = n)) (hn : n ≤ 1099511627776) (hr : RdSS w w.heap.size A X) :
    Calls Try.prog 25 #[.agg #[.int .i64 N, .slice A n c]] w (fun e w' => e = .returned (.int .i64 (lonG N X)) ∧ Below w.heap.size w w') := by
  obtain ⟨W1, hW, bx, hb1⟩ : ∃ u : World, u = w.alloc (Obj.cells #[Value.int IntKind.i64 N, Value.slice A n c] 27) ∧ Bx u w.heap.size 27 #[Value.int IntKind.i64 N, Value.slice A n c] ∧ Below w.heap.size w u := ⟨_, rfl, Bx.made _ _ _, alloc_new _ _⟩
  have hW' := hW.symm
  have HR := Lib.hid ((hr.below hb1).more hb1.size)
  obtain ⟨C0, C1⟩ := bx.two
  clear hW hr
  by_cases hg : gB N X = true
  · obtain ⟨m, rfl, hm, _⟩ := gB_ok hg
    have HL := Lib.hid (show lonG m X = 2 * (m : Int) by unfold lonG; rw [if_pos hg])
    have HG := Lib.hid hg
    clear hg
    go_enter Try.func25, Try.ntmps25
    go_wp2_with fail
    refine (impIsGraph_any (N := m) (X := X) (c := c) hl hn HR.out).mono ?_
    rintro e w3 ⟨rfl, hb3⟩
    rw [HG.out]
    obtain ⟨D0, D1⟩ := (bx.new hb3).two
    go_wp2_with fail
    go_ret
    exact ⟨ret_i (by rw [HL.out]), hb1.trans (hb3.mono hb1.size)⟩
  · have hg' : gB N X = false := by simpa using hg
    have HL := Lib.hid (show lonG N X = 0 by unfold lonG; rw [if_neg hg])
    have HG := Lib.hid hg'
    clear hg hg'
    go_enter Try.func25, Try.ntmps25
    go_wp2_with fail
    refine (impIsGraph_any (N := N) (X := X) (c := c) hl hn HR.out).mono ?_
    rintro e w3 ⟨rfl, hb3⟩
    rw [HG.out]
    go_wp2_with fail
    go_ret
    exact ⟨ret_i (by rw [HL.out]), hb1.trans (hb3.mono hb1.size)⟩
theorem fieldAR {w : World} {n : Int} {f : Nat → Nat} : (Instr.field 70 (.agg (arC n f)) 1).run Try.prog w = .ok (.agg (arV f)) w := by kernel_rfl
theorem fieldAR0 {w : World} {n : Int} {f : Nat → Nat} : (Instr.field 70 (.agg (arC n f)) 0).run Try.prog w = .ok (.int .i64 n) w := by kernel_rfl
end Go.Proofs.Ytobghogkflgpeaa
