/- Contracts of the code's LongestGame and CountLoops. No conditions but that the slices have at most 2^40 elements. -/
import Derived.Test.YtjhknafajfpldaaDoorAnsM
import Derived.Test.YtjhknafajfpldaaDoorMg22
namespace Go.Proofs.YtjhknafajfpldaaDoor
open Go.ChangeShapes Go.WideShapes Go.ChangeAt Go.RowKit
set_option maxRecDepth 100000
def selfL (f : Nat → Nat) (k : Nat) : List Nat := (List.range k).filter fun j => (f j).testBit j
theorem selfL_yes {f : Nat → Nat} {k : Nat} (h : (f k).testBit k = true) : (selfL f (k + 1)).length = (selfL f k).length + 1 := by simp [selfL, List.range_succ, h]
theorem selfL_no {f : Nat → Nat} {k : Nat} (h : (f k).testBit k = false) : selfL f (k + 1) = selfL f k := by simp [selfL, List.range_succ, h]
theorem selfL_len (f : Nat → Nat) (k : Nat) : (selfL f k).length ≤ k := Nat.le_trans (List.length_filter_le _ _) (by simp)
theorem loops_code (N : Int) (X : List (List Int)) : loops N X = ((selfL (rf N X) 10).length : Int) := by
  by_cases h : gB N X = true
  · have h0 := h
    obtain ⟨n, rfl, hn, hp, ha⟩ := gB_ok h
    unfold loops
    rw [if_pos h0]
    have key : (X.filter loopP).map (fun x => x.getD 0 0) = (selfL (rf n X) 10).map fun (j : Nat) => (j : Int) := by
      refine sorted_ext lt_irr lt_tr ?_ (range_asc 10 _) fun z => ?_
      · rw [List.pairwise_map, List.pairwise_filter]
        refine List.Pairwise.imp ?_ ha
        intro x y hl h1 h2
        rw [ltP_iff] at hl
        simp only [loopP, beq_iff_eq] at h1 h2
        omega
      · rw [List.mem_map, List.mem_map]
        constructor
        · rintro ⟨x, hx, rfl⟩
          rw [List.mem_filter] at hx
          obtain ⟨p, q, rfl, h1, h2⟩ := hp x hx.1
          have hpq : (p : Int) = (q : Int) := by simpa [loopP] using hx.2
          obtain rfl : p = q := by omega
          exact ⟨p, List.mem_filter.2 ⟨List.mem_range.2 (by omega), (rf_mem h0 hp p p).2 hx.1⟩, rfl⟩
        · rintro ⟨j, hj, rfl⟩
          have hm := (rf_mem h0 hp j j).1 (List.mem_filter.1 hj).2
          exact ⟨_, List.mem_filter.2 ⟨hm, by simp [loopP]⟩, by simp⟩
    have := congrArg List.length key
    rw [List.length_map, List.length_map] at this
    omega
  · have h' : gB N X = false := by simpa using h
    unfold loops
    rw [if_neg h, rf_none h']
    have : selfL (fun _ => 0) 10 = [] := by
      unfold selfL
      rw [List.filter_eq_nil_iff]
      intro j _
      simp
    rw [this]
    rfl
theorem fieldAR {w : World} {n : Int} {f : Nat → Nat} : (Instr.field 49 (.agg (arC n f)) 1).run Tryd.prog w = .ok (.agg (arV f)) w := by kernel_rfl
theorem fieldAR0 {w : World} {n : Int} {f : Nat → Nat} : (Instr.field 49 (.agg (arC n f)) 0).run Tryd.prog w = .ok (.int .i64 n) w := by kernel_rfl
set_option maxHeartbeats 4000000 in
theorem impCountLoops_any {w : World} {A : Option Addr} {n c : Nat} {N : Int} {X : List (List Int)} (hl : Hid (X.length = n)) (hn : n ≤ 1099511627776) (hr : RdSS w w.heap.size A X) :
    Calls Tryd.prog 17 #[.agg #[.int .i64 N, .slice A n c]] w (fun e w' => e = .returned (.int .i64 (loops N X)) ∧ Below w.heap.size w w') := by
  obtain ⟨W1, hW, bx, hb1⟩ : ∃ u : World, u = w.alloc (Obj.cells #[Value.int IntKind.i64 N, Value.slice A n c] 26) ∧ Bx u w.heap.size 26 #[Value.int IntKind.i64 N, Value.slice A n c] ∧ Below w.heap.size w u := ⟨_, rfl, Bx.made _ _ _, alloc_new _ _⟩
  have hW' := hW.symm
  have HR := Lib.hid ((hr.below hb1).more hb1.size)
  obtain ⟨C0, C1⟩ := bx.two
  have HL := Lib.hid (loops_code N X)
  have hfl := rf_lt N X
  clear hW hr
  go_enter Tryd.func17, Tryd.ntmps17
  go_wp2_with fail
  refine (rowsOf_any hl hn HR.out).mono ?_
  rintro e w2 ⟨rfl, hb2⟩
  have hb3 := hb1.trans (hb2.mono hb1.size)
  generalize rf N X = f at hfl HL ⊢
  generalize rn N X = m
  have hfd := @fieldAR
  clear C0 C1 hW'
  go_wp2_with fail
  unfold arV
  go_loopw [3, 9] (fun b i wr => ∃ k : Nat, k ≤ 10 ∧ i = .int .i64 k ∧ b = .int .i64 ((selfL f k).length : Nat) ∧ wr = w2) (fun _ i _ => 10 - (intOf i).toNat)
  case atStart => exact ⟨0, Nat.zero_le _, rfl, rfl, rfl⟩
  case round =>
    obtain ⟨k, hk, rfl, rfl, rfl⟩ := hrel
    have hlk := selfL_len f k
    by_cases hlt : k < 10
    · have hv := arV_at f hlt
      have hfk := hfl k
      have i0 : (0 : Int) ≤ (k : Int) := by omega
      have i1 : (k : Int) < 10 := by omega
      have hidx := idxAR wr hlt hv
      have e1 : inr (k : Int) 0 9 = true := inr_t (by omega) (by omega)
      unfold arV at hidx
      clear hv
      by_cases hb : (f k).testBit k = true
      · have HB := Lib.hid (show (inr (k : Int) 0 9 && (f k).testBit (k : Int).toNat) = true by rw [e1, Int.toNat_natCast, hb]; rfl)
        have HT := Lib.hid (selfL_yes hb)
        obtain ⟨y, hy⟩ : ∃ y, y = (selfL f k).length := ⟨_, rfl⟩
        rw [← hy] at hlk HT ⊢
        clear hy hb e1
        go_wp2_with (go_at_call 44; refine (has_any hfk).mono ?_; rintro e w1 ⟨he, rfl⟩; rw [HB.out] at he; subst he)
        go_roundw
        case rel => exact ⟨k + 1, by omega, by go_num, by rw [HT.out]; go_num, trivial⟩
        case measure => simp [intOf]; omega
      · have hb' : (f k).testBit k = false := by simpa using hb
        have HB := Lib.hid (show (inr (k : Int) 0 9 && (f k).testBit (k : Int).toNat) = false by rw [e1, Int.toNat_natCast, hb']; rfl)
        have HT := Lib.hid (congrArg List.length (selfL_no hb'))
        obtain ⟨y, hy⟩ : ∃ y, y = (selfL f k).length := ⟨_, rfl⟩
        rw [← hy] at hlk HT ⊢
        clear hy hb hb' e1
        go_wp2_with (go_at_call 44; refine (has_any hfk).mono ?_; rintro e w1 ⟨he, rfl⟩; rw [HB.out] at he; subst he)
        go_roundw
        case rel => exact ⟨k + 1, by omega, by go_num, by rw [HT.out], trivial⟩
        case measure => simp [intOf]; omega
    · have e : k = 10 := by omega
      subst e
      go_wp2
      go_ret
      exact ⟨ret_i HL.out.symm, hb3⟩
end Go.Proofs.YtjhknafajfpldaaDoor
