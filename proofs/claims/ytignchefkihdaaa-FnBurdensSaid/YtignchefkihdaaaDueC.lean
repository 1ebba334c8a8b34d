/- Contracts of the code's speakerAt and dueReplies (an iterator). Conditions: the points have at most 2^40 elements. -/
import Derived.Test.YtignchefkihdaaaDueMath
import Derived.Test.YtignchefkihdaaaPntC
import Derived.RangeFuncNested
import Derived.RangeFuncBound
import Derived.RangeFuncCalls
import Derived.RangeFuncLeaves
import Derived.RangeFuncFrom
import Derived.Shelf.Abstract
import Derived.Shelf.RegionOpen
import Derived.OwnWalkIn
import Derived.TacticsInMore
import Derived.LoopNIn
import Derived.LoopIn
namespace Go.Proofs.Ytignchefkihdaaa
open Go.ChangeShapes Go.WideShapes Go.ChangeAt Go.RowKit Go.Shelf
attribute [local go_sem] Oper.semAt_some
set_option maxRecDepth 100000
theorem grown_nw {a w : World} (h : Below a.heap.size a w) (r : Option Nat) : a.grownBy w r := ⟨h.os, h.tape, h.output, h.size, fun i hi _ => h.block i hi⟩
set_option maxHeartbeats 1000000 in
theorem speakerAt_any {w : World} {a b c : Int} (hp : ptOk (a, b, c) = true) : Calls Try.prog 91 #[.agg #[.int .i64 a, .int .i64 b, .int .i64 c]] w (fun e w' => e = .returned (.int .i64 (spkA (a, b, c))) ∧ Below w.heap.size w w') := by
  have hw : 1 ≤ b ∧ b ≤ 2 := by
    unfold ptOk at hp
    simp only [Bool.and_eq_true] at hp
    exact inrI hp.1.2
  obtain ⟨W1, hW, bx, hb1, hz⟩ := box3 w 48 (.int .i64 a) (.int .i64 b) (.int .i64 c)
  have HW := Lib.hid hW
  obtain ⟨c0, c1, c2⟩ := bx.cells3 (Below.refl _ _)
  have w3 := IntWalk.i64_in (3 - b) (by omega)
  clear hW hp
  by_cases s0 : c = 0
  · subst s0
    have HV := Lib.hid (show spkA (a, b, 0) = 3 - b from rfl)
    have HO : Hid (∀ w : World, Calls Try.prog 138 #[.int .i64 b] w (fun e w' => e = .returned (.int .i64 (3 - b)) ∧ w = w')) := Lib.hid (fun w => by
      clear c0 c1 c2 HW bx hb1 hz
      go_enter Try.func138, Try.ntmps138
      go_wp2_with fail
      go_ret
      exact ⟨rfl, rfl⟩)
    go_enter Try.func91, Try.ntmps91
    go_wp2_with fail
    rw [HW.out]
    try (go_wp2_with fail)
    refine (HO.out _).mono ?_
    rintro e u ⟨rfl, rfl⟩
    go_wp2_with fail
    go_ret
    exact ⟨ret_i HV.out.symm, hb1⟩
  · have e0 : (c == 0) = false := by simpa using s0
    by_cases s2 : c = 2
    · subst s2
      have HV := Lib.hid (show spkA (a, b, 2) = b from rfl)
      go_enter Try.func91, Try.ntmps91
      go_wp2_with fail
      try rw [HW.out]
      try (go_wp2_with fail)
      go_ret
      exact ⟨ret_i HV.out.symm, by first | exact hb1 | exact alloc_new' _ _⟩
    · have e2 : (c == 2) = false := by simpa using s2
      have HV := Lib.hid (show spkA (a, b, c) = 0 by unfold spkA; rw [if_neg s0, if_neg s2])
      go_enter Try.func91, Try.ntmps91
      go_wp2_with fail
      try rw [HW.out]
      try (go_wp2_with fail)
      go_ret
      exact ⟨ret_i HV.out.symm, by first | exact hb1 | exact alloc_new' _ _⟩
theorem due_any {w : World} {A : Option Addr} {n c : Nat} : Calls Try.prog 94 #[.slice A n c] w (fun e w' => e = .returned (.func (.func 140) #[] #[.pointer (some ⟨w.heap.size, 0, none⟩)]) ∧ w' = w.alloc (Obj.cells #[.slice A n c] 35)) := by
  go_enter Try.func94, Try.ntmps94
  go_wp2_with fail
  go_ret
  exact ⟨rfl, rfl⟩
/-- What a round hands over. -/
abbrev encD (x : T3) : Array Value := #[.int .i64 (spkA x), .int .i64 x.1]
set_option maxHeartbeats 4000000 in
theorem due1_in (n : Nat) (hn : 1 ≤ n) (l Bn n₀ : Nat) {A : Option Addr} {N cc : Nat} {X : List T3} (hl : Hid (X.length = N)) (hN : N ≤ 1099511627776) (J Jx : List T3 → World → Prop) (W : World) (hBn : W.cell? ⟨Bn, 0, none⟩ = some (.slice A N cc)) (hr : Rd W n₀ A (t3s X)) (hn0 : n₀ ≤ W.heap.size) (hJ : AbidesFrom W.heap.size J)
    (hY : ∀ pre x W1, J pre W1 → pre.length < N → YieldAt Fence.wide (n - 1) Try.prog l (encD x) W1 fun e W' =>
      (e = .returned (.bool true) ∧ J (pre ++ [x]) W' ∧ Below n₀ W1 W') ∨ (e = .returned (.bool false) ∧ Jx (pre ++ [x]) W')) (h0 : J [] W) :
    CallsIn Fence.wide n Try.prog 140 #[.func (.yield l) #[] #[], .pointer (some ⟨Bn, 0, none⟩)] W fun e W' => (∃ v, e = .returned v) ∧
      ((∃ ys, ys = dueL X ∧ J ys W') ∨ (∃ pre, pre <+: dueL X ∧ Jx pre W')) := by
  refine callsIn_of_wp Try.func140 rfl trivial ?_ rfl
  simp only [Try.ntmps140, List.size_toArray, List.length_cons, List.length_nil, Nat.reduceAdd, Nat.reduceSub, Array.replicate_succ, Array.replicate_zero, List.push_toArray, List.append_toArray, List.nil_append, List.cons_append]
  have HR := Lib.hid hr
  have HY := Lib.hid hY
  have HJ := Lib.hid hJ
  clear hr hY hJ
  cases hb : ptB X with
  | false =>
    have HB := Lib.hid hb
    have HD := Lib.hid (show dueL X = [] by unfold dueL; rw [hb]; rfl)
    clear hb
    gi_wp2_with fail
    refine ⟨trivial, ?_⟩
    refine (callsIn_wide.2 (impArePoints_any (X := X) hl hN (HR.out.more hn0))).mono ?_
    rintro e w9 ⟨rfl, hb9⟩
    rw [HB.out]
    gi_wp2
    refine bodyPost_ret (results_none rfl _ _ _) rfl ?_
    exact ⟨⟨_, rfl⟩, .inl ⟨_, HD.out.symm, HJ.out _ _ _ none h0 (grown_nw hb9 none) (fun r e => by cases e)⟩⟩
  | true =>
    have HB := Lib.hid hb
    have HD := Lib.hid (show dueL X = dueF X by unfold dueL; rw [if_pos hb])
    clear hb
    gi_wp2_with fail
    refine ⟨trivial, ?_⟩
    refine (callsIn_wide.2 (impArePoints_any (X := X) hl hN (HR.out.more hn0))).mono ?_
    rintro e w9 ⟨rfl, hb9⟩
    rw [HB.out]
    have h9 := HJ.out _ _ _ none h0 (grown_nw hb9 none) (fun r e => by cases e)
    have hBn9 := cell_nw hb9 hBn
    have hk9 : Below n₀ W w9 := hb9.mono hn0
    have HPT := Lib.hid (ptB_iff.1 HB.out).1
    have hs9 := hb9.size
    clear h0 hBn hb9
    gi_wp2_with fail
    gi_loopw [11] (fun i wr => ∃ k : Nat, k ≤ N ∧ i = .int .i64 k ∧ J (dueF (X.take k)) wr ∧ Below n₀ W wr ∧ W.heap.size ≤ wr.heap.size) (fun i _ => N - (intOf i).toNat)
    case atStart => exact ⟨0, Nat.zero_le _, rfl, h9, hk9, hs9⟩
    case round =>
      obtain ⟨k, hk, rfl, hJk, hbk, hsz⟩ := hrel
      clear h9 hk9 hBn9 hs9
      by_cases hlt : k < N
      · have hkz : k < X.length := by rw [hl.out]; exact hlt
        have i0 : (0 : Int) ≤ (k : Int) := by omega
        have i1 : (k : Int) < (N : Int) := by omega
        have hrr := (HR.out.below hbk).more (Nat.le_trans hn0 hsz)
        obtain ⟨ad, p, rfl, hp, hab, c0, c1, c2⟩ := t3_cells hrr hkz
        have HS := Lib.hid (dueF_snoc X hkz)
        have HK := Lib.hid (dueF_lt X hkz)
        have HO := Lib.hid (HPT.out k hkz)
        obtain ⟨x, hx⟩ : ∃ x, x = X[k] := ⟨_, rfl⟩
        rw [← hx] at c0 c1 c2 HS HO
        obtain ⟨W1, hW, bx, hb1, hz⟩ := box3 wr 48 (.int .i64 x.1) (.int .i64 x.2.1) (.int .i64 x.2.2)
        have HW := Lib.hid hW
        obtain ⟨d0, d1, d2⟩ := bx.cells3 (Below.refl _ _)
        obtain ⟨G, hG⟩ : ∃ G, wr.heap.size = G := ⟨_, rfl⟩
        have HG := Lib.hid hG
        clear hx hW hz hrr hG
        gi_wp2_with fail
        refine ⟨trivial, ?_⟩
        rw [HW.out]
        rw [HG.out]
        refine (callsIn_wide.2 (speakerAt_any HO.out)).mono ?_
        rintro e u ⟨rfl, r⟩
        have q1 : Below wr.heap.size wr u := hb1.trans (r.mono hb1.size)
        have hJu := HJ.out _ _ _ none hJk (grown_nw q1 none) (fun r e => by cases e)
        rw [HG.out] at bx
        obtain ⟨d0, d1, d2⟩ := bx.cells3 r
        have hbu : Below n₀ W u := hbk.trans (q1.mono (Nat.le_trans hn0 hsz))
        have hsu : W.heap.size ≤ u.heap.size := Nat.le_trans hsz q1.size
        clear c0 c1 c2 hJk hbk hsz q1 hab hp bx r hb1
        by_cases h0 : spkA x = 0
        · rw [if_pos h0] at HS
          have hn' : (spkA x != 0) = false := by simpa using h0
          rw [h0]
          gi_wp2_with fail
          refine ⟨fun _ h => (by cases h), ?_⟩
          gi_wp2
          go_roundw
          case rel => exact ⟨k + 1, by omega, by go_num, by rw [HS.out]; exact hJu, hbu, hsu⟩
          case measure => simp [intOf]; omega
        · rw [if_neg h0] at HS
          obtain ⟨sp, hsp⟩ : ∃ y, spkA x = y := ⟨_, rfl⟩
          have HYY := HY.out _ x u hJu (by rw [← hl.out]; exact HK.out)
          unfold encD at HYY
          rw [hsp] at h0 HYY ⊢
          have hn' : (sp != 0) = true := by simpa using h0
          obtain ⟨fn, tmps, assign, body, hy, hR⟩ := HYY
          clear hsp
          gi_wp2
          refine hR.mono ?_
          rintro e W3 (⟨rfl, hJ3, hk3⟩ | ⟨rfl, hJx3⟩)
          · gi_wp2
            go_roundw
            case rel => exact ⟨k + 1, by omega, by go_num, by rw [HS.out]; exact hJ3, hbu.trans hk3, Nat.le_trans hsu hk3.size⟩
            case measure => simp [intOf]; omega
          · gi_wp2
            refine bodyPost_ret (results_none rfl _ _ _) rfl ?_
            exact ⟨⟨_, rfl⟩, .inr ⟨dueF (X.take k) ++ [x], by rw [HD.out, ← HS.out]; exact dueF_pre X (k + 1), hJx3⟩⟩
      · have e : k = N := by omega
        subst e
        have HT := Lib.hid (show dueF (X.take k) = dueF X by rw [List.take_of_length_le (by rw [hl.out]; exact Nat.le_refl _)])
        rw [HT.out] at hJk
        gi_wp2
        go_end0
        exact ⟨⟨_, rfl⟩, .inl ⟨_, HD.out.symm, hJk⟩⟩
end Go.Proofs.Ytignchefkihdaaa
