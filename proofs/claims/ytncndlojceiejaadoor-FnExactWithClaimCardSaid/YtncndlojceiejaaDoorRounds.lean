/- Contracts of the code's rounds (an iterator) and grounded. Conditions: at most 10 claims, rows below 2^16. -/
import Derived.Test.YtncndlojceiejaaDoorFreeC
import Derived.Test.YtncndlojceiejaaDoorGroundM
import Derived.RangeFuncNested
import Derived.RangeFuncBound
import Derived.RangeFuncCalls
import Derived.RangeFuncLeaves
import Derived.Shelf.Abstract
import Derived.Shelf.RegionOpen
import Derived.OwnWalkIn
import Derived.TacticsInMore
import Derived.LoopNIn
import Derived.LoopIn
namespace Go.Proofs.YtncndlojceiejaaDoor
open Go.ChangeShapes Go.WideShapes Go.ChangeAt Go.RowKit Go.Shelf
attribute [local go_sem] Oper.semAt_some
set_option maxRecDepth 100000
theorem grown_new {a w : World} (h : Below a.heap.size a w) (r : Option Nat) : a.grownBy w r := ⟨h.os, h.tape, h.output, h.size, fun i hi _ => h.block i hi⟩
theorem itS_many (N : Int) (X : List (List Int)) : ∀ k, (∀ j, j < k → itS N X (j + 1) ≠ itS N X j) → k ≤ (itS N X k).length
  | 0, _ => Nat.zero_le _
  | k + 1, h => by
    have ih := itS_many N X k (fun j hj => h j (by omega))
    have := it_grow' (h k (by omega))
    omega
/-- After how many rounds nothing changes. -/
theorem stop_ex (N : Int) (X : List (List Int)) : ∃ K, K ≤ 10 ∧ itB (rn N X) (rf N X) (K + 1) = itB (rn N X) (rf N X) K ∧ ∀ j, j < K → itB (rn N X) (rf N X) (j + 1) ≠ itB (rn N X) (rf N X) j := by
  have key : ∀ k, (∃ K, K < k ∧ itS N X (K + 1) = itS N X K ∧ ∀ j, j < K → itS N X (j + 1) ≠ itS N X j) ∨ ∀ j, j < k → itS N X (j + 1) ≠ itS N X j := by
    intro k
    induction k with
    | zero => exact .inr fun j hj => absurd hj (by omega)
    | succ k ih =>
      rcases ih with ⟨K, h1, h2, h3⟩ | h
      · exact .inl ⟨K, by omega, h2, h3⟩
      · by_cases e : itS N X (k + 1) = itS N X k
        · exact .inl ⟨k, by omega, e, h⟩
        · refine .inr fun j hj => ?_
          rcases Nat.lt_succ_iff_lt_or_eq.1 hj with h1 | rfl
          · exact h j h1
          · exact e
  rcases key 11 with ⟨K, h1, h2, h3⟩ | h
  · exact ⟨K, by omega, (itB_eq N X _ _).2 h2, fun j hj e => h3 j hj ((itB_eq N X _ _).1 e)⟩
  · have := itS_many N X 11 h
    have := it_len10 N X 11
    omega
/-- What a round hands over. -/
abbrev encR (m : Int) (f : Nat → Nat) (k : Nat) : Array Value := #[.int .i64 ((k : Int) + 1), .int .u16 (itB m f (k + 1) : Nat)]
theorem itB_lt {m : Int} (h : m ≤ 10) (f : Nat → Nat) : ∀ k, itB m f k < 1024
  | 0 => by simp [itB]
  | k + 1 => dB_lt h f _
theorem rounds_any {w : World} {m : Int} {f : Nat → Nat} : Calls Tryd.prog 59 #[.agg (arC m f)] w (fun e w' => e = .returned (.func (.func 72) #[] #[.pointer (some ⟨w.heap.size, 0, none⟩)]) ∧ w' = w.alloc (Obj.cells (arC m f) 59)) := by
  go_enter Tryd.func59, Tryd.ntmps59
  go_wp2_with fail
  go_ret
  exact ⟨rfl, rfl⟩
set_option maxHeartbeats 4000000 in
theorem rounds1_in (n : Nat) (hn : 1 ≤ n) (l Bn : Nat) {m : Int} {f : Nat → Nat} (r0 : 0 ≤ m) (r1 : m ≤ 10) (hf : ∀ a, f a < 65536) {K : Nat} (hK10 : K ≤ 10) (hK : itB m f (K + 1) = itB m f K) (hgrow : ∀ j, j < K → itB m f (j + 1) ≠ itB m f j)
    (J Jx : List Nat → World → Prop) (W : World) (hBn : Bx W Bn 59 (arC m f)) (hJ : AbidesFrom W.heap.size J)
    (hY : ∀ pre x W1, J pre W1 → pre.length < K → YieldAt Fence.wide (n - 1) Tryd.prog l (encR m f x) W1 fun e W' =>
      (e = .returned (.bool true) ∧ J (pre ++ [x]) W' ∧ W'.heap[Bn]? = W1.heap[Bn]?) ∨ (e = .returned (.bool false) ∧ Jx (pre ++ [x]) W')) (h0 : J [] W) :
    CallsIn Fence.wide n Tryd.prog 72 #[.func (.yield l) #[] #[], .pointer (some ⟨Bn, 0, none⟩)] W fun e W' => (∃ v, e = .returned v) ∧
      ((∃ xs, xs = List.range K ∧ J xs W') ∨ (∃ pre, (∃ j, j ≤ K ∧ pre = List.range j) ∧ Jx pre W')) := by
  refine callsIn_of_wp Tryd.func72 rfl trivial ?_ rfl
  simp only [Tryd.ntmps72, List.size_toArray, List.length_cons, List.length_nil, Nat.reduceAdd, Nat.reduceSub, Array.replicate_succ, Array.replicate_zero, List.push_toArray, List.append_toArray, List.nil_append, List.cons_append]
  gi_wp2
  gi_loopw [3, 4] (fun x i wr => ∃ k : Nat, k ≤ K ∧ x = .int .u16 (itB m f k : Nat) ∧ i = .int .i64 ((k : Int) + 1) ∧ J (List.range k) wr ∧ Bx wr Bn 59 (arC m f))
    (fun _ i _ => K + 2 - (intOf i).toNat)
  case atStart => exact ⟨0, Nat.zero_le _, rfl, rfl, h0, hBn⟩
  case round =>
    obtain ⟨k, hk, rfl, rfl, hJk, hbk⟩ := hrel
    obtain ⟨c0, c1, c2, c3, c4, c5, c6, c7, c8, c9, c10⟩ := hbk.eleven
    have hx : itB m f k < 65536 := Nat.lt_trans (itB_lt r1 f k) (by decide)
    have HS := Lib.hid (show dB m f (itB m f k) = itB m f (k + 1) from rfl)
    by_cases hkK : k = K
    · subst hkK
      have HE := Lib.hid hK
      generalize itB m f (k + 1) = y at *
      generalize itB m f k = x at *
      gi_wp2_with (refine ⟨trivial, ?_⟩; gi_at_call 73; refine (callsIn_wide.2 (defBits_any (n := m) r0 r1 hf hx)).mono ?_; rintro e w9 ⟨rfl, hb9⟩; rw [HS.out, HE.out])
      refine ⟨fun _ h => (by cases h), ?_⟩
      gi_wp2
      refine bodyPost_ret (results_none rfl _ _ _) rfl ?_
      exact ⟨⟨_, rfl⟩, .inl ⟨_, rfl, hJ _ _ _ none hJk (grown_new hb9 none) (fun r e => by cases e)⟩⟩
    · have hne := hgrow k (by omega)
      have hlt : k < K := by omega
      obtain ⟨x, hxx⟩ : ∃ x, x = itB m f k := ⟨_, rfl⟩
      obtain ⟨y, hyy⟩ : ∃ y, y = itB m f (k + 1) := ⟨_, rfl⟩
      have HY := Lib.hid (fun W1 h => hY (List.range k) k W1 h (by simp; exact hlt))
      unfold encR at HY
      rw [← hxx, ← hyy] at hne
      rw [← hxx] at hx ⊢
      rw [← hxx, ← hyy] at HS
      rw [← hyy] at HY
      have hne' : ¬ ((y : Int) = (x : Int)) := by omega
      have i1 : IntKind.i64.wrap ((k : Int) + 1 + 1) = (k : Int) + 1 + 1 := IntWalk.i64_in _ (by omega)
      have hyb : ((y : Int) == (x : Int)) = false := beq_eq_false_iff_ne.2 hne'
      have HYY := Lib.hid hyy
      clear hxx hyy
      gi_wp2_with fail
      refine ⟨trivial, ?_⟩
      refine (callsIn_wide.2 (defBits_any (n := m) r0 r1 hf hx)).mono ?_
      rintro e w9 ⟨rfl, hb9⟩
      rw [HS.out]
      have hJ9 := hJ _ _ _ none hJk (grown_new hb9 none) (fun r e => by cases e)
      have hb10 := hbk.new hb9
      obtain ⟨fn, tmps, assign, body, hy, hR⟩ := HY.out w9 hJ9
      clear HY c0 c1 c2 c3 c4 c5 c6 c7 c8 c9 c10
      gi_wp2
      refine hR.mono ?_
      rintro e W3 (⟨rfl, hJ3, hk3⟩ | ⟨rfl, hJx3⟩)
      · gi_wp2
        go_roundw
        case rel => exact ⟨k + 1, by omega, by rw [HYY.out], by go_num, by rw [List.range_succ]; exact hJ3, hk3.trans hb10⟩
        case measure => simp [intOf]; omega
      · gi_wp2
        refine bodyPost_ret (results_none rfl _ _ _) rfl ?_
        exact ⟨⟨_, rfl⟩, .inr ⟨List.range k ++ [k], ⟨k + 1, by omega, by rw [List.range_succ]⟩, hJx3⟩⟩
end Go.Proofs.YtncndlojceiejaaDoor
