/- Contracts of the code's rounds (an iterator) and grounded. Conditions: at most 10 claims, rows below 2^16. -/
import Derived.Test.YtjhknafajfpldaaDoorMg22
import Derived.Test.YtjhknafajfpldaaDoorMg23
import Derived.RangeFuncNested
import Derived.RangeFuncBound
import Derived.RangeFuncCalls
import Derived.RangeFuncLeaves
import Derived.Shelf.Abstract
import Derived.Shelf.RegionOpen
import Derived.OwnWalkIn
import Derived.TacticsInMore
import Derived.LoopNIn
import Derived.LoopIn
import Derived.RangeFuncFrom
namespace Go.Proofs.YtjhknafajfpldaaDoor
open Go.ChangeShapes Go.WideShapes Go.ChangeAt Go.RowKit Go.Shelf
attribute [local go_sem] Oper.semAt_some
set_option maxRecDepth 100000
theorem grown_new {a w : World} (h : Below a.heap.size a w) (r : Option Nat) : a.grownBy w r := ⟨h.os, h.tape, h.output, h.size, fun i hi _ => h.block i hi⟩
theorem itS_many (N : Int) (X : List (List Int)) : ∀ k, (∀ j, j < k → itS N X (j + 1) ≠ itS N X j) → k ≤ (itS N X k).length
  | 0, _ => Nat.zero_le _
  | k + 1, h => by
    have ih := itS_many N X k (fun j hj => h j (by omega))
    have := it_grow' (h k (by omega))
    omega
/-- After how many rounds nothing changes. -/
theorem stop_ex (N : Int) (X : List (List Int)) : ∃ K, K ≤ 10 ∧ itB (rn N X) (rf N X) (K + 1) = itB (rn N X) (rf N X) K ∧ ∀ j, j < K → itB (rn N X) (rf N X) (j + 1) ≠ itB (rn N X) (rf N X) j := by
  have key : ∀ k, (∃ K, K < k ∧ itS N X (K + 1) = itS N X K ∧ ∀ j, j < K → itS N X (j + 1) ≠ itS N X j) ∨ ∀ j, j < k → itS N X (j + 1) ≠ itS N X j := by
    intro k
    induction k with
    | zero => exact .inr fun j hj => absurd hj (by omega)
    | succ k ih =>
      rcases ih with ⟨K, h1, h2, h3⟩ | h
      · exact .inl ⟨K, by omega, h2, h3⟩
      · by_cases e : itS N X (k + 1) = itS N X k
        · exact .inl ⟨k, by omega, e, h⟩
        · refine .inr fun j hj => ?_
          rcases Nat.lt_succ_iff_lt_or_eq.1 hj with h1 | rfl
          · exact h j h1
          · exact e
  rcases key 11 with ⟨K, h1, h2, h3⟩ | h
  · exact ⟨K, by omega, (itB_eq N X _ _).2 h2, fun j hj e => h3 j hj ((itB_eq N X _ _).1 e)⟩
  · have := itS_many N X 11 h
    have := it_len10 N X 11
    omega
/-- What a round hands over. -/
abbrev encR (m : Int) (f : Nat → Nat) (k : Nat) : Array Value := #[.int .i64 ((k : Int) + 1), .int .u16 (itB m f (k + 1) : Nat)]
theorem itB_lt {m : Int} (h : m ≤ 10) (f : Nat → Nat) : ∀ k, itB m f k < 1024
  | 0 => by simp [itB]
  | k + 1 => dB_lt h f _
theorem rounds_any {w : World} {m : Int} {f : Nat → Nat} : Calls Tryd.prog 45 #[.agg (arC m f)] w (fun e w' => e = .returned (.func (.func 56) #[] #[.pointer (some ⟨w.heap.size, 0, none⟩)]) ∧ w' = w.alloc (Obj.cells (arC m f) 49)) := by
  go_enter Tryd.func45, Tryd.ntmps45
  go_wp2_with fail
  go_ret
  exact ⟨rfl, rfl⟩
set_option maxHeartbeats 4000000 in
theorem rounds1_in (n : Nat) (hn : 1 ≤ n) (l Bn : Nat) {m : Int} {f : Nat → Nat} (r0 : 0 ≤ m) (r1 : m ≤ 10) (hf : ∀ a, f a < 65536) {K : Nat} (hK10 : K ≤ 10) (hK : itB m f (K + 1) = itB m f K) (hgrow : ∀ j, j < K → itB m f (j + 1) ≠ itB m f j)
    (J Jx : List Nat → World → Prop) (W : World) (hBn : Bx W Bn 49 (arC m f)) (hJ : AbidesFrom W.heap.size J)
    (hY : ∀ pre x W1, J pre W1 → pre.length < K → YieldAt Fence.wide (n - 1) Tryd.prog l (encR m f x) W1 fun e W' =>
      (e = .returned (.bool true) ∧ J (pre ++ [x]) W' ∧ W'.heap[Bn]? = W1.heap[Bn]?) ∨ (e = .returned (.bool false) ∧ Jx (pre ++ [x]) W')) (h0 : J [] W) :
    CallsIn Fence.wide n Tryd.prog 56 #[.func (.yield l) #[] #[], .pointer (some ⟨Bn, 0, none⟩)] W fun e W' => (∃ v, e = .returned v) ∧
      ((∃ xs, xs = List.range K ∧ J xs W') ∨ (∃ pre, (∃ j, j ≤ K ∧ pre = List.range j) ∧ Jx pre W')) := by
  refine callsIn_of_wp Tryd.func56 rfl trivial ?_ rfl
  simp only [Tryd.ntmps56, List.size_toArray, List.length_cons, List.length_nil, Nat.reduceAdd, Nat.reduceSub, Array.replicate_succ, Array.replicate_zero, List.push_toArray, List.append_toArray, List.nil_append, List.cons_append]
  gi_wp2
  gi_loopw [3, 4] (fun x i wr => ∃ k : Nat, k ≤ K ∧ x = .int .u16 (itB m f k : Nat) ∧ i = .int .i64 ((k : Int) + 1) ∧ J (List.range k) wr ∧ Bx wr Bn 49 (arC m f))
    (fun _ i _ => K + 2 - (intOf i).toNat)
  case atStart => exact ⟨0, Nat.zero_le _, rfl, rfl, h0, hBn⟩
  case round =>
    obtain ⟨k, hk, rfl, rfl, hJk, hbk⟩ := hrel
    obtain ⟨c0, c1, c2, c3, c4, c5, c6, c7, c8, c9, c10⟩ := hbk.eleven
    have hx : itB m f k < 65536 := Nat.lt_trans (itB_lt r1 f k) (by decide)
    have HS := Lib.hid (show dB m f (itB m f k) = itB m f (k + 1) from rfl)
    by_cases hkK : k = K
    · subst hkK
      have HE := Lib.hid hK
      generalize itB m f (k + 1) = y at *
      generalize itB m f k = x at *
      gi_wp2_with (refine ⟨trivial, ?_⟩; gi_at_call 57; refine (callsIn_wide.2 (defBits_any (n := m) r0 r1 hf hx)).mono ?_; rintro e w9 ⟨rfl, hb9⟩; rw [HS.out, HE.out])
      refine ⟨fun _ h => (by cases h), ?_⟩
      gi_wp2
      refine bodyPost_ret (results_none rfl _ _ _) rfl ?_
      exact ⟨⟨_, rfl⟩, .inl ⟨_, rfl, hJ _ _ _ none hJk (grown_new hb9 none) (fun r e => by cases e)⟩⟩
    · have hne := hgrow k (by omega)
      have hlt : k < K := by omega
      obtain ⟨x, hxx⟩ : ∃ x, x = itB m f k := ⟨_, rfl⟩
      obtain ⟨y, hyy⟩ : ∃ y, y = itB m f (k + 1) := ⟨_, rfl⟩
      have HY := Lib.hid (fun W1 h => hY (List.range k) k W1 h (by simp; exact hlt))
      unfold encR at HY
      rw [← hxx, ← hyy] at hne
      rw [← hxx] at hx ⊢
      rw [← hxx, ← hyy] at HS
      rw [← hyy] at HY
      have hne' : ¬ ((y : Int) = (x : Int)) := by omega
      have i1 : IntKind.i64.wrap ((k : Int) + 1 + 1) = (k : Int) + 1 + 1 := IntWalk.i64_in _ (by omega)
      have hyb : ((y : Int) == (x : Int)) = false := beq_eq_false_iff_ne.2 hne'
      have HYY := Lib.hid hyy
      clear hxx hyy
      gi_wp2_with fail
      refine ⟨trivial, ?_⟩
      refine (callsIn_wide.2 (defBits_any (n := m) r0 r1 hf hx)).mono ?_
      rintro e w9 ⟨rfl, hb9⟩
      rw [HS.out]
      have hJ9 := hJ _ _ _ none hJk (grown_new hb9 none) (fun r e => by cases e)
      have hb10 := hbk.new hb9
      obtain ⟨fn, tmps, assign, body, hy, hR⟩ := HY.out w9 hJ9
      clear HY c0 c1 c2 c3 c4 c5 c6 c7 c8 c9 c10
      gi_wp2
      refine hR.mono ?_
      rintro e W3 (⟨rfl, hJ3, hk3⟩ | ⟨rfl, hJx3⟩)
      · gi_wp2
        go_roundw
        case rel => exact ⟨k + 1, by omega, by rw [HYY.out], by go_num, by rw [List.range_succ]; exact hJ3, hk3.trans hb10⟩
        case measure => simp [intOf]; omega
      · gi_wp2
        refine bodyPost_ret (results_none rfl _ _ _) rfl ?_
        exact ⟨⟨_, rfl⟩, .inr ⟨List.range k ++ [k], ⟨k + 1, by omega, by rw [List.range_succ]⟩, hJx3⟩⟩
end Go.Proofs.YtjhknafajfpldaaDoor

/- Contracts of the code's grounded, Grounded. Conditions: at most 10 claims, rows below 2^16. -/
namespace Go.Proofs.YtjhknafajfpldaaDoor
open Go.ChangeShapes Go.WideShapes Go.ChangeAt Go.RowKit Go.Shelf
attribute [local go_sem] Oper.semAt_some
set_option maxRecDepth 100000
/-- A block lies as it lay. -/
def KeepB (Bn : Nat) (W W' : World) : Prop := W'.heap[Bn]? = W.heap[Bn]?
theorem keepB_t {Bn : Nat} : ∀ {A B C : World}, KeepB Bn A B → KeepB Bn B C → KeepB Bn A C := fun h k => Eq.trans k h
theorem keepB_b {Bn : Nat} {w : World} (h : Bn < w.heap.size) : ∀ (W : World) (l : Nat) (o o' : Obj), w.heap.size ≤ l → W.heap[l]? = some o → o.isCells = false → o.isWalk = false → KeepB Bn W (W.putObj l o') := fun W l o o' hl ho _ _ => by
  have hlt : l < W.heap.size := (Array.getElem?_eq_some_iff.1 ho).1
  exact (grownBy_putObj' W l o').block Bn (by omega) (by simp; omega)
theorem rounds_stops (n : Nat) (hn : 1 ≤ n) (Bn : Nat) {m : Int} {f : Nat → Nat} (r0 : 0 ≤ m) (r1 : m ≤ 10) (hf : ∀ a, f a < 65536) {K : Nat} (hK10 : K ≤ 10) (hK : itB m f (K + 1) = itB m f K) (hgrow : ∀ j, j < K → itB m f (j + 1) ≠ itB m f j)
    {w : World} (hBn : Bx w Bn 49 (arC m f)) (hBw : Bn < w.heap.size) :
    SeqStopsK Fence.wide n Tryd.prog 56 #[.pointer (some ⟨Bn, 0, none⟩)] (encR m f) (KeepB Bn) (fun xs => xs = List.range K) (fun pre => ∃ j, j ≤ K ∧ pre = List.range j) K w := fun l J Jx W hW hJ _ hY h0 =>
  rounds1_in n hn l Bn r0 r1 hf hK10 hK hgrow J Jx W ((hW.block Bn hBw).trans hBn) hJ hY h0
/-- The last round that has come. -/
def endK (pre : List Nat) : Nat := match pre.getLast? with | none => 0 | some x => x + 1
theorem endK_snoc (pre : List Nat) (x : Nat) : endK (pre ++ [x]) = x + 1 := by simp [endK]
theorem endK_range (K : Nat) : endK (List.range K) = K := by
  cases K with
  | zero => rfl
  | succ K => rw [List.range_succ, endK_snoc]
theorem one_made (w : World) (v : Value) (t : TypeId) : (w.alloc (Obj.cells #[v] t)).cell? ⟨w.heap.size, 0, none⟩ = some v ∧ (w.alloc (Obj.cells #[v] t)).frozen? ⟨w.heap.size, 0, none⟩ = false := by
  have h := Bx.made w t #[v]
  exact ⟨h.at_ rfl, h.free 0⟩
set_option maxHeartbeats 4000000 in
theorem grounded_any {w : World} {m : Int} {f : Nat → Nat} (r0 : 0 ≤ m) (r1 : m ≤ 10) (hf : ∀ a, f a < 65536) {K : Nat} (hK10 : K ≤ 10) (hK : itB m f (K + 1) = itB m f K) (hgrow : ∀ j, j < K → itB m f (j + 1) ≠ itB m f j) :
    Calls Tryd.prog 38 #[.agg (arC m f)] w (fun e w' => e = .returned (.int .u16 (itB m f K : Nat)) ∧ Below w.heap.size w w') := by
  refine (callsIn_wide (n := 3)).1 ?_
  have h1 : 1 ≤ 3 := by omega
  obtain ⟨W1, hW1⟩ : ∃ u : World, u = w.alloc (Obj.cells (arC m f) 49) := ⟨_, rfl⟩
  have bx1 := Bx.made w 49 (arC m f)
  have hb1 : Below w.heap.size w (w.alloc (Obj.cells (arC m f) 49)) := (Below.refl _ _).alloc (Nat.le_refl _) _
  have hs1 : W1.heap.size = w.heap.size + 1 := by rw [hW1]; simp
  rw [← hW1] at bx1 hb1
  obtain ⟨W2, hW2⟩ : ∃ u : World, u = W1.alloc (Obj.cells #[.int .u16 0] 46) := ⟨_, rfl⟩
  have k2 := one_made W1 (.int .u16 0) 46
  have hb2 : Below w.heap.size w (W1.alloc (Obj.cells #[.int .u16 0] 46)) := hb1.alloc (by omega) _
  have bx2 := bx1.new ((Below.refl W1.heap.size W1).alloc (Nat.le_refl _) (Obj.cells #[.int .u16 0] 46))
  have hs2 : W2.heap.size = w.heap.size + 2 := by rw [hW2]; simp [hs1]
  rw [← hW2, hs1] at k2
  rw [← hW2] at hb2 bx2
  obtain ⟨c2, f2⟩ := k2
  refine callsIn_of_wp_marks Tryd.func38 rfl trivial ?_ rfl
  simp only [Tryd.ntmps38, List.size_toArray, List.length_cons, List.length_nil, Nat.reduceAdd, Nat.reduceSub, Array.replicate_succ, Array.replicate_zero, List.push_toArray, List.append_toArray, List.nil_append, List.cons_append]
  have HW1 := hW1.symm
  have HW2 := hW2.symm
  obtain ⟨c0, c1, c2', c3, c4, c5, c6, c7, c8, c9, c10⟩ := (bx2.far (p := ⟨w.heap.size + 1, 0, none⟩) (by simp) (.int .u16 0)).eleven
  clear hW1 hW2
  gi_wp2_with fail
  refine ⟨trivial, ?_⟩
  have bx3 := bx2.far (p := ⟨w.heap.size + 1, 0, none⟩) (by simp) (.int .u16 0)
  have d2 := World.cell?_setCell_same' W2 ⟨w.heap.size + 1, 0, none⟩ (.int .u16 0) (by rw [c2]; rfl)
  have g2 : (W2.setCell ⟨w.heap.size + 1, 0, none⟩ (.int .u16 0)).frozen? ⟨w.heap.size + 1, 0, none⟩ = false := by rw [World.frozen?_setCell]; exact f2
  have hb3 := hb2.setCell (p := ⟨w.heap.size + 1, 0, none⟩) (by simp) (.int .u16 0)
  have hs3 : (W2.setCell ⟨w.heap.size + 1, 0, none⟩ (.int .u16 0)).heap.size = w.heap.size + 2 := by rw [← hs2]; simp
  clear c0 c1 c2' c3 c4 c5 c6 c7 c8 c9 c10
  generalize W2.setCell ⟨w.heap.size + 1, 0, none⟩ (.int .u16 0) = W3 at *
  refine (callsIn_wide.2 rounds_any).mono ?_
  rintro e w5 ⟨rfl, rfl⟩
  have bx4 := Bx.made W3 49 (arC m f)
  have k4 : Below W3.heap.size W3 (W3.alloc (Obj.cells (arC m f) 49)) := (Below.refl W3.heap.size W3).alloc (Nat.le_refl _) _
  have hb4 : Below w.heap.size w (W3.alloc (Obj.cells (arC m f) 49)) := hb3.alloc (by omega) _
  have d3 := (k4.cell (p := ⟨w.heap.size + 1, 0, none⟩) (by simp; omega)).trans d2
  have g3 := (k4.frozen (p := ⟨w.heap.size + 1, 0, none⟩) (by simp; omega)).trans g2
  have hs4 : (W3.alloc (Obj.cells (arC m f) 49)).heap.size = w.heap.size + 3 := by simp [hs3]
  rw [hs3] at bx4 ⊢
  generalize W3.alloc (Obj.cells (arC m f) 49) = W4 at *
  gi_wp2_with fail
  refine wpIn_rangeFunc_ownF rfl h1 (gf := 56) (lb := #[.pointer (some ⟨w.heap.size + 2, 0, none⟩)]) rfl trivial (enters_of Tryd.func56 (by kernel_rfl) rfl)
    (rounds_stops 2 (by omega) (w.heap.size + 2) r0 r1 hf hK10 hK hgrow bx4 (by omega)) keepB_t (keepB_b (by omega)) (Below.refl _ _) (fun _ => rfl)
    (fun pre W => (W.cell? ⟨w.heap.size + 1, 0, none⟩ = some (.int .u16 (itB m f (endK pre) : Nat)) ∧ W.frozen? ⟨w.heap.size + 1, 0, none⟩ = false) ∧ Below w.heap.size w W)
    (fun _ _ _ => False)
    (OwnFrom.and (Own.from (fun s A B row hs hg hr => ⟨cell_kept hs.1 hg hr, (frozen_kept hs.1 hg hr).trans hs.2⟩) _) (ownFrom_below (Nat.le_refl _) (by omega)))
    (fun _ _ _ _ _ hs _ _ => hs)
    ⟨⟨d3, g3⟩, hb4⟩
    (fun x => { tmps := #[.agg (arC m f), .pointer (some ⟨w.heap.size, 0, none⟩), .int .u16 0, .pointer (some ⟨w.heap.size + 1, 0, none⟩), undef, .int .u16 (itB m f (x + 1) : Nat), .agg #[.int .i64 m, .int .u16 (f 0 : Nat), .int .u16 (f 1 : Nat), .int .u16 (f 2 : Nat), .int .u16 (f 3 : Nat), .int .u16 (f 4 : Nat), .int .u16 (f 5 : Nat), .int .u16 (f 6 : Nat), .int .u16 (f 7 : Nat), .int .u16 (f 8 : Nat), .int .u16 (f 9 : Nat)], .func (.func 56) #[] #[.pointer (some ⟨w.heap.size + 2, 0, none⟩)], .int .i64 ((x : Int) + 1), .int .u16 (itB m f (x + 1) : Nat), undef, undef], defers := [] }) ?assign ?body ?done ?stop
  case assign =>
    intro l x W K hK
    gi_wp2
    exact hK
  case body =>
    rintro l pre x W ⟨⟨hc, hf⟩, hB⟩ _
    gi_wp2
    exact ⟨KeepsOthers.setCell _ _ _, Below.heap_setCell _ _ _ _ (by simp), ⟨by rw [endK_snoc]; exact World.cell?_setCell_same' _ _ _ (by rw [hc]; rfl), by rw [World.frozen?_setCell]; exact hf⟩, hB.setCell (p := ⟨w.heap.size + 1, 0, none⟩) (by simp) _⟩
  case done =>
    rintro D ys W hD rfl ⟨⟨hc, _⟩, hB⟩ hK'
    rw [endK_range] at hc
    gi_wp2
    refine ⟨by simp, .inl ⟨_, _, rfl, run_takeDeferred hK', ?_⟩⟩
    exact ⟨_, results_tmp rfl _ _ _, rfl, hB.trans (belowK_b (w := w) (Nat.le_refl _) W D _ _ (by omega) hK' rfl rfl)⟩
  case stop =>
    rintro D c pre W _ _ h _
    exact h.elim
end Go.Proofs.YtjhknafajfpldaaDoor

/- Contract of the model of RoundOf. No conditions but that the slices have at most 2^40 elements. -/
namespace Go.Proofs.YtjhknafajfpldaaDoor
open Go.ChangeShapes Go.WideShapes Go.ChangeAt Go.RowKit
set_option maxRecDepth 100000
def rndT (N : Int) (X : List (List Int)) (c : Int) : Nat → Nat → Int
  | 0, _ => -1
  | f + 1, k => if (itS N X (k + 1)).contains c then ((k + 1 : Nat) : Int) else rndT N X c f (k + 1)
/-- The step at which a claim stands; -1 if none. -/
def rnd (N : Int) (X : List (List Int)) (c : Int) : Int := if gB N X then rndT N X c N.toNat 0 else -1
end Go.Proofs.YtjhknafajfpldaaDoor
