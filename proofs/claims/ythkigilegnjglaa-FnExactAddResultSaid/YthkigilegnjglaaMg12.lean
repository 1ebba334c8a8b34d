/- Contracts of slices.Backward at []int and of its closure. Condition: the slice has at most 2^40 elements. -/
import Derived.Test.YthkigilegnjglaaMg10
import Derived.Test.YthkigilegnjglaaMg11
import Derived.RangeFuncNested
import Derived.RangeFuncBound
import Derived.RangeFuncCalls
import Derived.RangeFuncLeaves
import Derived.RangeFuncFrom
import Derived.Shelf.Abstract
import Derived.Shelf.RegionOpen
import Derived.OwnWalkIn
import Derived.TacticsInMore
import Derived.LoopNIn
import Derived.LoopIn
import Derived.Test.YthkigilegnjglaaMg7
import Derived.Test.YthkigilegnjglaaMg9
import Derived.RangeFuncBox
namespace Go.Proofs.Ythkigilegnjglaa
open Go.ChangeShapes Go.WideShapes Go.ChangeAt Go.RowKit Go.Shelf
attribute [local go_sem] Oper.semAt_some
set_option maxRecDepth 100000
/-- The places that have come when m are left. -/
def dnL (N m : Nat) : List Nat := ((List.range N).drop m).reverse
theorem dnL_all (N : Nat) : dnL N N = [] := by unfold dnL; rw [List.drop_of_length_le (by simp)]; rfl
theorem dnL_snoc {N j : Nat} (h : j < N) : dnL N j = dnL N (j + 1) ++ [j] := by
  unfold dnL
  rw [List.drop_eq_getElem_cons (by simpa using h), List.reverse_cons, List.getElem_range]
theorem dnL_len (N m : Nat) : (dnL N m).length = N - m := by unfold dnL; simp
theorem dnL_mem {N m j : Nat} : j ∈ dnL N m ↔ m ≤ j ∧ j < N := by
  unfold dnL
  rw [List.mem_reverse, List.mem_drop_iff_getElem]
  constructor
  · rintro ⟨k, hk, rfl⟩
    simp at hk
    simp
    omega
  · rintro ⟨h1, h2⟩
    exact ⟨j - m, by simp; omega, by simp; omega⟩
/-- What a round hands over. -/
abbrev encB (S : List Int) (j : Nat) : Array Value := #[.int .i64 (j : Int), .int .i64 (S.getD j 0)]
end Go.Proofs.Ythkigilegnjglaa

/- Contracts of slices.Backward at []Team, of its closure, and of the code's teamPlacesOf: a map from each Id to the place of the first team that has it. Conditions: Ids of 64 bits; at most 2^40 teams. -/
namespace Go.Proofs.Ythkigilegnjglaa
open Go.ChangeShapes Go.WideShapes Go.ChangeAt Go.RowKit Go.Shelf
attribute [local go_sem] Oper.semAt_some
set_option maxRecDepth 100000
/-- A slice's address and capacity; the slice of a team. -/
abbrev SlA := Option Addr × Nat
def slD : SlA := (none, 0)
abbrev slV (x : Tm) (a : SlA) : Value := .slice a.1 x.met.length a.2
/-- Teams that are only read; V their slices. -/
def RdC (w : World) (B : Nat) (A : Option Addr) (X : List Tm) (V : List SlA) : Prop := ∀ k (hk : k < X.length), ∃ ad p, A = some ad ∧ ad.add (k * 6) = p ∧ p.block < B ∧ w.cell? p = some (.int .i64 X[k].id) ∧ w.cell? ⟨p.block, p.off + 1, none⟩ = some (.int .i64 X[k].club) ∧ w.cell? ⟨p.block, p.off + 2, none⟩ = some (.int .i64 X[k].wins) ∧ w.cell? ⟨p.block, p.off + 3, none⟩ = some (.int .i64 X[k].pts) ∧ w.cell? ⟨p.block, p.off + 4, none⟩ = some (.int .i64 X[k].firsts) ∧ w.cell? ⟨p.block, p.off + 5, none⟩ = some (slV X[k] (V.getD k slD)) ∧ X[k].met.length ≤ (V.getD k slD).2 ∧ (V.getD k slD).2 ≤ maxLen ∧ Rd w B (V.getD k slD).1 (ivs X[k].met)
theorem RdT.vals {w : World} {B : Nat} {A : Option Addr} {X : List Tm} (h : RdT w B A X) : ∃ V, RdC w B A X V := by
  have each : ∀ i, i < X.length → ∃ v : SlA, ∀ (hk : i < X.length), ∃ ad p, A = some ad ∧ ad.add (i * 6) = p ∧ p.block < B ∧ w.cell? p = some (.int .i64 X[i].id) ∧ w.cell? ⟨p.block, p.off + 1, none⟩ = some (.int .i64 X[i].club) ∧ w.cell? ⟨p.block, p.off + 2, none⟩ = some (.int .i64 X[i].wins) ∧ w.cell? ⟨p.block, p.off + 3, none⟩ = some (.int .i64 X[i].pts) ∧ w.cell? ⟨p.block, p.off + 4, none⟩ = some (.int .i64 X[i].firsts) ∧ w.cell? ⟨p.block, p.off + 5, none⟩ = some (slV X[i] v) ∧ X[i].met.length ≤ v.2 ∧ v.2 ≤ maxLen ∧ Rd w B v.1 (ivs X[i].met) := fun i hi => by
    obtain ⟨ad, p, a1, a2, a3, Aj, cj, c0, c1, c2, c3, c4, c5, b1, b2, b3⟩ := h.at_ hi
    exact ⟨(Aj, cj), fun _ => ⟨ad, p, a1, a2, a3, c0, c1, c2, c3, c4, c5, b1, b2, b3⟩⟩
  obtain ⟨V, hV, hp⟩ := list_of X.length each
  refine ⟨V, fun k hk => ?_⟩
  have := hp k (by omega) hk
  rwa [show V[k]'(by omega) = V.getD k slD by simp [List.getD, List.getElem?_eq_getElem (show k < V.length by omega)]] at this
theorem RdC.keep {w w' : World} {B : Nat} {A : Option Addr} {X : List Tm} {V : List SlA} (h : RdC w B A X V) (hk : ∀ b, b < B → w'.heap[b]? = w.heap[b]?) : RdC w' B A X V := fun k hk' => by
  obtain ⟨ad, p, a1, a2, a3, c0, c1, c2, c3, c4, c5, b1, b2, b3⟩ := h k hk'
  have f : ∀ o, w'.cell? ⟨p.block, o, none⟩ = w.cell? ⟨p.block, o, none⟩ := fun o => World.cell?_of_block (hk _ a3)
  exact ⟨ad, p, a1, a2, a3, (show w'.cell? p = w.cell? p from World.cell?_of_block (hk _ a3)).trans c0, (f _).trans c1, (f _).trans c2, (f _).trans c3, (f _).trans c4, (f _).trans c5, b1, b2, b3.keep hk⟩
theorem RdC.below {w w' : World} {B : Nat} {A : Option Addr} {X : List Tm} {V : List SlA} (h : RdC w B A X V) (hb : Below B w w') : RdC w' B A X V := h.keep hb.block
/-- One team as a value. -/
abbrev tmV (x : Tm) (v : Value) : Value := .agg #[.int .i64 x.id, .int .i64 x.club, .int .i64 x.wins, .int .i64 x.pts, .int .i64 x.firsts, v]
def tmD : Tm := ⟨0, 0, 0, 0, 0, []⟩
theorem backT_any {w : World} {A : Option Addr} {n c : Nat} : Calls Try.prog 122 #[.slice A n c] w (fun e w' => e = .returned (.func (.func 136) #[] #[.pointer (some ⟨w.heap.size, 0, none⟩)]) ∧ w' = w.alloc (Obj.cells #[.slice A n c] 30)) := by
  go_enter Try.func122, Try.ntmps122
  go_wp2_with fail
  go_ret
  exact ⟨rfl, rfl⟩
/-- What a round hands over. -/
def plN (S : List Tm) (j : Nat) : Nat := if j < S.length then j else 0
theorem plN_at {S : List Tm} {j : Nat} (h : j < S.length) : plN S j = j := if_pos h
theorem plN_le (S : List Tm) (j : Nat) : plN S j ≤ S.length := by unfold plN; split <;> omega
/-- All blocks below n₀ but block M lie as they lay. -/
structure KeptBut (M n₀ : Nat) (A B : World) : Prop where
  size : A.heap.size ≤ B.heap.size
  block : ∀ b, b < n₀ → b ≠ M → B.heap[b]? = A.heap[b]?
theorem KeptBut.refl {M n₀ : Nat} {A : World} : KeptBut M n₀ A A := ⟨Nat.le_refl _, fun _ _ _ => rfl⟩
theorem KeptBut.trans {M n₀ : Nat} {A B C : World} (h : KeptBut M n₀ A B) (k : KeptBut M n₀ B C) : KeptBut M n₀ A C := ⟨Nat.le_trans h.size k.size, fun b h1 h2 => (k.block b h1 h2).trans (h.block b h1 h2)⟩
theorem KeptBut.put {M n₀ : Nat} {w : World} (hn : n₀ ≤ w.heap.size) (W : World) (l : Nat) (o o' : Obj) (hl : w.heap.size ≤ l) (_ : W.heap[l]? = some o) (_ : o.isCells = false) (_ : o.isWalk = false) : KeptBut M n₀ W (W.putObj l o') :=
  ⟨by simp, fun b hb _ => World.putObj_heap_other (by omega)⟩
theorem KeptBut.of_below {M n₀ B : Nat} {A C : World} (h : Below B A C) (hn : n₀ ≤ B) : KeptBut M n₀ A C := ⟨h.size, fun b hb _ => h.block b (by omega)⟩
abbrev encT (S : List Tm) (V : List SlA) (j : Nat) : Array Value := #[.int .i64 (plN S j : Int), tmV (S.getD j tmD) (slV (S.getD j tmD) (V.getD j slD))]
set_option maxHeartbeats 4000000 in
theorem backT1_in (n : Nat) (hn : 1 ≤ n) (l Bn M n₀ : Nat) {A : Option Addr} {N cc : Nat} {S : List Tm} {V : List SlA} (hl : Hid (S.length = N)) (hN : N ≤ 1099511627776) (J Jx : List Nat → World → Prop) (W : World) (hBn : W.cell? ⟨Bn, 0, none⟩ = some (.slice A N cc)) (hBl : Bn < n₀) (hBM : Bn ≠ M) (hM : M < n₀) (hr : RdC W M A S V)
    (hY : ∀ pre x W1, J pre W1 → pre.length < N → YieldAt Fence.wide (n - 1) Try.prog l (encT S V x) W1 fun e W' =>
      (e = .returned (.bool true) ∧ J (pre ++ [x]) W' ∧ KeptBut M n₀ W1 W') ∨ (e = .returned (.bool false) ∧ Jx (pre ++ [x]) W')) (h0 : J [] W) :
    CallsIn Fence.wide n Try.prog 136 #[.func (.yield l) #[] #[], .pointer (some ⟨Bn, 0, none⟩)] W fun e W' => (∃ v, e = .returned v) ∧
      ((∃ ys, ys = dnL N 0 ∧ J ys W') ∨ (∃ pre, (∃ j, j < N ∧ pre = dnL N j) ∧ Jx pre W')) := by
  refine callsIn_of_wp Try.func136 rfl trivial ?_ rfl
  simp only [Try.ntmps136, List.size_toArray, List.length_cons, List.length_nil, Nat.reduceAdd, Nat.reduceSub, Array.replicate_succ, Array.replicate_zero, List.push_toArray, List.append_toArray, List.nil_append, List.cons_append]
  have HR := Lib.hid hr
  have HY := Lib.hid hY
  have ww0 : IntKind.i64.wrap ((N : Int) - 1) = (N : Int) - 1 := IntWalk.i64_in _ (by omega)
  clear hr hY
  gi_wp2
  gi_loopw [3] (fun i wr => ∃ m : Nat, m ≤ N ∧ i = .int .i64 ((m : Int) - 1) ∧ J (dnL N m) wr ∧ KeptBut M n₀ W wr) (fun i _ => (intOf i + 1).toNat)
  case atStart => exact ⟨N, Nat.le_refl _, rfl, by rw [dnL_all]; exact h0, KeptBut.refl⟩
  case round =>
    obtain ⟨m, hm, rfl, hJm, hbm⟩ := hrel
    by_cases hm0 : m = 0
    · subst hm0
      have i3 : ¬ (0 : Int) ≤ ((0 : Nat) : Int) - 1 := by omega
      have i4 : ((0 : Nat) : Int) - 1 = -1 := by omega
      clear h0 hBn
      gi_wp2
      go_end0
      exact ⟨⟨_, rfl⟩, .inl (by first | exact hJm | exact ⟨_, rfl, hJm⟩)⟩
    · obtain ⟨j, hj⟩ : ∃ j, m = j + 1 := ⟨m - 1, by omega⟩
      subst hj
      have hjk : (((j + 1 : Nat) : Int) - 1) = (j : Int) := by omega
      rw [hjk]
      have hjS : j < S.length := by rw [hl.out]; omega
      have hBn1 : wr.cell? ⟨Bn, 0, none⟩ = _ := (World.cell?_of_block (hbm.block Bn hBl hBM)).trans hBn
      obtain ⟨ad, p, rfl, hp, hab, c0, c1, c2, c3, c4, c5, _, _, _⟩ := (HR.out.keep (fun b hb => hbm.block b (by omega) (by omega))) j hjS
      rw [show S[j] = S.getD j tmD by simp [List.getD, hjS]] at c0 c1 c2 c3 c4 c5
      have HYY := HY.out _ j wr hJm (by rw [dnL_len]; omega)
      have HSN := Lib.hid (dnL_snoc (N := N) (j := j) (by omega))
      unfold encT at HYY
      rw [plN_at hjS] at HYY
      obtain ⟨y, hy⟩ : ∃ y, S.getD j tmD = y := ⟨_, rfl⟩
      obtain ⟨z, hz⟩ : ∃ z, V.getD j slD = z := ⟨_, rfl⟩
      rw [hy] at c0 c1 c2 c3 c4 c5 HYY
      rw [hz] at c5 HYY
      have i0 : (0 : Int) ≤ (j : Int) := by omega
      have i1 : (j : Int) < (N : Int) := by omega
      have ww1 : IntKind.i64.wrap ((j : Int) - 1) = (j : Int) - 1 := IntWalk.i64_in _ (by omega)
      obtain ⟨fn, tmps, assign, body, hyy, hRR⟩ := HYY
      clear hy hz h0 hBn hJm
      gi_wp2
      refine hRR.mono ?_
      rintro e W3 (⟨rfl, hJ3, hk3⟩ | ⟨rfl, hJx3⟩)
      · gi_wp2
        go_roundw
        case rel => exact ⟨j, by omega, by go_num, by rw [HSN.out]; exact hJ3, hbm.trans hk3⟩
        case measure => simp [intOf]
      · gi_wp2
        refine bodyPost_ret (results_none rfl _ _ _) rfl ?_
        exact ⟨⟨_, rfl⟩, .inr ⟨_, ⟨j, by omega, HSN.out.symm⟩, hJx3⟩⟩
theorem backT_stops (n : Nat) (hn : 1 ≤ n) (Bn M n₀ : Nat) {A : Option Addr} {N cc : Nat} {S : List Tm} {V : List SlA} (hl : Hid (S.length = N)) (hN : N ≤ 1099511627776) {w : World} (hBn : w.cell? ⟨Bn, 0, none⟩ = some (.slice A N cc)) (hBl : Bn < n₀) (hBM : Bn ≠ M) (hM : M < n₀) (hr : RdC w M A S V) (hn0 : n₀ ≤ w.heap.size) :
    SeqStopsK Fence.wide n Try.prog 136 #[.pointer (some ⟨Bn, 0, none⟩)] (encT S V) (KeptBut M n₀) (fun ys => ys = dnL N 0) (fun pre => ∃ j, j < N ∧ pre = dnL N j) N w := fun l J Jx W hW _ _ hY h0 =>
  backT1_in n hn l Bn M n₀ hl hN J Jx W ((hW.cell (p := ⟨Bn, 0, none⟩) (show Bn < w.heap.size by omega)).trans hBn) hBl hBM hM (hr.below (hW.mono (by omega))) hY h0
end Go.Proofs.Ythkigilegnjglaa

/- Mathematics of teams' places: the first team with an Id (fndO, fndI), and the map that the code makes from the end (plF, plK). No conditions. -/
namespace Go.Proofs.Ythkigilegnjglaa
open Go.ChangeShapes Go.WideShapes Go.ChangeAt Go.RowKit
/-- The place of the first team with this Id. -/
def fndO (X : List Tm) (a : Int) : Option Int := (X.findIdx? fun t => t.id == a).map fun (i : Nat) => (i : Int)
def fndI (X : List Tm) (a : Int) : Int := (fndO X a).getD (-1)
def fndA (X : List Tm) (m : Nat) (a : Int) : Option Int := ((X.drop m).findIdx? fun t => t.id == a).map fun (i : Nat) => ((i + m : Nat) : Int)
theorem fndA_zero (X : List Tm) : fndA X 0 = fndO X := by funext a; unfold fndA fndO; simp
theorem fndA_end {X : List Tm} {n : Nat} (h : X.length = n) : fndA X n = fun _ => none := by
  funext a
  unfold fndA
  rw [List.drop_eq_nil_of_le (by omega)]
  rfl
theorem fndA_succ {X : List Tm} {j : Nat} (h : j < X.length) : fndA X j = putF (fndA X (j + 1)) X[j].id j := by
  funext a
  unfold fndA putF
  rw [List.drop_eq_getElem_cons h, List.findIdx?_cons]
  by_cases e : a = X[j].id
  · subst e
    simp
  · rw [if_neg e]
    have e' : (X[j].id == a) = false := by simpa using fun e2 => e e2.symm
    rw [e']
    simp only [Bool.false_eq_true, if_false, Option.map_map]
    congr 1
    funext i
    simp only [Function.comp]
    omega
theorem fndO_some {X : List Tm} {a v : Int} (h : fndO X a = some v) : ∃ i : Nat, v = i ∧ ∃ hi : i < X.length, X[i].id = a ∧ ∀ j (hj : j < X.length), j < i → X[j].id ≠ a := by
  unfold fndO at h
  obtain ⟨i, hi, rfl⟩ := Option.map_eq_some_iff.1 h
  obtain ⟨h1, h2, h3⟩ := List.findIdx?_eq_some_iff_getElem.1 hi
  exact ⟨i, rfl, h1, by simpa using h2, fun j hj hji => by simpa using h3 j hji⟩
theorem fndO_none {X : List Tm} {a : Int} (h : fndO X a = none) : ∀ x ∈ X, x.id ≠ a := by
  unfold fndO at h
  have h2 := List.findIdx?_eq_none_iff.1 (Option.map_eq_none_iff.1 h)
  intro x hx
  simpa using h2 x hx
theorem fndO_at {X : List Tm} {i : Nat} (hi : i < X.length) (h : ∀ j (hj : j < X.length), j < i → X[j].id ≠ X[i].id) : fndO X X[i].id = some (i : Int) := by
  unfold fndO
  rw [List.findIdx?_eq_some_iff_getElem.2 ⟨hi, by simp, fun j hj => by simpa using h j (by omega) hj⟩]
  rfl
theorem fndO_no {X : List Tm} {a : Int} (h : ∀ x ∈ X, x.id ≠ a) : fndO X a = none := by
  unfold fndO
  rw [List.findIdx?_eq_none_iff.2 (fun x hx => by simpa using h x hx)]
  rfl
theorem fndI_none {X : List Tm} {a : Int} (h : fndO X a = none) : fndI X a = -1 := by unfold fndI; rw [h]; rfl
theorem fndI_some {X : List Tm} {a v : Int} (h : fndO X a = some v) : fndI X a = v := by unfold fndI; rw [h]; rfl
/-- What the map has when the places js have come. -/
def plF (X : List Tm) (js : List Nat) : Int → Option Int := js.foldl (fun f j => putF f (X.getD j tmD).id (plN X j)) (fun _ => none)
theorem plF_snoc (X : List Tm) (js : List Nat) (j : Nat) : plF X (js ++ [j]) = putF (plF X js) (X.getD j tmD).id (plN X j) := by unfold plF; rw [List.foldl_append]; rfl
theorem plF_dn {X : List Tm} {N : Nat} (hl : X.length = N) : ∀ m, m ≤ N → plF X (dnL N (N - m)) = fndA X (N - m)
  | 0, _ => by rw [Nat.sub_zero, dnL_all, fndA_end hl]; rfl
  | m + 1, h => by
    have hj : N - (m + 1) < N := by omega
    have hjX : N - (m + 1) < X.length := by omega
    have e : N - (m + 1) + 1 = N - m := by omega
    rw [dnL_snoc hj, plF_snoc, e, plF_dn hl m (by omega), fndA_succ hjX, e, plN_at hjX]
    congr 1
    simp [List.getD, List.getElem?_eq_getElem hjX]
theorem plF_all {X : List Tm} {N : Nat} (hl : X.length = N) : plF X (dnL N 0) = fndO X := by
  have := plF_dn hl N (Nat.le_refl _)
  rwa [Nat.sub_self, fndA_zero] at this
/-- b is in Met of the first team a. -/
def hmB (X : List Tm) (a b : Int) : Bool := match fndO X a with | none => false | some v => (X.getD v.toNat tmD).met.contains b
theorem hm_none {X : List Tm} {a b : Int} (h : fndO X a = none) : hmB X a b = false := by unfold hmB; rw [h]
theorem hm_some {X : List Tm} {a b v : Int} (h : fndO X a = some v) : hmB X a b = (X.getD v.toNat tmD).met.contains b := by unfold hmB; rw [h]
end Go.Proofs.Ythkigilegnjglaa
