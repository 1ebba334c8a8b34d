/- Contracts of the functions that draw inputs from the code of a law (a cursor over bytes): each returns, within the range that its callers need, and writes to nothing but the cursor and new memory. Condition: the cursor lies in a block of its own and the bytes that it reads lie in older blocks. -/
import Derived.Test.YtdhnhhicjjcmdaaRows
import Derived.Test.YtdhnhhicjjcmdaaBase
import Derived.WalkKit
import Derived.WalkLawsBesides
import Derived.WalkSpells
import Derived.OwnWalk
import Derived.Laws.AppendOwn
import Derived.Deep.AppendLies
import Derived.Deep.QuietTactic
import Derived.BigQuiet
import Derived.IntWalk
import Derived.LoopTactic
import Derived.Outline
namespace Go.Proofs.Ytdhnhhicjjcmdaa
open Go.ChangeShapes Go.WideShapes Go.ChangeAt Go.RowKit
/-- A cursor in block B over the code A. -/
structure Cur (w : World) (B : Nat) (A : Option Addr) (n c : Nat) : Prop where
  lt : B < w.heap.size
  c0 : w.cell? ⟨B, 0, none⟩ = some (.slice A n c)
  c1 : ∃ i : Nat, i ≤ n ∧ w.cell? ⟨B, 1, none⟩ = some (.int .i64 i)
  c2 : ∃ h : Int, w.cell? ⟨B, 2, none⟩ = some (.int .i64 h)
  f0 : ∀ k, w.frozen? ⟨B, k, none⟩ = false
  len : n ≤ 9223372036854775807
  code : 0 < n → ∃ a, A = some a ∧ a.block < B ∧ ∀ j, j < n → ∃ z : Int, 0 ≤ z ∧ z ≤ 255 ∧ w.cell? (a.add j) = some (.int .u8 z)
theorem add_block (a : Addr) (n : Nat) : (a.add n).block = a.block := by unfold Addr.add; split <;> rfl
/-- Another world in which the cursor's block and all that lies ahead of it are as they were. -/
theorem Cur.keep {w w' : World} {B : Nat} {A : Option Addr} {n c : Nat} (h : Cur w B A n c) (hs : w.heap.size ≤ w'.heap.size) (hb : ∀ k, k ≤ B → w'.heap[k]? = w.heap[k]?) : Cur w' B A n c := by
  have e : ∀ p : Addr, p.block ≤ B → w'.cell? p = w.cell? p := fun p hp => World.cell?_of_block (hb _ hp)
  refine ⟨Nat.lt_of_lt_of_le h.lt hs, (e _ (Nat.le_refl _)).trans h.c0, ?_, ?_, fun k => (World.frozen?_of_block (hb _ (Nat.le_refl _))).trans (h.f0 k), h.len, fun hn => ?_⟩
  · obtain ⟨i, hi, hc⟩ := h.c1; exact ⟨i, hi, (e _ (Nat.le_refl _)).trans hc⟩
  · obtain ⟨i, hc⟩ := h.c2; exact ⟨i, (e _ (Nat.le_refl _)).trans hc⟩
  · obtain ⟨a, rfl, ha, hc⟩ := h.code hn
    exact ⟨a, rfl, ha, fun j hj => by
      obtain ⟨z, z0, z1, hz⟩ := hc j hj
      exact ⟨z, z0, z1, (e _ (by rw [add_block]; omega)).trans hz⟩⟩
theorem Cur.below {w w' : World} {B : Nat} {A : Option Addr} {n c : Nat} (h : Cur w B A n c) (hb : Below w.heap.size w w') : Cur w' B A n c :=
  h.keep hb.size (fun k hk => hb.block k (Nat.lt_of_le_of_lt hk h.lt))
theorem Cur.drewN {w : World} {B : Nat} {A : Option Addr} {n c : Nat} (h : Cur w B A n c) (k : Nat) : Cur (w.drewN k) B A n c := h.keep (Nat.le_refl _) (fun _ _ => rfl)
theorem Cur.alloc {w : World} {B : Nat} {A : Option Addr} {n c : Nat} (h : Cur w B A n c) (o : Obj) : Cur (w.alloc o) B A n c := h.keep (by simp) (fun k hk => Below.heap_alloc w o k (Nat.lt_of_le_of_lt hk h.lt))
/-- The cursor's own numbers written: it is one still. -/
theorem Cur.set2 {w : World} {B : Nat} {A : Option Addr} {n c : Nat} (h : Cur w B A n c) (x : Int) : Cur (w.setCell ⟨B, 2, none⟩ (.int .i64 x)) B A n c := by
  obtain ⟨y, hy⟩ := h.c2
  refine ⟨by simpa [World.setCell] using h.lt, ?_, ?_, ⟨x, World.cell?_setCell_same _ _ _ hy⟩, fun k => (World.frozen?_setCell _ _ _ _).trans (h.f0 k), h.len, fun hn => ?_⟩
  · rw [World.cell?_setCell_other _ _ _ _ (by simp)]; exact h.c0
  · obtain ⟨i, hi, hc⟩ := h.c1; exact ⟨i, hi, by rw [World.cell?_setCell_other _ _ _ _ (by simp)]; exact hc⟩
  · obtain ⟨a, rfl, ha, hc⟩ := h.code hn
    exact ⟨a, rfl, ha, fun j hj => by
      obtain ⟨z, z0, z1, hz⟩ := hc j hj
      exact ⟨z, z0, z1, by rw [World.cell?_setCell_other _ _ _ _ (fun e => by have := congrArg Addr.block e; rw [add_block] at this; simp at this; omega)]; exact hz⟩⟩
theorem Cur.set1 {w : World} {B : Nat} {A : Option Addr} {n c : Nat} (h : Cur w B A n c) (x : Int) (k : Nat) (hx : k ≤ n) (ex : x = k) : Cur (w.setCell ⟨B, 1, none⟩ (.int .i64 x)) B A n c := by
  subst ex
  obtain ⟨y, hy1, hy⟩ := h.c1
  refine ⟨by simpa [World.setCell] using h.lt, ?_, ⟨k, hx, World.cell?_setCell_same _ _ _ hy⟩, ?_, fun k => (World.frozen?_setCell _ _ _ _).trans (h.f0 k), h.len, fun hn => ?_⟩
  · rw [World.cell?_setCell_other _ _ _ _ (by simp)]; exact h.c0
  · obtain ⟨i, hc⟩ := h.c2; exact ⟨i, by rw [World.cell?_setCell_other _ _ _ _ (by simp)]; exact hc⟩
  · obtain ⟨a, rfl, ha, hc⟩ := h.code hn
    exact ⟨a, rfl, ha, fun j hj => by
      obtain ⟨z, z0, z1, hz⟩ := hc j hj
      exact ⟨z, z0, z1, by rw [World.cell?_setCell_other _ _ _ _ (fun e => by have := congrArg Addr.block e; rw [add_block] at this; simp at this; omega)]; exact hz⟩⟩
theorem only_refl (w : World) (r : Option Nat) : w.grownBy w r := ⟨rfl, rfl, rfl, Nat.le_refl _, fun _ _ _ => rfl⟩
theorem only_drewN {a w : World} {r : Option Nat} (h : a.grownBy w r) (n : Nat) : a.grownBy (w.drewN n) r := ⟨h.os, h.tape, h.output, h.size, h.block⟩
theorem only_alloc {a w : World} {r : Option Nat} (h : a.grownBy w r) (o : Obj) : a.grownBy (w.alloc o) r :=
  ⟨h.os, h.tape, h.output, Nat.le_trans h.size (by simp), fun i hi hne => (Below.heap_alloc w o i (Nat.lt_of_lt_of_le hi h.size)).trans (h.block i hi hne)⟩
theorem only_set {a w : World} {g : Nat} (h : a.grownBy w (some g)) (k : Nat) (u : Value) : a.grownBy (w.setCell ⟨g, k, none⟩ u) (some g) :=
  ⟨h.os, h.tape, h.output, by simpa [World.setCell] using h.size, fun i hi hne => (Below.heap_setCell w _ u i (by rintro rfl; exact hne rfl)).trans (h.block i hi hne)⟩
theorem only_trans {a b c : World} {r : Option Nat} (h : a.grownBy b r) (k : b.grownBy c r) : a.grownBy c r :=
  ⟨k.os.trans h.os, k.tape.trans h.tape, k.output.trans h.output, Nat.le_trans h.size k.size, fun i hi hn => (k.block i (Nat.lt_of_lt_of_le hi h.size) hn).trans (h.block i hi hn)⟩
theorem and_mask (x : Int) (m : Nat) (hm : m < 9223372036854775808) : 0 ≤ bits .and .i64 x (m : Int) ∧ bits .and .i64 x (m : Int) ≤ m := by
  have e : bits .and .i64 x (m : Int) = (((BitVec.ofInt 64 x).toNat &&& m : Nat) : Int) := by
    show IntKind.i64.wrap ((BitVec.ofInt 64 x &&& BitVec.ofInt 64 (m : Int)).toNat : Int) = _
    have h2 : (BitVec.ofInt 64 (m : Int)).toNat = m := by rw [BitVec.ofInt_natCast, BitVec.toNat_ofNat]; exact Nat.mod_eq_of_lt (by omega)
    have h3 : (BitVec.ofInt 64 x).toNat &&& m ≤ m := Nat.and_le_right
    rw [BitVec.toNat_and, h2, IntKind.wrap_i64]
    omega
  have h3 : (BitVec.ofInt 64 x).toNat &&& m ≤ m := Nat.and_le_right
  rw [e]
  omega
theorem and255 (x : Int) : 0 ≤ bits .and .i64 x 255 ∧ bits .and .i64 x 255 ≤ 255 := and_mask x 255 (by omega)
/-- An integer with P is drawn: only the cursor's block turns. -/
def Drawn (P : Int → Prop) (B : Nat) (A : Option Addr) (n c : Nat) (w : World) (e : Ending) (w' : World) : Prop :=
  ∃ x : Int, P x ∧ e = .returned (.int .i64 x) ∧ w.grownBy w' (some B) ∧ Cur w' B A n c
def OnceB (B : Nat) (A : Option Addr) (n c : Nat) (w : World) (e : Ending) (w' : World) : Prop :=
  ∃ x : Bool, e = .returned (.bool x) ∧ w.grownBy w' (some B) ∧ Cur w' B A n c
/-- A row of integers in block G, each with P. -/
def IntRow (P : Int → Prop) (w : World) (G k : Nat) : Prop := G < w.heap.size ∧ ∀ j, j < k → ∃ z : Int, P z ∧ w.cell? ⟨G, j, none⟩ = some (.int .i64 z)
theorem introw_alloc (P : Int → Prop) (w : World) (zs : List Int) (t : TypeId) (h : ∀ z ∈ zs, P z) : IntRow P (w.alloc (.cells (zs.map (Value.int .i64)).toArray t)) w.heap.size zs.length := by
  refine ⟨by simp, fun j hj => ⟨zs[j], h _ (List.getElem_mem hj), ?_⟩⟩
  rw [World.cell?_alloc_new]
  simp [hj]
/-- The bytes of a law's argument. -/
structure Code8 (w : World) (A : Option Addr) (n : Nat) : Prop where
  len : n ≤ 9223372036854775807
  code : 0 < n → ∃ a, A = some a ∧ a.block < w.heap.size ∧ ∀ j, j < n → ∃ z : Int, 0 ≤ z ∧ z ≤ 255 ∧ w.cell? (a.add j) = some (.int .u8 z)
theorem Code8.below {w w' : World} {A : Option Addr} {n : Nat} (h : Code8 w A n) (hb : Below w.heap.size w w') : Code8 w' A n := by
  refine ⟨h.len, fun hn => ?_⟩
  obtain ⟨a, rfl, ha, hc⟩ := h.code hn
  exact ⟨a, rfl, Nat.lt_of_lt_of_le ha hb.size, fun j hj => by
    obtain ⟨z, z0, z1, hz⟩ := hc j hj
    exact ⟨z, z0, z1, (hb.cell (by rw [add_block]; exact ha)).trans hz⟩⟩
def NewCur (A : Option Addr) (n c : Nat) (w : World) (e : Ending) (w' : World) : Prop :=
  e = .returned (.pointer (some ⟨w.heap.size, 0, none⟩)) ∧ Below w.heap.size w w' ∧ Cur w' w.heap.size A n c
theorem newcur_mk {A : Option Addr} {n c : Nat} {w : World} (h : Code8 w A n) (x : Int) (t : TypeId) (w' : World)
    (e : w' = w.alloc (.cells #[.slice A n c, .int .i64 0, .int .i64 x] t)) : Below w.heap.size w w' ∧ Cur w' w.heap.size A n c := by
  subst e
  refine ⟨(Below.refl _ _).alloc (Nat.le_refl _) _, by simp, by rw [World.cell?_alloc_new]; rfl, ⟨0, Nat.zero_le _, by rw [World.cell?_alloc_new]; rfl⟩, ⟨x, by rw [World.cell?_alloc_new]; rfl⟩, fun k => World.frozen?_alloc_new _ _ _ _, h.len, fun hn => ?_⟩
  obtain ⟨a, rfl, ha, hc⟩ := h.code hn
  exact ⟨a, rfl, ha, fun j hj => by
    obtain ⟨z, z0, z1, hz⟩ := hc j hj
    exact ⟨z, z0, z1, by rw [World.cell?_alloc_lt _ _ _ (by rw [add_block]; exact ha)]; exact hz⟩⟩
theorem lt_of_cell {w : World} {a : Addr} {v : Value} (h : w.cell? a = some v) : a.block < w.heap.size := by
  rcases Nat.lt_or_ge a.block w.heap.size with h' | h'
  · exact h'
  · simp [World.cell?, Array.getElem?_eq_none h'] at h
theorem code8_open {H : Type} {enc : TypeId × Value → H} {P : Program} {W : World} {t e : TypeId} {v : Value} {d : DataW H} {p : List MemPlace} {base : Nat} (ht : P.underlying t = some (.slice e)) (he : P.underlying e = some (.int .u8)) (hc : P.cellsOf e = 1)
    (hv : Value.okWide P W .any base t v) (h : DataW.Trod enc P W 0 (fun _ => true) true t v d p) : ∃ A n c, v = .slice A n c ∧ Code8 W A n := by
  obtain ⟨A, n, c, rfl⟩ := okWide_slice ht hv
  obtain ⟨fuel, hf⟩ := h
  refine ⟨A, n, c, rfl, ?_⟩
  rcases open_ints ht he hc hf with ⟨e1, _⟩ | ⟨a, len, cap, zs, e1, _, h1, h2, hl, _, hcell, hwf⟩
  · simp [Value.cells] at e1
    obtain ⟨rfl, rfl, rfl⟩ := e1
    exact ⟨by omega, fun hn => absurd hn (by omega)⟩
  · simp [Value.cells] at e1
    obtain ⟨rfl, rfl, rfl⟩ := e1
    simp only [if_true] at hl
    unfold maxLen at h2
    refine ⟨by omega, fun hn => ⟨a, rfl, ?_, fun j hj => ?_⟩⟩
    · have := lt_of_cell (hcell 0 (by omega))
      rwa [add_block] at this
    · have hw := hwf (zs.getD j 0) (by
        have : zs.getD j 0 = zs[j]'(by omega) := by simp [List.getD, List.getElem?_eq_getElem (show j < zs.length by omega)]
        rw [this]; exact List.getElem_mem _)
      simp only [Lit.wf, Bool.and_eq_true, decide_eq_true_eq] at hw
      have e0 : IntKind.u8.min = 0 := by decide
      have e255 : IntKind.u8.max = 255 := by decide
      exact ⟨_, by omega, by omega, hcell j (by omega)⟩
theorem drawn_below {w w1 w2 : World} (hb : Below w.heap.size w w1) (hg : w1.grownBy w2 (some w.heap.size)) : Below w.heap.size w w2 :=
  hb.grown hg hb.size (fun k e => by cases e; exact Nat.le_refl _)
end Go.Proofs.Ytdhnhhicjjcmdaa
