/- Contracts of AppendBytes and ReadBytes and of their models. No conditions but that each byte lies in 0 to 255 and that the slices have at most 2^45 elements. -/
import Derived.Test.YtjhknafajfpldaaDoorMg15
import Derived.Test.YtjhknafajfpldaaDoorMg14
import Derived.Test.YtjhknafajfpldaaDoorMg1
namespace Go.Proofs.YtjhknafajfpldaaDoor
open Go.ChangeShapes Go.WideShapes Go.ChangeAt Go.RowKit
theorem Rd.cut {w : World} {B : Nat} {ad : Addr} {xs : List Value} (h : Rd w B (some ad) xs) (q m : Nat) : Rd w B (some (ad.add q)) ((xs.drop q).take m) := fun j u hu => by
  have hj : xs[q + j]? = some u := by
    rcases Nat.lt_or_ge j m with hm | hm
    · rw [List.getElem?_take, if_pos hm, List.getElem?_drop] at hu; exact hu
    · rw [List.getElem?_take, if_neg (by omega)] at hu; cases hu
  obtain ⟨ad', e, hb, hc⟩ := h _ u hj
  injection e with e
  subst e
  exact ⟨_, rfl, by rw [add_blk]; exact hb, by rw [add_add_]; exact hc⟩
theorem bvs_cut (zs : List Int) (q m : Nat) : ((bvs zs).drop q).take m = bvs ((zs.drop q).take m) := by simp [bvs]
/-- As Fresh, with two more results. -/
def Fresh3 (t : TypeId) (xs : List Value) (a b : Value) (w : World) (e : Ending) (w' : World) : Prop :=
  ∃ v, e = .returned (.tuple #[v, a, b]) ∧ Row w' w.heap.size w'.heap.size t v xs ∧ Below w.heap.size w w'
/-- What ReadBytes answers: the bytes and the offset behind them. -/
def rbAt (zs : List Int) (o most : Int) : Option (List Int × Int) :=
  match rvAt zs o with
  | none => none
  | some (m, j) => if most < m ∨ (zs.length : Int) - (o + j) < m then none else some ((zs.drop (o.toNat + j)).take m.toNat, o + j + m)
theorem rbAt_len {zs ys : List Int} {o most r : Int} (h : rbAt zs o most = some (ys, r)) : ys.length ≤ zs.length := by
  unfold rbAt at h
  split at h
  · cases h
  · split at h
    · cases h
    · injection h with h
      injection h with h _
      rw [← h, List.length_take, List.length_drop]; omega
theorem Fresh3.nil {w w' : World} {t : TypeId} {a b : Value} (hb : Below w.heap.size w w') {cs : Array Value} (hcs : cs = #[]) : Fresh3 t (bvs []) a b w (.returned (.tuple #[.slice (some ⟨w'.heap.size, 0, none⟩) 0 0, a, b])) (w'.alloc (.cells cs t)) := by
  subst hcs
  exact ⟨_, rfl, (Row.made (w := w') w.heap.size #[] 0 t hb.size rfl (Nat.zero_le _)).wide (Nat.le_refl _) (by simp), hb.alloc hb.size _⟩
end Go.Proofs.YtjhknafajfpldaaDoor

/- Contracts of the draws that give slices of bytes: which bytes is left open, but each lies in 0 to 255 and the row is new. Condition: the cursor lies in a block of its own (Cur). -/
namespace Go.Proofs.YtjhknafajfpldaaDoor
open Go.ChangeShapes Go.WideShapes Go.ChangeAt Go.RowKit
theorem code8_of_rd {W : World} {A : Option Addr} {zs : List Int} (hr : Rd W W.heap.size A (bvs zs)) (hb : ∀ x ∈ zs, 0 ≤ x ∧ x ≤ 255) (hn : zs.length ≤ 9223372036854775807) : Code8 W A zs.length :=
  ⟨hn, fun hp => by
    obtain ⟨ad, e, h1, _⟩ := bvs_at hr hp
    refine ⟨ad, e, h1, fun j hj => ?_⟩
    obtain ⟨ad', e', _, hc⟩ := bvs_at hr hj
    have : ad' = ad := by rw [e] at e'; injection e' with e'; exact e'.symm
    subst this
    have hx := hb zs[j] (List.getElem_mem _)
    exact ⟨_, hx.1, hx.2, hc⟩⟩
theorem Out.of_only {w w' : World} {B : Nat} (h : w.grownBy w' (some B)) : Out B (B + 1) w w' := ⟨h.os, h.tape, h.output, h.size, fun k hk hne => h.block k hk (fun e => by injection e; omega)⟩
theorem only_new {a w : World} (h : Below a.heap.size a w) (r : Option Nat) : a.grownBy w r := ⟨h.os, h.tape, h.output, h.size, fun i hi _ => h.block i hi⟩
theorem only_then {a b c : World} {r : Option Nat} (h : a.grownBy b r) (k : Below a.heap.size b c) : a.grownBy c r :=
  ⟨k.os.trans h.os, k.tape.trans h.tape, k.output.trans h.output, Nat.le_trans h.size k.size, fun i hi hne => (k.block i hi).trans (h.block i hi hne)⟩
theorem Cur.below' {w w' : World} {B L : Nat} {A : Option Addr} {n c : Nat} (h : Cur w B A n c) (hb : Below L w w') (hL : B < L) : Cur w' B A n c := h.keep hb.size (fun k hk => hb.block k (by omega))
theorem cur_below {w w1 w2 : World} {B : Nat} (hb : Below w.heap.size w w1) (hg : w1.grownBy w2 (some B)) (hB : w.heap.size ≤ B) : Below w.heap.size w w2 :=
  hb.grown hg hb.size (fun k e => by cases e; exact hB)
/-- m bytes were drawn into a new row. -/
def DrewRow (m : Nat) (B : Nat) (A : Option Addr) (n c : Nat) (w : World) (e : Ending) (w' : World) : Prop :=
  ∃ (ys : List Int) (v : Value), ys.length = m ∧ (∀ x ∈ ys, 0 ≤ x ∧ x ≤ 255) ∧ e = .returned v ∧ Row w' w.heap.size w'.heap.size 5 v (bvs ys) ∧ w.grownBy w' (some B) ∧ Cur w' B A n c
theorem bytes_snoc {ys : List Int} {x : Int} (h : ∀ y ∈ ys, 0 ≤ y ∧ y ≤ 255) (hx : 0 ≤ x ∧ x ≤ 255) : ∀ y ∈ ys ++ [x], 0 ≤ y ∧ y ≤ 255 := by
  intro y hy
  rw [List.mem_append, List.mem_singleton] at hy
  rcases hy with hy | rfl
  · exact h y hy
  · exact hx
/-- A row of bytes and an integer were drawn; nothing old has turned. -/
def DrewBI (P : Int → Prop) (m : Nat) (w : World) (e : Ending) (w' : World) : Prop :=
  ∃ (ys : List Int) (x : Int) (v : Value), ys.length ≤ m ∧ (∀ x ∈ ys, 0 ≤ x ∧ x ≤ 255) ∧ P x ∧ e = .returned (.tuple #[v, .int .i64 x]) ∧ Row w' w.heap.size w'.heap.size 5 v (bvs ys) ∧ Below w.heap.size w w'
/-- Two rows of bytes were drawn; nothing old has turned. -/
def DrewBB (m m' : Nat) (w : World) (e : Ending) (w' : World) : Prop :=
  ∃ (ys zs : List Int) (v v' : Value) (M : Nat), ys.length ≤ m ∧ zs.length ≤ m' ∧ (∀ x ∈ ys, 0 ≤ x ∧ x ≤ 255) ∧ (∀ x ∈ zs, 0 ≤ x ∧ x ≤ 255) ∧ e = .returned (.tuple #[v, v']) ∧ w.heap.size ≤ M ∧ M ≤ w'.heap.size ∧
    Row w' w.heap.size M 5 v (bvs ys) ∧ Row w' M w'.heap.size 5 v' (bvs zs) ∧ Below w.heap.size w w'
end Go.Proofs.YtjhknafajfpldaaDoor

/- Contracts of chapter 3's draws: keys and values lie in -1 to 2^31, rows are short. Condition: the cursor lies in a block of its own (Cur). -/
namespace Go.Proofs.YtjhknafajfpldaaDoor
open Go.ChangeShapes Go.WideShapes Go.ChangeAt Go.RowKit
def InW (x : Int) : Prop := -1 ≤ x ∧ x ≤ 2147483648
theorem mulW {a b : Int} (a0 : 0 ≤ a) (a1 : a < 1000000) (b0 : 0 ≤ b) (b1 : b < 2000) : 0 ≤ a * b ∧ a * b ≤ 2000000000 := by
  have h1 := Int.mul_nonneg a0 b0
  have h2 : a * b ≤ 1000000 * b := Int.mul_le_mul_of_nonneg_right (by omega) b0
  omega
/-- At most m integers, each InW, were drawn into a new row. -/
def DrewWs (m : Nat) (B : Nat) (A : Option Addr) (n c : Nat) (w : World) (e : Ending) (w' : World) : Prop :=
  ∃ (ys : List Int) (v : Value), ys.length ≤ m ∧ (∀ x ∈ ys, InW x) ∧ e = .returned v ∧ Row w' w.heap.size w'.heap.size 3 v (ivs ys) ∧ w.grownBy w' (some B) ∧ Cur w' B A n c
theorem inW_snoc {ys : List Int} {x : Int} (h : ∀ y ∈ ys, InW y) (hx : InW x) : ∀ y ∈ ys ++ [x], InW y := by
  intro y hy
  rw [List.mem_append, List.mem_singleton] at hy
  rcases hy with hy | rfl
  · exact h y hy
  · exact hx
theorem ivs_snoc_w (zs : List Int) (x : Int) : ivs zs ++ [Value.int .i64 x] = ivs (zs ++ [x]) := by simp [ivs]
/-- An integer InW and a row of bytes were drawn; nothing old has turned. -/
def DrewWB (m : Nat) (w : World) (e : Ending) (w' : World) : Prop :=
  ∃ (x : Int) (ys : List Int) (v : Value), InW x ∧ ys.length ≤ m ∧ (∀ x ∈ ys, 0 ≤ x ∧ x ≤ 255) ∧ e = .returned (.tuple #[.int .i64 x, v]) ∧ Row w' w.heap.size w'.heap.size 5 v (bvs ys) ∧ Below w.heap.size w w'
/-- An integer and a row of integers were drawn, each InW; nothing old has turned. -/
def DrewWW (m : Nat) (w : World) (e : Ending) (w' : World) : Prop :=
  ∃ (x : Int) (ys : List Int) (v : Value), InW x ∧ ys.length ≤ m ∧ (∀ x ∈ ys, InW x) ∧ e = .returned (.tuple #[.int .i64 x, v]) ∧ Row w' w.heap.size w'.heap.size 3 v (ivs ys) ∧ Below w.heap.size w w'
/-- A string of at most 100 bytes was drawn. -/
def DrewStr (B : Nat) (A : Option Addr) (n c : Nat) (w : World) (e : Ending) (w' : World) : Prop :=
  ∃ s : ByteArray, s.size ≤ 100 ∧ e = .returned (.string s) ∧ w.grownBy w' (some B) ∧ Cur w' B A n c
def StrRow (w : World) (G k : Nat) : Prop := G < w.heap.size ∧ ∀ j, j < k → ∃ s : ByteArray, s.size ≤ 100 ∧ w.cell? ⟨G, j, none⟩ = some (.string s)
theorem strrow_alloc (w : World) (zs : List ByteArray) (t : TypeId) (h : ∀ z ∈ zs, z.size ≤ 100) : StrRow (w.alloc (.cells (zs.map Value.string).toArray t)) w.heap.size zs.length := by
  refine ⟨by simp, fun j hj => ⟨zs[j], h _ (List.getElem_mem _), ?_⟩⟩
  rw [cell_of_row _ _ j _ t (0, 0) (heap_alloc_new w _)]
  simp [hj]
/-- An integer InW and a short string were drawn; nothing old has turned. -/
def DrewWS (w : World) (e : Ending) (w' : World) : Prop :=
  ∃ (x : Int) (s : ByteArray), InW x ∧ s.size ≤ 100 ∧ e = .returned (.tuple #[.int .i64 x, .string s]) ∧ Below w.heap.size w w'
end Go.Proofs.YtjhknafajfpldaaDoor
