/- Contracts of AppendUvarint, of its helpers and of its model: b with the groups of n behind it, in memory of its own. No conditions but that b has at most 2^46 elements. -/
import Derived.Test.YtdpaoaoipnoiiaaMg2
import Derived.Test.YtdpaoaoipnoiiaaMg0
namespace Go.Proofs.Ytdpaoaoipnoiiaa
open Go.ChangeShapes Go.WideShapes Go.ChangeAt Go.RowKit
theorem or128 (m : Int) : bits .or .i64 (m % 128) 128 = m % 128 + 128 := by
  obtain ⟨y, hy⟩ := Int.eq_ofNat_of_zero_le (show 0 ≤ m % 128 by omega)
  rw [hy]
  have h := or_nat y 128 (by omega) (by omega)
  have e : y ||| 128 = 128 + y := by
    have := Nat.shiftLeft_add_eq_or_of_lt (show y < 2 ^ 7 by omega) 1
    rw [Nat.or_comm]
    simpa using this.symm
  rw [show ((128 : Nat) : Int) = 128 from rfl] at h
  rw [h, e]; omega
theorem bvs_snoc (zs : List Int) (x : Int) : bvs zs ++ [Value.int .u8 x] = bvs (zs ++ [x]) := by simp [bvs]
theorem bvs_app (zs ys : List Int) : bvs zs ++ bvs ys = bvs (zs ++ ys) := by simp [bvs]
theorem bvs_one (zs : List Int) : ∀ u ∈ bvs zs, u.oneCell' = true := int_one
theorem uv_split (f : Nat) (m : Int) (h1 : m < pw (f + 1)) (h : 128 ≤ m) : ∃ f', f = f' + 1 ∧ uv f m = (m % 128 + 128) :: uv f' (m / 128) ∧ 0 ≤ m / 128 ∧ m / 128 < pw (f' + 1) := by
  cases f with
  | zero => have : pw (0 + 1) = 128 := by decide
            omega
  | succ f => 
    have := pw_succ (f + 1)
    exact ⟨f, rfl, by simp [uv, show ¬ m < 128 by omega], by omega, by omega⟩
/-- append([]byte{}, b...): the part that both share. -/
theorem bvs_empty : (#[] : Array Value).toList = bvs [] := rfl
/-- A row that lies from block lo on is returned; below lo nothing has turned. -/
def Grew (lo : Nat) (t : TypeId) (xs : List Value) (w : World) (e : Ending) (w' : World) : Prop :=
  ∃ v, e = .returned v ∧ Row w' lo w'.heap.size t v xs ∧ Below lo w w'
theorem app_len {zs done : List Int} {k : Nat} (h : zs.length ≤ 70368744177664) (hd : done.length ≤ k) (hk : k ≤ 100) : (bvs (zs ++ done)).length + 1 ≤ maxLen ∧ ((bvs (zs ++ done)).length + 1) * 1 ≤ 140737488355328 := by
  rw [bvs_len, List.length_append]; unfold maxLen; omega
end Go.Proofs.Ytdpaoaoipnoiiaa

/- Contracts of AppendBytes and ReadBytes and of their models. No conditions but that each byte lies in 0 to 255 and that the slices have at most 2^45 elements. -/
namespace Go.Proofs.Ytdpaoaoipnoiiaa
open Go.ChangeShapes Go.WideShapes Go.ChangeAt Go.RowKit
theorem Rd.cut {w : World} {B : Nat} {ad : Addr} {xs : List Value} (h : Rd w B (some ad) xs) (q m : Nat) : Rd w B (some (ad.add q)) ((xs.drop q).take m) := fun j u hu => by
  have hj : xs[q + j]? = some u := by
    rcases Nat.lt_or_ge j m with hm | hm
    · rw [List.getElem?_take, if_pos hm, List.getElem?_drop] at hu; exact hu
    · rw [List.getElem?_take, if_neg (by omega)] at hu; cases hu
  obtain ⟨ad', e, hb, hc⟩ := h _ u hj
  injection e with e
  subst e
  exact ⟨_, rfl, by rw [add_blk]; exact hb, by rw [add_add_]; exact hc⟩
theorem bvs_cut (zs : List Int) (q m : Nat) : ((bvs zs).drop q).take m = bvs ((zs.drop q).take m) := by simp [bvs]
/-- As Fresh, with two more results. -/
def Fresh3 (t : TypeId) (xs : List Value) (a b : Value) (w : World) (e : Ending) (w' : World) : Prop :=
  ∃ v, e = .returned (.tuple #[v, a, b]) ∧ Row w' w.heap.size w'.heap.size t v xs ∧ Below w.heap.size w w'
/-- What ReadBytes answers: the bytes and the offset behind them. -/
def rbAt (zs : List Int) (o most : Int) : Option (List Int × Int) :=
  match rvAt zs o with
  | none => none
  | some (m, j) => if most < m ∨ (zs.length : Int) - (o + j) < m then none else some ((zs.drop (o.toNat + j)).take m.toNat, o + j + m)
theorem rbAt_len {zs ys : List Int} {o most r : Int} (h : rbAt zs o most = some (ys, r)) : ys.length ≤ zs.length := by
  unfold rbAt at h
  split at h
  · cases h
  · split at h
    · cases h
    · injection h with h
      injection h with h _
      rw [← h, List.length_take, List.length_drop]; omega
theorem Fresh3.nil {w w' : World} {t : TypeId} {a b : Value} (hb : Below w.heap.size w w') {cs : Array Value} (hcs : cs = #[]) : Fresh3 t (bvs []) a b w (.returned (.tuple #[.slice (some ⟨w'.heap.size, 0, none⟩) 0 0, a, b])) (w'.alloc (.cells cs t)) := by
  subst hcs
  exact ⟨_, rfl, (Row.made (w := w') w.heap.size #[] 0 t hb.size rfl (Nat.zero_le _)).wide (Nat.le_refl _) (by simp), hb.alloc hb.size _⟩
end Go.Proofs.Ytdpaoaoipnoiiaa

/- Contracts of the draws that give slices of bytes: which bytes is left open, but each lies in 0 to 255 and the row is new. Condition: the cursor lies in a block of its own (Cur). -/
namespace Go.Proofs.Ytdpaoaoipnoiiaa
open Go.ChangeShapes Go.WideShapes Go.ChangeAt Go.RowKit
theorem code8_of_rd {W : World} {A : Option Addr} {zs : List Int} (hr : Rd W W.heap.size A (bvs zs)) (hb : ∀ x ∈ zs, 0 ≤ x ∧ x ≤ 255) (hn : zs.length ≤ 9223372036854775807) : Code8 W A zs.length :=
  ⟨hn, fun hp => by
    obtain ⟨ad, e, h1, _⟩ := bvs_at hr hp
    refine ⟨ad, e, h1, fun j hj => ?_⟩
    obtain ⟨ad', e', _, hc⟩ := bvs_at hr hj
    have : ad' = ad := by rw [e] at e'; injection e' with e'; exact e'.symm
    subst this
    have hx := hb zs[j] (List.getElem_mem _)
    exact ⟨_, hx.1, hx.2, hc⟩⟩
theorem Out.of_only {w w' : World} {B : Nat} (h : w.grownBy w' (some B)) : Out B (B + 1) w w' := ⟨h.os, h.tape, h.output, h.size, fun k hk hne => h.block k hk (fun e => by injection e; omega)⟩
theorem only_new {a w : World} (h : Below a.heap.size a w) (r : Option Nat) : a.grownBy w r := ⟨h.os, h.tape, h.output, h.size, fun i hi _ => h.block i hi⟩
theorem only_then {a b c : World} {r : Option Nat} (h : a.grownBy b r) (k : Below a.heap.size b c) : a.grownBy c r :=
  ⟨k.os.trans h.os, k.tape.trans h.tape, k.output.trans h.output, Nat.le_trans h.size k.size, fun i hi hne => (k.block i hi).trans (h.block i hi hne)⟩
theorem Cur.below' {w w' : World} {B L : Nat} {A : Option Addr} {n c : Nat} (h : Cur w B A n c) (hb : Below L w w') (hL : B < L) : Cur w' B A n c := h.keep hb.size (fun k hk => hb.block k (by omega))
theorem cur_below {w w1 w2 : World} {B : Nat} (hb : Below w.heap.size w w1) (hg : w1.grownBy w2 (some B)) (hB : w.heap.size ≤ B) : Below w.heap.size w w2 :=
  hb.grown hg hb.size (fun k e => by cases e; exact hB)
/-- m bytes were drawn into a new row. -/
def DrewRow (m : Nat) (B : Nat) (A : Option Addr) (n c : Nat) (w : World) (e : Ending) (w' : World) : Prop :=
  ∃ (ys : List Int) (v : Value), ys.length = m ∧ (∀ x ∈ ys, 0 ≤ x ∧ x ≤ 255) ∧ e = .returned v ∧ Row w' w.heap.size w'.heap.size 5 v (bvs ys) ∧ w.grownBy w' (some B) ∧ Cur w' B A n c
theorem bytes_snoc {ys : List Int} {x : Int} (h : ∀ y ∈ ys, 0 ≤ y ∧ y ≤ 255) (hx : 0 ≤ x ∧ x ≤ 255) : ∀ y ∈ ys ++ [x], 0 ≤ y ∧ y ≤ 255 := by
  intro y hy
  rw [List.mem_append, List.mem_singleton] at hy
  rcases hy with hy | rfl
  · exact h y hy
  · exact hx
/-- A row of bytes and an integer were drawn; nothing old has turned. -/
def DrewBI (P : Int → Prop) (m : Nat) (w : World) (e : Ending) (w' : World) : Prop :=
  ∃ (ys : List Int) (x : Int) (v : Value), ys.length ≤ m ∧ (∀ x ∈ ys, 0 ≤ x ∧ x ≤ 255) ∧ P x ∧ e = .returned (.tuple #[v, .int .i64 x]) ∧ Row w' w.heap.size w'.heap.size 5 v (bvs ys) ∧ Below w.heap.size w w'
/-- Two rows of bytes were drawn; nothing old has turned. -/
def DrewBB (m m' : Nat) (w : World) (e : Ending) (w' : World) : Prop :=
  ∃ (ys zs : List Int) (v v' : Value) (M : Nat), ys.length ≤ m ∧ zs.length ≤ m' ∧ (∀ x ∈ ys, 0 ≤ x ∧ x ≤ 255) ∧ (∀ x ∈ zs, 0 ≤ x ∧ x ≤ 255) ∧ e = .returned (.tuple #[v, v']) ∧ w.heap.size ≤ M ∧ M ≤ w'.heap.size ∧
    Row w' w.heap.size M 5 v (bvs ys) ∧ Row w' M w'.heap.size 5 v' (bvs zs) ∧ Below w.heap.size w w'
end Go.Proofs.Ytdpaoaoipnoiiaa
