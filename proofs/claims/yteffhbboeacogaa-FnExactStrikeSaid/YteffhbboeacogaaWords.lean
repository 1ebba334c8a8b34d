/- Words for memory and their plain lemmas, over any program: what a slice value reads as (Rd), a row that the call made and where it lies (Row), a world that has turned between two block numbers alone (Out). No conditions. -/
import Derived.Test.YteffhbboeacogaaBase
import Derived.OwnWalk
import Derived.Deep.AppendLies
import Derived.Laws.OwnMore
namespace Go.Proofs.Yteffhbboeacogaa
open Go.ChangeShapes Go.WideShapes Go.ChangeAt Go.RowKit
/-- The cells behind a slice's address read as xs, below block B. -/
def Rd (w : World) (B : Nat) (A : Option Addr) (xs : List Value) : Prop := ∀ j u, xs[j]? = some u → ∃ ad, A = some ad ∧ ad.block < B ∧ w.cell? (ad.add j) = some u
theorem add_blk (a : Addr) (n : Nat) : (a.add n).block = a.block := by unfold Addr.add; split <;> rfl
section
variable {w w' : World} {B B' lo hi lo' hi' : Nat} {A : Option Addr} {xs ys : List Value} {t t' : TypeId} {v v' : Value}
theorem Rd.keep (h : Rd w B A xs) (hk : ∀ b, b < B → w'.heap[b]? = w.heap[b]?) : Rd w' B A xs := fun j u hu => by
  obtain ⟨ad, e, hb, hc⟩ := h j u hu
  exact ⟨ad, e, hb, (World.cell?_of_block (hk _ (by rw [add_blk]; exact hb))).trans hc⟩
theorem Rd.below (h : Rd w B A xs) (hb : Below B w w') : Rd w' B A xs := h.keep hb.block
theorem Rd.more (h : Rd w B A xs) (hB : B ≤ B') : Rd w B' A xs := fun j u hu => by
  obtain ⟨ad, e, hb, hc⟩ := h j u hu
  exact ⟨ad, e, by omega, hc⟩
theorem Rd.nil : Rd w B A [] := fun j u hu => by simp at hu
theorem Rd.drewN (h : Rd w B A xs) (n : Nat) : Rd (w.drewN n) B A xs := h
theorem Rd.at_ (h : Rd w B A xs) {k : Nat} (hk : k < xs.length) : ∃ ad, A = some ad ∧ ad.block < B ∧ w.cell? (ad.add k) = some xs[k] :=
  h k _ (List.getElem?_eq_getElem hk)
/-- The world has turned, below its old size, in the blocks lo to hi alone. -/
structure Out (lo hi : Nat) (w w' : World) : Prop where
  os : w'.os = w.os
  tape : w'.tape = w.tape
  output : w'.output = w.output
  size : w.heap.size ≤ w'.heap.size
  block : ∀ k, k < w.heap.size → (k < lo ∨ hi ≤ k) → w'.heap[k]? = w.heap[k]?
theorem Out.refl : Out lo hi w w := ⟨rfl, rfl, rfl, Nat.le_refl _, fun _ _ _ => rfl⟩
theorem Out.trans {a b c : World} (h : Out lo hi a b) (k : Out lo hi b c) : Out lo hi a c :=
  ⟨k.os.trans h.os, k.tape.trans h.tape, k.output.trans h.output, Nat.le_trans h.size k.size, fun i hi' hn => (k.block i (Nat.lt_of_lt_of_le hi' h.size) hn).trans (h.block i hi' hn)⟩
theorem Out.drewN (h : Out lo hi w w') (n : Nat) : Out lo hi w (w'.drewN n) := ⟨h.os, h.tape, h.output, h.size, h.block⟩
theorem Out.below (h : Out lo hi w w') (h1 : B ≤ lo) (h2 : B ≤ w.heap.size) : Below B w w' :=
  ⟨h.os, h.tape, h.output, h.size, fun k hk => h.block k (by omega) (.inl (by omega))⟩
theorem Out.of_below (h : Below w.heap.size w w') : Out lo hi w w' := ⟨h.os, h.tape, h.output, h.size, fun k hk _ => h.block k hk⟩
theorem Rd.out (h : Rd w B A xs) (o : Out lo hi w w') (h1 : B ≤ lo) (h2 : B ≤ w.heap.size) : Rd w' B A xs := h.below (o.below h1 h2)
/-- A row of type t that lies in one of the blocks lo to hi, written by nobody else. -/
def Row (w : World) (lo hi : Nat) (t : TypeId) (v : Value) (xs : List Value) : Prop := w.ownsRow lo t 1 v xs.length xs ∧ ∀ g, v.ownBlock = some g → g < hi
theorem Row.own (h : Row w lo hi t v xs) {n : Nat} (hn : xs.length = n) : w.ownsRow lo t 1 v n xs := hn ▸ h.1
theorem Row.keep (h : Row w lo hi t v xs) (hk : ∀ b, lo ≤ b → b < hi → b < w.heap.size → w'.heap[b]? = w.heap[b]?) : Row w' lo hi t v xs := by
  refine ⟨⟨h.1.1, ?_⟩, h.2⟩
  rcases h.1.2 with hn | ⟨g, cap, cur, rfl, hb, hgg, rest⟩
  · exact .inl hn
  · exact .inr ⟨g, cap, cur, rfl, hb, (hk g hb (h.2 g rfl) (Array.getElem?_eq_some_iff.1 hgg).1).trans hgg, rest⟩
theorem Row.below (h : Row w lo hi t v xs) (hb : Below B w w') (hB : hi ≤ B) : Row w' lo hi t v xs := h.keep fun b _ h2 _ => hb.block b (by omega)
theorem Row.new (h : Row w lo hi t v xs) (hb : Below w.heap.size w w') : Row w' lo hi t v xs := h.keep fun b _ _ h3 => hb.block b h3
theorem Row.out (h : Row w lo hi t v xs) (o : Out lo' hi' w w') (hd : hi ≤ lo' ∨ hi' ≤ lo) : Row w' lo hi t v xs := h.keep fun b h1 h2 h3 => o.block b h3 (by omega)
theorem Row.wide (h : Row w lo hi t v xs) (h1 : lo' ≤ lo) (h2 : hi ≤ hi') : Row w lo' hi' t v xs := by
  refine ⟨⟨h.1.1, ?_⟩, fun g hg => by have := h.2 g hg; omega⟩
  rcases h.1.2 with hn | ⟨g, cap, cur, e, hb, rest⟩
  · exact .inl hn
  · exact .inr ⟨g, cap, cur, e, by omega, rest⟩
theorem Row.drewN (h : Row w lo hi t v xs) (n : Nat) : Row (w.drewN n) lo hi t v xs := h
theorem Row.rd (h : Row w lo hi t v xs) {n : Nat} (hn : xs.length = n) : ∃ A c, v = .slice A n c ∧ Rd w hi A xs ∧ n ≤ c ∧ c ≤ maxLen := by
  subst hn
  rcases h.1.2 with ⟨rfl, hn⟩ | ⟨g, cap, cur, rfl, hb, hgg, hnc, hcm, hcs, htk⟩
  · have : xs = [] := List.eq_nil_of_length_eq_zero hn
    subst this
    exact ⟨none, 0, rfl, Rd.nil, Nat.le_refl _, Nat.zero_le _⟩
  · refine ⟨some ⟨g, 0, none⟩, cap, rfl, fun j u hu => ⟨_, rfl, h.2 g rfl, ?_⟩, hnc, hcm⟩
    exact h.1.cells (g := g) rfl j u hu
theorem Row.of_own {n : Nat} (h : w.ownsRow lo t 1 v n xs) : Row w lo w.heap.size t v xs := by
  have hn : n = xs.length := by have := h.1; omega
  subst hn
  exact ⟨h, fun g hg => (h.lt g hg).2⟩
theorem Row.len (h : Row w lo hi t v xs) : xs.length ≤ maxLen := by
  obtain ⟨A, c, _, _, h1, h2⟩ := h.rd rfl; omega
theorem Row.nil : Row w lo hi t (.slice none 0 0) [] := ⟨World.ownsRow_nil _ _ _ _, fun g hg => by simp [Value.ownBlock] at hg⟩
theorem Row.rd' {n c : Nat} (h : Row w lo hi t (.slice A n c) xs) : Rd w hi A xs := by
  obtain ⟨A', c', h1, h2, _, _⟩ := h.rd (n := xs.length) rfl
  injection h1 with e1 e2 e3
  subst e1
  exact h2
end
theorem cell_lt {w : World} {a : Addr} {v : Value} (h : w.cell? a = some v) : a.block < w.heap.size := by
  rcases Nat.lt_or_ge a.block w.heap.size with h' | h'
  · exact h'
  · simp [World.cell?, Array.getElem?_eq_none h'] at h
/-- What an argument that is a slice of integers gives. -/
theorem slice_open {H : Type} {enc : TypeId × Value → H} {P : Program} {W : World} {t e : TypeId} {k : IntKind} {v : Value} {d : DataW H} {p : List MemPlace} {base : Nat} (ht : P.underlying t = some (.slice e)) (he : P.underlying e = some (.int k)) (hc : P.cellsOf e = 1)
    (hv : Value.okWide P W .any base t v) (h : DataW.Trod enc P W 0 (fun _ => true) true t v d p) :
    ∃ (A : Option Addr) (c : Nat) (zs : List Int), v = .slice A zs.length c ∧ Rd W W.heap.size A (zs.map (Value.int k)) ∧ zs.length ≤ c ∧ c ≤ maxLen ∧ ∀ x ∈ zs, k.min ≤ x ∧ x ≤ k.max := by
  obtain ⟨A, n, c, rfl⟩ := okWide_slice ht hv
  obtain ⟨fuel, hf⟩ := h
  rcases open_ints ht he hc hf with ⟨e1, _⟩ | ⟨a, len, cap, zs, e1, _, h1, h2, hl, _, hcell, hwf⟩
  · simp [Value.cells] at e1
    obtain ⟨rfl, rfl, rfl⟩ := e1
    exact ⟨none, 0, [], rfl, Rd.nil, Nat.le_refl _, Nat.zero_le _, by simp⟩
  · simp [Value.cells] at e1
    obtain ⟨rfl, rfl, rfl⟩ := e1
    simp only [if_true] at hl
    have hlt : (zs.take n).length = n := by rw [List.length_take]; omega
    refine ⟨some a, c, zs.take n, by rw [hlt], fun j u hu => ?_, by rw [hlt]; omega, by omega, fun x hx => ?_⟩
    · have hj : j < n := by
        rcases Nat.lt_or_ge j n with h' | h'
        · exact h'
        · rw [List.getElem?_eq_none (by rw [List.length_map, hlt]; exact h')] at hu; cases hu
      have hjz : j < zs.length := by omega
      have hu2 : u = .int k zs[j] := by
        rw [List.getElem?_map, List.getElem?_take, if_pos hj, List.getElem?_eq_getElem hjz] at hu
        simpa using hu.symm
      have hcj := hcell j hjz
      rw [show zs.getD j 0 = zs[j] by simp [List.getD, List.getElem?_eq_getElem hjz]] at hcj
      refine ⟨a, rfl, ?_, by rw [hu2]; exact hcj⟩
      have := cell_lt hcj
      rwa [add_blk] at this
    · have hw := hwf x (List.mem_of_mem_take hx)
      simpa [Lit.wf] using hw
/-- A new row that reads as xs is returned; what was there is as it was. -/
def Fresh (t : TypeId) (xs : List Value) (w : World) (e : Ending) (w' : World) : Prop :=
  ∃ v, e = .returned v ∧ Row w' w.heap.size w'.heap.size t v xs ∧ Below w.heap.size w w'
end Go.Proofs.Yteffhbboeacogaa
