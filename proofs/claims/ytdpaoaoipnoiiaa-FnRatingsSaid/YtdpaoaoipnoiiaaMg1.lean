/- Words for memory and their plain lemmas, over any program: what a slice value reads as (Rd), a row that the call made and where it lies (Row), a world that has turned between two block numbers alone (Out). No conditions. -/
import Derived.Test.YtdpaoaoipnoiiaaMg0
import Derived.OwnWalk
import Derived.Deep.AppendLies
import Derived.Laws.OwnMore
import Derived.Test.YtdpaoaoipnoiiaaRows
import Derived.WalkKit
import Derived.ProofKit
import Derived.OpenShut
import Derived.LoopN
import Derived.Handy
import Derived.LoopTactic
import Derived.Lib.Hide
import Derived.IntWalk
import Derived.BigQuiet
import Derived.Deep.QuietTactic
import Derived.Outline
namespace Go.Proofs.Ytdpaoaoipnoiiaa
open Go.ChangeShapes Go.WideShapes Go.ChangeAt Go.RowKit
/-- The cells behind a slice's address read as xs, below block B. -/
def Rd (w : World) (B : Nat) (A : Option Addr) (xs : List Value) : Prop := ∀ j u, xs[j]? = some u → ∃ ad, A = some ad ∧ ad.block < B ∧ w.cell? (ad.add j) = some u
theorem add_blk (a : Addr) (n : Nat) : (a.add n).block = a.block := by unfold Addr.add; split <;> rfl
section
variable {w w' : World} {B B' lo hi lo' hi' : Nat} {A : Option Addr} {xs ys : List Value} {t t' : TypeId} {v v' : Value}
theorem Rd.keep (h : Rd w B A xs) (hk : ∀ b, b < B → w'.heap[b]? = w.heap[b]?) : Rd w' B A xs := fun j u hu => by
  obtain ⟨ad, e, hb, hc⟩ := h j u hu
  exact ⟨ad, e, hb, (World.cell?_of_block (hk _ (by rw [add_blk]; exact hb))).trans hc⟩
theorem Rd.below (h : Rd w B A xs) (hb : Below B w w') : Rd w' B A xs := h.keep hb.block
theorem Rd.more (h : Rd w B A xs) (hB : B ≤ B') : Rd w B' A xs := fun j u hu => by
  obtain ⟨ad, e, hb, hc⟩ := h j u hu
  exact ⟨ad, e, by omega, hc⟩
theorem Rd.nil : Rd w B A [] := fun j u hu => by simp at hu
theorem Rd.drewN (h : Rd w B A xs) (n : Nat) : Rd (w.drewN n) B A xs := h
theorem Rd.at_ (h : Rd w B A xs) {k : Nat} (hk : k < xs.length) : ∃ ad, A = some ad ∧ ad.block < B ∧ w.cell? (ad.add k) = some xs[k] :=
  h k _ (List.getElem?_eq_getElem hk)
/-- The world has turned, below its old size, in the blocks lo to hi alone. -/
structure Out (lo hi : Nat) (w w' : World) : Prop where
  os : w'.os = w.os
  tape : w'.tape = w.tape
  output : w'.output = w.output
  size : w.heap.size ≤ w'.heap.size
  block : ∀ k, k < w.heap.size → (k < lo ∨ hi ≤ k) → w'.heap[k]? = w.heap[k]?
theorem Out.refl : Out lo hi w w := ⟨rfl, rfl, rfl, Nat.le_refl _, fun _ _ _ => rfl⟩
theorem Out.trans {a b c : World} (h : Out lo hi a b) (k : Out lo hi b c) : Out lo hi a c :=
  ⟨k.os.trans h.os, k.tape.trans h.tape, k.output.trans h.output, Nat.le_trans h.size k.size, fun i hi' hn => (k.block i (Nat.lt_of_lt_of_le hi' h.size) hn).trans (h.block i hi' hn)⟩
theorem Out.drewN (h : Out lo hi w w') (n : Nat) : Out lo hi w (w'.drewN n) := ⟨h.os, h.tape, h.output, h.size, h.block⟩
theorem Out.below (h : Out lo hi w w') (h1 : B ≤ lo) (h2 : B ≤ w.heap.size) : Below B w w' :=
  ⟨h.os, h.tape, h.output, h.size, fun k hk => h.block k (by omega) (.inl (by omega))⟩
theorem Out.of_below (h : Below w.heap.size w w') : Out lo hi w w' := ⟨h.os, h.tape, h.output, h.size, fun k hk _ => h.block k hk⟩
theorem Rd.out (h : Rd w B A xs) (o : Out lo hi w w') (h1 : B ≤ lo) (h2 : B ≤ w.heap.size) : Rd w' B A xs := h.below (o.below h1 h2)
/-- A row of type t that lies in one of the blocks lo to hi, written by nobody else. -/
def Row (w : World) (lo hi : Nat) (t : TypeId) (v : Value) (xs : List Value) : Prop := w.ownsRow lo t 1 v xs.length xs ∧ ∀ g, v.ownBlock = some g → g < hi
theorem Row.own (h : Row w lo hi t v xs) {n : Nat} (hn : xs.length = n) : w.ownsRow lo t 1 v n xs := hn ▸ h.1
theorem Row.keep (h : Row w lo hi t v xs) (hk : ∀ b, lo ≤ b → b < hi → b < w.heap.size → w'.heap[b]? = w.heap[b]?) : Row w' lo hi t v xs := by
  refine ⟨⟨h.1.1, ?_⟩, h.2⟩
  rcases h.1.2 with hn | ⟨g, cap, cur, rfl, hb, hgg, rest⟩
  · exact .inl hn
  · exact .inr ⟨g, cap, cur, rfl, hb, (hk g hb (h.2 g rfl) (Array.getElem?_eq_some_iff.1 hgg).1).trans hgg, rest⟩
theorem Row.below (h : Row w lo hi t v xs) (hb : Below B w w') (hB : hi ≤ B) : Row w' lo hi t v xs := h.keep fun b _ h2 _ => hb.block b (by omega)
theorem Row.new (h : Row w lo hi t v xs) (hb : Below w.heap.size w w') : Row w' lo hi t v xs := h.keep fun b _ _ h3 => hb.block b h3
theorem Row.out (h : Row w lo hi t v xs) (o : Out lo' hi' w w') (hd : hi ≤ lo' ∨ hi' ≤ lo) : Row w' lo hi t v xs := h.keep fun b h1 h2 h3 => o.block b h3 (by omega)
theorem Row.wide (h : Row w lo hi t v xs) (h1 : lo' ≤ lo) (h2 : hi ≤ hi') : Row w lo' hi' t v xs := by
  refine ⟨⟨h.1.1, ?_⟩, fun g hg => by have := h.2 g hg; omega⟩
  rcases h.1.2 with hn | ⟨g, cap, cur, e, hb, rest⟩
  · exact .inl hn
  · exact .inr ⟨g, cap, cur, e, by omega, rest⟩
theorem Row.drewN (h : Row w lo hi t v xs) (n : Nat) : Row (w.drewN n) lo hi t v xs := h
theorem Row.rd (h : Row w lo hi t v xs) {n : Nat} (hn : xs.length = n) : ∃ A c, v = .slice A n c ∧ Rd w hi A xs ∧ n ≤ c ∧ c ≤ maxLen := by
  subst hn
  rcases h.1.2 with ⟨rfl, hn⟩ | ⟨g, cap, cur, rfl, hb, hgg, hnc, hcm, hcs, htk⟩
  · have : xs = [] := List.eq_nil_of_length_eq_zero hn
    subst this
    exact ⟨none, 0, rfl, Rd.nil, Nat.le_refl _, Nat.zero_le _⟩
  · refine ⟨some ⟨g, 0, none⟩, cap, rfl, fun j u hu => ⟨_, rfl, h.2 g rfl, ?_⟩, hnc, hcm⟩
    exact h.1.cells (g := g) rfl j u hu
theorem Row.of_own {n : Nat} (h : w.ownsRow lo t 1 v n xs) : Row w lo w.heap.size t v xs := by
  have hn : n = xs.length := by have := h.1; omega
  subst hn
  exact ⟨h, fun g hg => (h.lt g hg).2⟩
theorem Row.len (h : Row w lo hi t v xs) : xs.length ≤ maxLen := by
  obtain ⟨A, c, _, _, h1, h2⟩ := h.rd rfl; omega
theorem Row.nil : Row w lo hi t (.slice none 0 0) [] := ⟨World.ownsRow_nil _ _ _ _, fun g hg => by simp [Value.ownBlock] at hg⟩
theorem Row.rd' {n c : Nat} (h : Row w lo hi t (.slice A n c) xs) : Rd w hi A xs := by
  obtain ⟨A', c', h1, h2, _, _⟩ := h.rd (n := xs.length) rfl
  injection h1 with e1 e2 e3
  subst e1
  exact h2
end
theorem cell_lt {w : World} {a : Addr} {v : Value} (h : w.cell? a = some v) : a.block < w.heap.size := by
  rcases Nat.lt_or_ge a.block w.heap.size with h' | h'
  · exact h'
  · simp [World.cell?, Array.getElem?_eq_none h'] at h
/-- What an argument that is a slice of integers gives. -/
theorem slice_open {H : Type} {enc : TypeId × Value → H} {P : Program} {W : World} {t e : TypeId} {k : IntKind} {v : Value} {d : DataW H} {p : List MemPlace} {base : Nat} (ht : P.underlying t = some (.slice e)) (he : P.underlying e = some (.int k)) (hc : P.cellsOf e = 1)
    (hv : Value.okWide P W .any base t v) (h : DataW.Trod enc P W 0 (fun _ => true) true t v d p) :
    ∃ (A : Option Addr) (c : Nat) (zs : List Int), v = .slice A zs.length c ∧ Rd W W.heap.size A (zs.map (Value.int k)) ∧ zs.length ≤ c ∧ c ≤ maxLen ∧ ∀ x ∈ zs, k.min ≤ x ∧ x ≤ k.max := by
  obtain ⟨A, n, c, rfl⟩ := okWide_slice ht hv
  obtain ⟨fuel, hf⟩ := h
  rcases open_ints ht he hc hf with ⟨e1, _⟩ | ⟨a, len, cap, zs, e1, _, h1, h2, hl, _, hcell, hwf⟩
  · simp [Value.cells] at e1
    obtain ⟨rfl, rfl, rfl⟩ := e1
    exact ⟨none, 0, [], rfl, Rd.nil, Nat.le_refl _, Nat.zero_le _, by simp⟩
  · simp [Value.cells] at e1
    obtain ⟨rfl, rfl, rfl⟩ := e1
    simp only [if_true] at hl
    have hlt : (zs.take n).length = n := by rw [List.length_take]; omega
    refine ⟨some a, c, zs.take n, by rw [hlt], fun j u hu => ?_, by rw [hlt]; omega, by omega, fun x hx => ?_⟩
    · have hj : j < n := by
        rcases Nat.lt_or_ge j n with h' | h'
        · exact h'
        · rw [List.getElem?_eq_none (by rw [List.length_map, hlt]; exact h')] at hu; cases hu
      have hjz : j < zs.length := by omega
      have hu2 : u = .int k zs[j] := by
        rw [List.getElem?_map, List.getElem?_take, if_pos hj, List.getElem?_eq_getElem hjz] at hu
        simpa using hu.symm
      have hcj := hcell j hjz
      rw [show zs.getD j 0 = zs[j] by simp [List.getD, List.getElem?_eq_getElem hjz]] at hcj
      refine ⟨a, rfl, ?_, by rw [hu2]; exact hcj⟩
      have := cell_lt hcj
      rwa [add_blk] at this
    · have hw := hwf x (List.mem_of_mem_take hx)
      simpa [Lit.wf] using hw
/-- A new row that reads as xs is returned; what was there is as it was. -/
def Fresh (t : TypeId) (xs : List Value) (w : World) (e : Ending) (w' : World) : Prop :=
  ∃ v, e = .returned v ∧ Row w' w.heap.size w'.heap.size t v xs ∧ Below w.heap.size w w'
end Go.Proofs.Ytdpaoaoipnoiiaa

/- Contracts of the laws' own helpers over []byte: toByteS copies, eqByteS compares, markByteS writes k, k+1, .. into each place, heldByteS asks for them. For every slice of at most 2^47 - 4096 elements; no other condition. -/
namespace Go.Proofs.Ytdpaoaoipnoiiaa
open Go.ChangeShapes Go.WideShapes Go.ChangeAt Go.RowKit
theorem ByteS_info : (Try.prog.info? 5).map (fun i => (i.zero, i.size, i.bytes)) = some (some (.int .u8 0), 1, 1) := by kernel_rfl
def bvs (zs : List Int) : List Value := zs.map (Value.int .u8)
theorem bvs_len (zs : List Int) : (bvs zs).length = zs.length := by simp [bvs]
theorem bvs_get (zs : List Int) (k : Nat) (h : k < zs.length) : (bvs zs)[k]? = some (.int .u8 zs[k]) := by simp [bvs, h]
theorem bvs_at {w : World} {B : Nat} {A : Option Addr} {zs : List Int} (h : Rd w B A (bvs zs)) {k : Nat} (hk : k < zs.length) :
    ∃ ad, A = some ad ∧ ad.block < B ∧ w.cell? (ad.add k) = some (.int .u8 zs[k]) := h k _ (bvs_get zs k hk)
theorem set_mix (xs ys : List Value) (k : Nat) (u : Value) (hk : k < xs.length) (hl : ys.length = xs.length) (hu : xs[k]? = some u) :
    (xs.take k ++ ys.drop k).set k u = xs.take (k + 1) ++ ys.drop (k + 1) := by
  have h1 : (xs.take k).length = k := by simp; omega
  rw [List.set_append, h1, if_neg (by omega), Nat.sub_self, List.drop_eq_getElem_cons (show k < ys.length by omega)]
  rw [List.getElem?_eq_getElem hk] at hu
  injection hu with hu
  rw [List.set_cons_zero, List.take_succ_eq_append_getElem hk, hu, List.append_assoc]; rfl
/-- A truth value is returned, and nothing that was there has turned. -/
def Tells (b : Bool) (w : World) (e : Ending) (w' : World) : Prop := e = .returned (.bool b) ∧ Below w.heap.size w w'
/-- A truth value is returned, and the world is as it was but for draws. -/
def TellsQ (b : Bool) (w : World) (e : Ending) (w' : World) : Prop := e = .returned (.bool b) ∧ ∃ m, w' = w.drewN m
theorem TellsQ.tells {b : Bool} {w : World} {e : Ending} {w' : World} (h : TellsQ b w e w') : Tells b w e w' := by
  obtain ⟨h1, m, rfl⟩ := h
  exact ⟨h1, below_drewN (Below.refl _ _) m⟩
/-- What markByteS writes: q, q + 1, .. -/
def mks (q : Int) (n : Nat) : List Int := (List.range n).map fun (j : Nat) => (q + (j : Int)) % 256
theorem mks_len (q : Int) (n : Nat) : (mks q n).length = n := by simp [mks]
theorem mks_get (q : Int) (n k : Nat) (h : k < n) : (mks q n)[k]'(by rw [mks_len]; exact h) = (q + k) % 256 := by simp [mks]
theorem bmks_get (q : Int) (n k : Nat) (h : k < n) : (bvs (mks q n))[k]? = some (.int .u8 ((q + k) % 256)) := by
  rw [bvs_get _ _ (by rw [mks_len]; exact h), mks_get q n k h]
/-- An integer is returned, and nothing that was there has turned but what lies between two block numbers. -/
def Marked (x : Int) (lo hi : Nat) (t : TypeId) (v : Value) (xs : List Value) (w : World) (e : Ending) (w' : World) : Prop :=
  e = .returned (.int .i64 x) ∧ Row w' lo hi t v xs ∧ Out lo hi w w'
end Go.Proofs.Ytdpaoaoipnoiiaa

/- Plain mathematics of varints (base 128 groups, least first), over lists of integers; no program is spoken of. Proves that decoding inverts encoding and that a decoded varint is the encoding of its integer. No conditions but the ranges that each theorem names. -/
namespace Go.Proofs.Ytdpaoaoipnoiiaa
/-- The groups of n, at most f + 1 of them. -/
def uv : Nat → Int → List Int
  | 0, n => [n]
  | f + 1, n => if n < 128 then [n] else (n % 128 + 128) :: uv f (n / 128)
def pw (k : Nat) : Int := 128 ^ k
theorem pw_succ (k : Nat) : pw (k + 1) = 128 * pw k := by unfold pw; rw [Int.pow_succ]; omega
theorem pw_pos (k : Nat) : 0 < pw k := by unfold pw; exact Int.pow_pos (by omega)
/-- Decodes: fuel, groups already read, what they hold, the bytes to come. -/
def rv : Nat → Nat → Int → List Int → Option (Int × Nat)
  | 0, _, _, _ => none
  | _ + 1, _, _, [] => none
  | f + 1, k, n, x :: r => if x < 128 then (if (x = 0 ∧ 0 < k) ∨ 1000000000000 < n + x * pw k then none else some (n + x * pw k, k + 1)) else rv f (k + 1) (n + (x - 128) * pw k) r
theorem uv_len (f : Nat) : ∀ n, 0 < (uv f n).length ∧ (uv f n).length ≤ f + 1 := by
  induction f with
  | zero => intro n; simp [uv]
  | succ f ih => intro n; unfold uv; split <;> simp; have := ih (n / 128); omega
theorem uv_small (f : Nat) (n : Int) (h : n < 128) : uv f n = [n] := by
  cases f <;> simp [uv, h]
theorem uv_byte (f : Nat) : ∀ n, 0 ≤ n → n < pw (f + 1) → ∀ x ∈ uv f n, 0 ≤ x ∧ x ≤ 255 := by
  induction f with
  | zero => intro n h0 h1 x hx; have : pw 1 = 128 := by decide
            simp [uv] at hx; simp at h1; omega
  | succ f ih =>
    intro n h0 h1 x hx
    unfold uv at hx
    split at hx
    · simp at hx; omega
    · rw [List.mem_cons] at hx
      rcases hx with rfl | hx
      · omega
      · exact ih (n / 128) (by omega) (by have := pw_succ (f + 1); omega) x hx
theorem rv_uv (f : Nat) : ∀ (k : Nat) (a m : Int) (r : List Int), 0 ≤ m → m < pw (f + 1) → (0 < k → 0 < m) → a + m * pw k ≤ 1000000000000 →
    rv (f + 1) k a (uv f m ++ r) = some (a + m * pw k, k + (uv f m).length) := by
  induction f with
  | zero =>
    intro k a m r h0 h1 hk hM
    have e1 : pw (0 + 1) = 128 := by decide
    have h2 : m < 128 := by omega
    simp only [uv, List.cons_append, List.nil_append, rv, h2, if_true, List.length_singleton]
    rw [if_neg]; rintro (⟨rfl, h⟩ | h)
    · have := hk h; omega
    · omega
  | succ f ih =>
    intro k a m r h0 h1 hk hM
    by_cases h2 : m < 128
    · rw [uv_small _ _ h2]
      simp only [List.cons_append, List.nil_append, rv, h2, if_true, List.length_singleton]
      rw [if_neg]; rintro (⟨rfl, h⟩ | h)
      · have := hk h; omega
      · omega
    · have e : uv (f + 1) m = (m % 128 + 128) :: uv f (m / 128) := by simp [uv, h2]
      have hs := pw_succ k
      have hd : m / 128 * pw (k + 1) + m % 128 * pw k = m * pw k := by
        rw [hs]
        have : m = 128 * (m / 128) + m % 128 := by omega
        generalize m / 128 = q at *
        generalize m % 128 = t at *
        subst this
        rw [Int.add_mul, Int.mul_assoc 128 q, Int.mul_left_comm q 128]
      have h3 := ih (k + 1) (a + m % 128 * pw k) (m / 128) r (by omega) (by have := pw_succ (f + 1); omega) (by omega) (by omega)
      rw [e, List.cons_append]
      show (if m % 128 + 128 < 128 then _ else rv (f + 1) (k + 1) (a + (m % 128 + 128 - 128) * pw k) (uv f (m / 128) ++ r)) = _
      rw [if_neg (by omega), show m % 128 + 128 - 128 = m % 128 by omega, h3, List.length_cons]
      congr 2
      · omega
      · omega
theorem pos_of {x : Int} (h : 0 ≤ x) (h2 : x = 0 → False) : 0 < x := by
  rcases Int.lt_or_eq_of_le h with h | h
  · exact h
  · exact (h2 h.symm).elim
theorem uv_rv (f : Nat) : ∀ (k : Nat) (a n : Int) (j : Nat) (l : List Int), (∀ x ∈ l, 0 ≤ x ∧ x ≤ 255) → rv (f + 1) k a l = some (n, j) →
    ∃ m : Int, 0 ≤ m ∧ n = a + m * pw k ∧ k < j ∧ j - k ≤ l.length ∧ uv f m = l.take (j - k) ∧ (0 < k → 0 < m) ∧ n ≤ 1000000000000 := by
  induction f with
  | zero =>
    intro k a n j l hl h
    cases l with
    | nil => simp [rv] at h
    | cons x r =>
      have hx := hl x (by simp)
      unfold rv at h
      split at h
      · split at h
        · cases h
        · rename_i h1 h2
          injection h with h; injection h with h3 h4
          exact ⟨x, hx.1, h3.symm, by omega, by simp; omega, by subst h4; simp [uv], fun hk => pos_of hx.1 (fun e => h2 (.inl ⟨e, hk⟩)), by omega⟩
      · simp [rv] at h
  | succ f ih =>
    intro k a n j l hl h
    cases l with
    | nil => simp [rv] at h
    | cons x r =>
      have hx := hl x (by simp)
      unfold rv at h
      split at h
      · split at h
        · cases h
        · rename_i h1 h2
          injection h with h; injection h with h3 h4
          exact ⟨x, hx.1, h3.symm, by omega, by simp; omega, by subst h4; rw [uv_small _ _ h1]; simp, fun hk => pos_of hx.1 (fun e => h2 (.inl ⟨e, hk⟩)), by omega⟩
      · rename_i h1
        obtain ⟨m, h0, rfl, hj, hjl, hu, hp, hn⟩ := ih (k + 1) _ n j r (fun y hy => hl y (by simp [hy])) h
        have hm : 0 < m := hp (by omega)
        refine ⟨128 * m + (x - 128), by omega, ?_, by omega, by simp; omega, ?_, by omega, hn⟩
        · rw [pw_succ, Int.add_mul, Int.mul_left_comm m 128, Int.mul_assoc 128 m]; omega
        · have e : j - k = (j - (k + 1)) + 1 := by omega
          unfold uv
          rw [if_neg (by omega), e, List.take_succ_cons, show (128 * m + (x - 128)) % 128 + 128 = x by omega, show (128 * m + (x - 128)) / 128 = m by omega, hu]
/-- What reading at offset o gives: the integer, the offset behind, and whether it is one. -/
def rvAt (zs : List Int) (o : Int) : Option (Int × Nat) := if o < 0 then none else rv 6 0 0 (zs.drop o.toNat)
/-- What is appended for n. -/
def uvr (n : Int) : List Int := if 0 ≤ n ∧ n ≤ 1000000000000 then uv 5 n else []
theorem uvr_len (n : Int) : (uvr n).length ≤ 6 := by
  unfold uvr; split
  · have := uv_len 5 n; omega
  · simp
theorem pw6 : pw (5 + 1) = 4398046511104 := by decide
theorem uvr_byte (n : Int) : ∀ x ∈ uvr n, 0 ≤ x ∧ x ≤ 255 := by
  unfold uvr; split
  · rename_i h
    exact uv_byte 5 n h.1 (by have := pw6; omega)
  · simp
/-- Decoding inverts encoding. -/
theorem rvAt_uvr (zs r : List Int) (n : Int) (h0 : 0 ≤ n) (h1 : n ≤ 1000000000000) : rvAt (zs ++ (uvr n ++ r)) zs.length = some (n, (uvr n).length) := by
  unfold rvAt
  rw [if_neg (by omega), Int.toNat_natCast, List.drop_append_of_le_length (by simp), List.drop_length, List.nil_append]
  unfold uvr; rw [if_pos ⟨h0, h1⟩]
  have := rv_uv 5 0 0 n r h0 (by have := pw6; omega) (by omega) (by simp [pw]; omega)
  rw [this]; simp [pw]
theorem rvAt_end (zs : List Int) (o : Int) (h : zs.length ≤ o) : rvAt zs o = none := by
  unfold rvAt; split
  · rfl
  · rw [List.drop_eq_nil_of_le (by omega)]; rfl
/-- A decoded varint is the encoding of its integer. -/
theorem uvr_rvAt (zs : List Int) (o n : Int) (j : Nat) (hz : ∀ x ∈ zs, 0 ≤ x ∧ x ≤ 255) (h : rvAt zs o = some (n, j)) :
    0 ≤ o ∧ 0 < j ∧ o.toNat + j ≤ zs.length ∧ 0 ≤ n ∧ n ≤ 1000000000000 ∧ uvr n = (zs.drop o.toNat).take j ∧ j ≤ 6 := by
  unfold rvAt at h
  split at h
  · cases h
  · obtain ⟨m, h0, hn, hj, hjl, hu, _, hM⟩ := uv_rv 5 0 0 n j _ (fun x hx => hz x (List.mem_of_mem_drop hx)) h
    have e : n = m := by rw [hn]; simp [pw]
    subst e
    rw [List.length_drop] at hjl
    have hl := uv_len 5 n
    rw [hu] at hl
    rw [List.length_take, List.length_drop] at hl
    exact ⟨by omega, hj, by omega, h0, hM, by unfold uvr; rw [if_pos ⟨h0, hM⟩, hu]; rfl, by omega⟩
theorem pw_two (k : Nat) : pw k = (2 : Int) ^ (7 * k) := by
  induction k with
  | zero => rfl
  | succ k ih =>
    rw [pw_succ, ih, show 7 * (k + 1) = 7 * k + 1 + 1 + 1 + 1 + 1 + 1 + 1 by omega]
    simp only [Int.pow_succ]
    generalize (2 : Int) ^ (7 * k) = e
    omega
theorem pw_le (k : Nat) (h : k ≤ 5) : pw k ≤ 34359738368 := by
  have h5 : pw 5 = 34359738368 := by decide
  have h4 : pw 4 = 268435456 := by decide
  have h3 : pw 3 = 2097152 := by decide
  have h2 : pw 2 = 16384 := by decide
  have h1 : pw 1 = 128 := by decide
  have h0 : pw 0 = 1 := by decide
  rcases (show k = 0 ∨ k = 1 ∨ k = 2 ∨ k = 3 ∨ k = 4 ∨ k = 5 by omega) with rfl | rfl | rfl | rfl | rfl | rfl <;> omega
section
variable {zs : List Int} {p k : Nat} {z : Int} {R : Option (Int × Nat)}
theorem rv_out (h : rv (6 - k) k z (zs.drop (p + k)) = R) (hk : k = 6 ∨ zs.length ≤ p + k) : R = none := by
  rw [← h]
  rcases hk with rfl | hk
  · rfl
  · rw [List.drop_eq_nil_of_le hk]
    cases 6 - k <;> rfl
theorem rv_round (h : rv (6 - k) k z (zs.drop (p + k)) = R) (hk : k < 6) (hlt : p + k < zs.length) {x : Int} (hx : x = zs[p + k]) : rv (5 - k + 1) k z (x :: zs.drop (p + (k + 1))) = R := by
  rw [← h, List.drop_eq_getElem_cons hlt, show 6 - k = 5 - k + 1 by omega, hx, Nat.add_assoc]
theorem rv_no {x : Int} {l : List Int} (h : rv (5 - k + 1) k z (x :: l) = R) (h1 : x < 128) (h2 : (x = 0 ∧ 0 < k) ∨ 1000000000000 < z + x % 128 * pw k) (hx : 0 ≤ x) : R = none := by
  rw [← h]; unfold rv
  rw [if_pos h1, if_pos]
  rwa [show x % 128 = x by omega] at h2
theorem rv_yes {x : Int} {l : List Int} (h : rv (5 - k + 1) k z (x :: l) = R) (h1 : x < 128) (h2 : ¬ ((x = 0 ∧ 0 < k) ∨ 1000000000000 < z + x % 128 * pw k)) (hx : 0 ≤ x) : R = some (z + x % 128 * pw k, k + 1) := by
  rw [show x % 128 = x by omega] at h2 ⊢
  rw [← h]; unfold rv
  rw [if_pos h1, if_neg h2]
theorem rv_more {x : Int} {l : List Int} (h : rv (5 - k + 1) k z (x :: l) = R) (hk : k < 6) (h1 : 128 ≤ x) (h2 : x ≤ 255) : rv (6 - (k + 1)) (k + 1) (z + x % 128 * pw k) l = R := by
  rw [← h]
  conv => rhs; unfold rv
  rw [if_neg (by omega), show x % 128 = x - 128 by omega, show 6 - (k + 1) = 5 - k by omega]
end
theorem mul_lo {a b : Int} (h : 0 ≤ a) (k : 0 ≤ b) : 0 ≤ a * b := Int.mul_nonneg h k
theorem mul_hi {a b c : Int} (h : a ≤ c) (k : 0 ≤ b) : a * b ≤ c * b := Int.mul_le_mul_of_nonneg_right h k
end Go.Proofs.Ytdpaoaoipnoiiaa
