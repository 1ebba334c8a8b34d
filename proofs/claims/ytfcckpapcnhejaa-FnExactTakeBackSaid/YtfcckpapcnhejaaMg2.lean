/- Words for memory and their plain lemmas, over any program: what a slice value reads as (Rd), a row that the call made and where it lies (Row), a world that has turned between two block numbers alone (Out). No conditions. -/
import Derived.Test.YtfcckpapcnhejaaMg0
import Derived.OwnWalk
import Derived.Deep.AppendLies
import Derived.Laws.OwnMore
import Derived.Maps.AppendAt
import Derived.Test.YtfcckpapcnhejaaRows
import Derived.WalkKit
import Derived.ProofKit
import Derived.OpenShut
import Derived.LoopN
import Derived.Handy
import Derived.LoopTactic
import Derived.Lib.Hide
import Derived.IntWalk
import Derived.BigQuiet
import Derived.Deep.QuietTactic
import Derived.Outline
namespace Go.Proofs.Ytfcckpapcnhejaa
open Go.ChangeShapes Go.WideShapes Go.ChangeAt Go.RowKit
/-- The cells behind a slice's address read as xs, below block B. -/
def Rd (w : World) (B : Nat) (A : Option Addr) (xs : List Value) : Prop := ∀ j u, xs[j]? = some u → ∃ ad, A = some ad ∧ ad.block < B ∧ w.cell? (ad.add j) = some u
theorem add_blk (a : Addr) (n : Nat) : (a.add n).block = a.block := by unfold Addr.add; split <;> rfl
section
variable {w w' : World} {B B' lo hi lo' hi' : Nat} {A : Option Addr} {xs ys : List Value} {t t' : TypeId} {v v' : Value}
theorem Rd.keep (h : Rd w B A xs) (hk : ∀ b, b < B → w'.heap[b]? = w.heap[b]?) : Rd w' B A xs := fun j u hu => by
  obtain ⟨ad, e, hb, hc⟩ := h j u hu
  exact ⟨ad, e, hb, (World.cell?_of_block (hk _ (by rw [add_blk]; exact hb))).trans hc⟩
theorem Rd.below (h : Rd w B A xs) (hb : Below B w w') : Rd w' B A xs := h.keep hb.block
theorem Rd.more (h : Rd w B A xs) (hB : B ≤ B') : Rd w B' A xs := fun j u hu => by
  obtain ⟨ad, e, hb, hc⟩ := h j u hu
  exact ⟨ad, e, by omega, hc⟩
theorem Rd.nil : Rd w B A [] := fun j u hu => by simp at hu
theorem Rd.drewN (h : Rd w B A xs) (n : Nat) : Rd (w.drewN n) B A xs := h
theorem Rd.at_ (h : Rd w B A xs) {k : Nat} (hk : k < xs.length) : ∃ ad, A = some ad ∧ ad.block < B ∧ w.cell? (ad.add k) = some xs[k] :=
  h k _ (List.getElem?_eq_getElem hk)
/-- The world has turned, below its old size, in the blocks lo to hi alone. -/
structure Out (lo hi : Nat) (w w' : World) : Prop where
  os : w'.os = w.os
  tape : w'.tape = w.tape
  output : w'.output = w.output
  size : w.heap.size ≤ w'.heap.size
  block : ∀ k, k < w.heap.size → (k < lo ∨ hi ≤ k) → w'.heap[k]? = w.heap[k]?
theorem Out.refl : Out lo hi w w := ⟨rfl, rfl, rfl, Nat.le_refl _, fun _ _ _ => rfl⟩
theorem Out.trans {a b c : World} (h : Out lo hi a b) (k : Out lo hi b c) : Out lo hi a c :=
  ⟨k.os.trans h.os, k.tape.trans h.tape, k.output.trans h.output, Nat.le_trans h.size k.size, fun i hi' hn => (k.block i (Nat.lt_of_lt_of_le hi' h.size) hn).trans (h.block i hi' hn)⟩
theorem Out.drewN (h : Out lo hi w w') (n : Nat) : Out lo hi w (w'.drewN n) := ⟨h.os, h.tape, h.output, h.size, h.block⟩
theorem Out.below (h : Out lo hi w w') (h1 : B ≤ lo) (h2 : B ≤ w.heap.size) : Below B w w' :=
  ⟨h.os, h.tape, h.output, h.size, fun k hk => h.block k (by omega) (.inl (by omega))⟩
theorem Out.of_below (h : Below w.heap.size w w') : Out lo hi w w' := ⟨h.os, h.tape, h.output, h.size, fun k hk _ => h.block k hk⟩
theorem Rd.out (h : Rd w B A xs) (o : Out lo hi w w') (h1 : B ≤ lo) (h2 : B ≤ w.heap.size) : Rd w' B A xs := h.below (o.below h1 h2)
/-- A row of type t that lies in one of the blocks lo to hi, written by nobody else. -/
def Row (w : World) (lo hi : Nat) (t : TypeId) (v : Value) (xs : List Value) : Prop := w.ownsRow lo t 1 v xs.length xs ∧ ∀ g, v.ownBlock = some g → g < hi
theorem Row.own (h : Row w lo hi t v xs) {n : Nat} (hn : xs.length = n) : w.ownsRow lo t 1 v n xs := hn ▸ h.1
theorem Row.keep (h : Row w lo hi t v xs) (hk : ∀ b, lo ≤ b → b < hi → b < w.heap.size → w'.heap[b]? = w.heap[b]?) : Row w' lo hi t v xs := by
  refine ⟨⟨h.1.1, ?_⟩, h.2⟩
  rcases h.1.2 with hn | ⟨g, cap, cur, rfl, hb, hgg, rest⟩
  · exact .inl hn
  · exact .inr ⟨g, cap, cur, rfl, hb, (hk g hb (h.2 g rfl) (Array.getElem?_eq_some_iff.1 hgg).1).trans hgg, rest⟩
theorem Row.below (h : Row w lo hi t v xs) (hb : Below B w w') (hB : hi ≤ B) : Row w' lo hi t v xs := h.keep fun b _ h2 _ => hb.block b (by omega)
theorem Row.new (h : Row w lo hi t v xs) (hb : Below w.heap.size w w') : Row w' lo hi t v xs := h.keep fun b _ _ h3 => hb.block b h3
theorem Row.out (h : Row w lo hi t v xs) (o : Out lo' hi' w w') (hd : hi ≤ lo' ∨ hi' ≤ lo) : Row w' lo hi t v xs := h.keep fun b h1 h2 h3 => o.block b h3 (by omega)
theorem Row.wide (h : Row w lo hi t v xs) (h1 : lo' ≤ lo) (h2 : hi ≤ hi') : Row w lo' hi' t v xs := by
  refine ⟨⟨h.1.1, ?_⟩, fun g hg => by have := h.2 g hg; omega⟩
  rcases h.1.2 with hn | ⟨g, cap, cur, e, hb, rest⟩
  · exact .inl hn
  · exact .inr ⟨g, cap, cur, e, by omega, rest⟩
theorem Row.drewN (h : Row w lo hi t v xs) (n : Nat) : Row (w.drewN n) lo hi t v xs := h
theorem Row.rd (h : Row w lo hi t v xs) {n : Nat} (hn : xs.length = n) : ∃ A c, v = .slice A n c ∧ Rd w hi A xs ∧ n ≤ c ∧ c ≤ maxLen := by
  subst hn
  rcases h.1.2 with ⟨rfl, hn⟩ | ⟨g, cap, cur, rfl, hb, hgg, hnc, hcm, hcs, htk⟩
  · have : xs = [] := List.eq_nil_of_length_eq_zero hn
    subst this
    exact ⟨none, 0, rfl, Rd.nil, Nat.le_refl _, Nat.zero_le _⟩
  · refine ⟨some ⟨g, 0, none⟩, cap, rfl, fun j u hu => ⟨_, rfl, h.2 g rfl, ?_⟩, hnc, hcm⟩
    exact h.1.cells (g := g) rfl j u hu
theorem Row.of_own {n : Nat} (h : w.ownsRow lo t 1 v n xs) : Row w lo w.heap.size t v xs := by
  have hn : n = xs.length := by have := h.1; omega
  subst hn
  exact ⟨h, fun g hg => (h.lt g hg).2⟩
theorem Row.len (h : Row w lo hi t v xs) : xs.length ≤ maxLen := by
  obtain ⟨A, c, _, _, h1, h2⟩ := h.rd rfl; omega
theorem Row.nil : Row w lo hi t (.slice none 0 0) [] := ⟨World.ownsRow_nil _ _ _ _, fun g hg => by simp [Value.ownBlock] at hg⟩
theorem Row.rd' {n c : Nat} (h : Row w lo hi t (.slice A n c) xs) : Rd w hi A xs := by
  obtain ⟨A', c', h1, h2, _, _⟩ := h.rd (n := xs.length) rfl
  injection h1 with e1 e2 e3
  subst e1
  exact h2
end
theorem cell_lt {w : World} {a : Addr} {v : Value} (h : w.cell? a = some v) : a.block < w.heap.size := by
  rcases Nat.lt_or_ge a.block w.heap.size with h' | h'
  · exact h'
  · simp [World.cell?, Array.getElem?_eq_none h'] at h
/-- What an argument that is a slice of integers gives. -/
theorem slice_open {H : Type} {enc : TypeId × Value → H} {P : Program} {W : World} {t e : TypeId} {k : IntKind} {v : Value} {d : DataW H} {p : List MemPlace} {base : Nat} (ht : P.underlying t = some (.slice e)) (he : P.underlying e = some (.int k)) (hc : P.cellsOf e = 1)
    (hv : Value.okWide P W .any base t v) (h : DataW.Trod enc P W 0 (fun _ => true) true t v d p) :
    ∃ (A : Option Addr) (c : Nat) (zs : List Int), v = .slice A zs.length c ∧ Rd W W.heap.size A (zs.map (Value.int k)) ∧ zs.length ≤ c ∧ c ≤ maxLen ∧ ∀ x ∈ zs, k.min ≤ x ∧ x ≤ k.max := by
  obtain ⟨A, n, c, rfl⟩ := okWide_slice ht hv
  obtain ⟨fuel, hf⟩ := h
  rcases open_ints ht he hc hf with ⟨e1, _⟩ | ⟨a, len, cap, zs, e1, _, h1, h2, hl, _, hcell, hwf⟩
  · simp [Value.cells] at e1
    obtain ⟨rfl, rfl, rfl⟩ := e1
    exact ⟨none, 0, [], rfl, Rd.nil, Nat.le_refl _, Nat.zero_le _, by simp⟩
  · simp [Value.cells] at e1
    obtain ⟨rfl, rfl, rfl⟩ := e1
    simp only [if_true] at hl
    have hlt : (zs.take n).length = n := by rw [List.length_take]; omega
    refine ⟨some a, c, zs.take n, by rw [hlt], fun j u hu => ?_, by rw [hlt]; omega, by omega, fun x hx => ?_⟩
    · have hj : j < n := by
        rcases Nat.lt_or_ge j n with h' | h'
        · exact h'
        · rw [List.getElem?_eq_none (by rw [List.length_map, hlt]; exact h')] at hu; cases hu
      have hjz : j < zs.length := by omega
      have hu2 : u = .int k zs[j] := by
        rw [List.getElem?_map, List.getElem?_take, if_pos hj, List.getElem?_eq_getElem hjz] at hu
        simpa using hu.symm
      have hcj := hcell j hjz
      rw [show zs.getD j 0 = zs[j] by simp [List.getD, List.getElem?_eq_getElem hjz]] at hcj
      refine ⟨a, rfl, ?_, by rw [hu2]; exact hcj⟩
      have := cell_lt hcj
      rwa [add_blk] at this
    · have hw := hwf x (List.mem_of_mem_take hx)
      simpa [Lit.wf] using hw
/-- A new row that reads as xs is returned; what was there is as it was. -/
def Fresh (t : TypeId) (xs : List Value) (w : World) (e : Ending) (w' : World) : Prop :=
  ∃ v, e = .returned v ∧ Row w' w.heap.size w'.heap.size t v xs ∧ Below w.heap.size w w'
end Go.Proofs.Ytfcckpapcnhejaa

/- One law of append for the words of XWords, over any program: the appended slice may be nil; the row stays the call's own. No conditions but the machine's bound on bytes. -/
namespace Go.Proofs.Ytfcckpapcnhejaa
open Go.ChangeShapes Go.WideShapes Go.ChangeAt Go.RowKit
section
variable {P : Program} {w : World}
theorem run_app_nil (t ty e : TypeId) (i : TypeInfo) (ht : P.underlying t = some (.slice e)) (hi : P.info? e = some i) {base size n c : Nat} {v : Value} {xs : List Value} (hown : w.ownsRow base e size v n xs) :
    (Builtin.append_ #[t, t] ty #[v, .slice none 0 c]).run P w = .ok v w := by
  rcases hown.2 with ⟨rfl, rfl⟩ | ⟨g, cap, cur, rfl, _, _, hnc, _⟩
  · simp [Builtin.append_, run_underlying ht, sizeOf, typeInfo, hi, Builtin.lenOf, Builtin.firstCells]
  · simp [Builtin.append_, run_underlying ht, sizeOf, typeInfo, hi, Builtin.lenOf, Builtin.firstCells, hnc, storeCells]
theorem run_app (t ty e : TypeId) (i : TypeInfo) (z : Value) (bytes : Nat) (ht : P.underlying t = some (.slice e)) (hi : P.info? e = some i) (hz : i.zero = some z) (hsize : i.size = 1) (hby : i.bytes = bytes) (hzs : z.cells.size = 1)
    {lo hi' B m c : Nat} {v : Value} {xs news : List Value} {A : Option Addr} (hrow : Row w lo hi' e v xs) (hm : news.length = m) (hr : Rd w B A news) (h1 : ∀ u ∈ news, u.oneCell' = true)
    (h63 : xs.length + m ≤ maxLen) (hbytes : (xs.length + m) * bytes ≤ 140737488355328) (hlo : lo ≤ w.heap.size) :
    ∃ v' w', (Builtin.append_ #[t, t] ty #[v, .slice A m c]).run P w = .ok v' w' ∧ Row w' lo w'.heap.size e v' (xs ++ news) ∧ Out lo hi' w w' := by
  rcases A with _ | ad
  · have hn : news = [] := by
      cases news with
      | nil => rfl
      | cons u l => obtain ⟨ad, h, _⟩ := hr 0 u rfl; cases h
    subst hn
    obtain rfl : m = 0 := hm.symm
    refine ⟨v, w, run_app_nil t ty e i ht hi hrow.1, ?_, Out.refl⟩
    rw [List.append_nil]
    exact ⟨hrow.1, fun g hg => (hrow.1.lt g hg).2⟩
  · have hcells : ∀ j u, news[j]? = some u → w.cell? (ad.add j) = some u := fun j u hu => by
      obtain ⟨ad', h, _, hc⟩ := hr j u hu
      injection h with h
      subst h
      exact hc
    obtain ⟨v', w', hrun, h2, h3, _, h5⟩ := run_append_own_at (P := P) w lo t ty e i z 1 bytes ht hi hz hsize hby hzs (by omega) v xs.length xs hrow.1 ad m c news (by omega) hcells h1 h63 hbytes hlo
    refine ⟨v', w', hrun, Row.of_own h2, ⟨h3.os, h3.tape, h3.output, h3.size, fun k hk hne => h3.block k hk (fun e => ?_)⟩⟩
    have h6 := hrow.2 k e.symm
    have h7 := (hrow.1.lt k e.symm).1
    omega
theorem wpList_app {ops : Array Oper} {rest : List Oper} {o : Oper} {a : Act} {Q : Exit → Act → World → Prop} (hgd : o.guard = none) (s x : Operand) (t : TypeId)
    (ho : o.op = .call { callee := .builtin .append, args := #[s, x], argTypes := #[t, t] })
    (e : TypeId) (i : TypeInfo) (z : Value) (bytes : Nat) (ht : P.underlying t = some (.slice e)) (hi : P.info? e = some i) (hz : i.zero = some z) (hsize : i.size = 1) (hby : i.bytes = bytes) (hzs : z.cells.size = 1)
    {lo hi' B m c : Nat} {v : Value} {xs news : List Value} {A : Option Addr} (hs : a.eval s = v) (hx : a.eval x = .slice A m c) (hrow : Row w lo hi' e v xs) (hm : news.length = m) (hr : Rd w B A news) (h1 : ∀ u ∈ news, u.oneCell' = true)
    (h63 : xs.length + m ≤ maxLen) (hbytes : (xs.length + m) * bytes ≤ 140737488355328) (hlo : lo ≤ w.heap.size)
    (K : ∀ v' w', Row w' lo w'.heap.size e v' (xs ++ news) → Out lo hi' w w' → wpList P ops Q rest (a.put o.dst v') w') : wpList P ops Q (o :: rest) a w := by
  obtain ⟨v', w', hrun, h2, h3⟩ := run_app (P := P) t o.type e i z bytes ht hi hz hsize hby hzs (c := c) hrow hm hr h1 h63 hbytes hlo
  refine wpList_plain hgd fun K' hK' => ?_
  unfold Oper.wp
  simp [execOp, ho, resolve, invoke, builtin, hs, hx, hrun, Result.andThen]
  exact hK' _ _ (K v' w' h2 h3)
end
theorem int_one {k : IntKind} {zs : List Int} : ∀ u ∈ zs.map (Value.int k), u.oneCell' = true := by
  intro u hu
  obtain ⟨n, _, rfl⟩ := List.mem_map.1 hu
  rfl
/-- A block that was just made reads as its cells. -/
theorem Rd.made (w : World) (cs : Array Value) (t : TypeId) : Rd (w.alloc (.cells cs t)) (w.heap.size + 1) (some ⟨w.heap.size, 0, none⟩) cs.toList := fun j u hu => by
  refine ⟨_, rfl, by simp, ?_⟩
  have e : (⟨w.heap.size, 0, none⟩ : Addr).add j = ⟨w.heap.size, j, none⟩ := by
    unfold Addr.add; split <;> simp_all
  rw [e, cell_of_row _ _ j cs t (0, 0) (heap_alloc_new w _)]
  simpa using hu
theorem Row.made {w : World} (lo : Nat) (cs : Array Value) (n : Nat) (t : TypeId) (hlo : lo ≤ w.heap.size) (hn : cs.size = n) (hm : n ≤ maxLen) : Row (w.alloc (.cells cs t)) lo (w.heap.size + 1) t (.slice (some ⟨w.heap.size, 0, none⟩) n n) cs.toList := by
  have h := World.ownsRow_lit (base := lo) (e := t) (size := 1) w cs n hlo hm (by omega)
  refine ⟨by rw [show cs.toList.length = n by simpa using hn]; exact h, fun g hg => ?_⟩
  simp [Value.ownBlock] at hg
  omega
end Go.Proofs.Ytfcckpapcnhejaa

/- Contracts of the laws' own helpers over []byte: toByteS copies, eqByteS compares, markByteS writes k, k+1, .. into each place, heldByteS asks for them. For every slice of at most 2^47 - 4096 elements; no other condition. -/
namespace Go.Proofs.Ytfcckpapcnhejaa
open Go.ChangeShapes Go.WideShapes Go.ChangeAt Go.RowKit
theorem ByteS_info : (Try.prog.info? 5).map (fun i => (i.zero, i.size, i.bytes)) = some (some (.int .u8 0), 1, 1) := by kernel_rfl
def bvs (zs : List Int) : List Value := zs.map (Value.int .u8)
theorem bvs_len (zs : List Int) : (bvs zs).length = zs.length := by simp [bvs]
theorem bvs_get (zs : List Int) (k : Nat) (h : k < zs.length) : (bvs zs)[k]? = some (.int .u8 zs[k]) := by simp [bvs, h]
theorem bvs_at {w : World} {B : Nat} {A : Option Addr} {zs : List Int} (h : Rd w B A (bvs zs)) {k : Nat} (hk : k < zs.length) :
    ∃ ad, A = some ad ∧ ad.block < B ∧ w.cell? (ad.add k) = some (.int .u8 zs[k]) := h k _ (bvs_get zs k hk)
theorem set_mix (xs ys : List Value) (k : Nat) (u : Value) (hk : k < xs.length) (hl : ys.length = xs.length) (hu : xs[k]? = some u) :
    (xs.take k ++ ys.drop k).set k u = xs.take (k + 1) ++ ys.drop (k + 1) := by
  have h1 : (xs.take k).length = k := by simp; omega
  rw [List.set_append, h1, if_neg (by omega), Nat.sub_self, List.drop_eq_getElem_cons (show k < ys.length by omega)]
  rw [List.getElem?_eq_getElem hk] at hu
  injection hu with hu
  rw [List.set_cons_zero, List.take_succ_eq_append_getElem hk, hu, List.append_assoc]; rfl
/-- A truth value is returned, and nothing that was there has turned. -/
def Tells (b : Bool) (w : World) (e : Ending) (w' : World) : Prop := e = .returned (.bool b) ∧ Below w.heap.size w w'
/-- A truth value is returned, and the world is as it was but for draws. -/
def TellsQ (b : Bool) (w : World) (e : Ending) (w' : World) : Prop := e = .returned (.bool b) ∧ ∃ m, w' = w.drewN m
theorem TellsQ.tells {b : Bool} {w : World} {e : Ending} {w' : World} (h : TellsQ b w e w') : Tells b w e w' := by
  obtain ⟨h1, m, rfl⟩ := h
  exact ⟨h1, below_drewN (Below.refl _ _) m⟩
/-- What markByteS writes: q, q + 1, .. -/
def mks (q : Int) (n : Nat) : List Int := (List.range n).map fun (j : Nat) => (q + (j : Int)) % 256
theorem mks_len (q : Int) (n : Nat) : (mks q n).length = n := by simp [mks]
theorem mks_get (q : Int) (n k : Nat) (h : k < n) : (mks q n)[k]'(by rw [mks_len]; exact h) = (q + k) % 256 := by simp [mks]
theorem bmks_get (q : Int) (n k : Nat) (h : k < n) : (bvs (mks q n))[k]? = some (.int .u8 ((q + k) % 256)) := by
  rw [bvs_get _ _ (by rw [mks_len]; exact h), mks_get q n k h]
/-- An integer is returned, and nothing that was there has turned but what lies between two block numbers. -/
def Marked (x : Int) (lo hi : Nat) (t : TypeId) (v : Value) (xs : List Value) (w : World) (e : Ending) (w' : World) : Prop :=
  e = .returned (.int .i64 x) ∧ Row w' lo hi t v xs ∧ Out lo hi w w'
end Go.Proofs.Ytfcckpapcnhejaa
