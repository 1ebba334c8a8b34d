/- Words for slices of amends (structs of 2 integers and a slice of integers): what is only read (RdA), what the call owns (OwnA); stores into a field. No conditions. -/
import Derived.Test.YteffhbboeacogaaIntSS
import Derived.Test.YteffhbboeacogaaRow3
import Derived.Test.YteffhbboeacogaaOpen3
import Derived.Test.YteffhbboeacogaaTeamR
namespace Go.Proofs.Yteffhbboeacogaa
open Go.ChangeShapes Go.WideShapes Go.ChangeAt Go.RowKit
structure Am where
  loc : Int
  drp : Int
  put : List Int
/-- All integers are of 64 bits. -/
def Am.ok (x : Am) : Prop := I6 x.loc ∧ I6 x.drp ∧ ∀ z ∈ x.put, I6 z
def AmendR (w : World) (F : List Nat) (cs : List Value) (x : Am) : Prop := ∃ v : Value, cs = [.int .i64 x.loc, .int .i64 x.drp, v] ∧ IntsR .i64 3 w F [v] x.put
theorem AmendR.frames : Frames AmendR where
  keep := by
    rintro w w' F cs x ⟨v, h1, h2⟩ hk
    exact ⟨v, h1, (IntsR.frames _ _).keep h2 hk⟩
  lt := by
    rintro w F cs x ⟨v, h1, h2⟩ b hb
    exact (IntsR.frames _ _).lt h2 b hb
abbrev ASR : World → List Nat → List Value → List Am → Prop := RowsR 26 3 AmendR
theorem ASR_frames : Frames ASR := RowsR.frames AmendR.frames
def OwnA (w : World) (lo hi : Nat) (v : Value) (X : List Am) : Prop := Owns ASR w lo hi [v] X
/-- A amend that lies at p and is only read. -/
def AtA (w : World) (B : Nat) (p : Addr) (x : Am) : Prop := p.block < B ∧ ∃ (Aj : Option Addr) (cj : Nat), w.cell? p = some (.int .i64 x.loc) ∧ w.cell? ⟨p.block, p.off + 1, none⟩ = some (.int .i64 x.drp) ∧ w.cell? ⟨p.block, p.off + 2, none⟩ = some (.slice Aj x.put.length cj) ∧ x.put.length ≤ cj ∧ cj ≤ maxLen ∧ Rd w B Aj (ivs x.put)
def RdA (w : World) (B : Nat) (A : Option Addr) (X : List Am) : Prop :=
  ∀ (k : Nat) (x : Am), X[k]? = some x → ∃ ad : Addr, A = some ad ∧ AtA w B (ad.add (k * 3)) x
def RdAm (w : World) (B : Nat) (cs : List Value) (x : Am) : Prop := ∃ (Aj : Option Addr) (cj : Nat), cs = [.int .i64 x.loc, .int .i64 x.drp, .slice Aj x.put.length cj] ∧ x.put.length ≤ cj ∧ cj ≤ maxLen ∧ Rd w B Aj (ivs x.put)
theorem AmendR.rd {w : World} {F : List Nat} {cs : List Value} {x : Am} {B : Nat} (h : AmendR w F cs x) (hB : ∀ b ∈ F, b < B) : RdAm w B cs x := by
  obtain ⟨v, rfl, h2⟩ := h
  obtain ⟨A, c, e, h4, h5, h6⟩ := h2.rd hB
  have : v = .slice A x.put.length c := by simpa using e
  subst this
  exact ⟨A, c, rfl, h4, h5, h6⟩
section
variable {w w' : World} {B B' lo hi lo' hi' : Nat} {A : Option Addr} {X : List Am} {v : Value} {p : Addr} {x : Am}
theorem AtA.keep (h : AtA w B p x) (hk : ∀ b, b < B → w'.heap[b]? = w.heap[b]?) : AtA w' B p x := by
  obtain ⟨a0, Aj, cj, c0, c1, c2, a1, a2, a3⟩ := h
  exact ⟨a0, Aj, cj, (show w'.cell? p = w.cell? _ from World.cell?_of_block (hk _ a0)).trans c0, (show w'.cell? ⟨p.block, p.off + 1, none⟩ = w.cell? _ from World.cell?_of_block (hk _ a0)).trans c1, (show w'.cell? ⟨p.block, p.off + 2, none⟩ = w.cell? _ from World.cell?_of_block (hk _ a0)).trans c2, a1, a2, a3.keep hk⟩
theorem AtA.below (h : AtA w B p x) (hb : Below B w w') : AtA w' B p x := h.keep hb.block
theorem AtA.more (h : AtA w B p x) (hB : B ≤ B') : AtA w B' p x := by
  obtain ⟨a0, Aj, cj, c0, c1, c2, a1, a2, a3⟩ := h
  exact ⟨by omega, Aj, cj, c0, c1, c2, a1, a2, a3.more hB⟩
theorem RdA.keep (h : RdA w B A X) (hk : ∀ b, b < B → w'.heap[b]? = w.heap[b]?) : RdA w' B A X := fun k x hx => by
  obtain ⟨ad, a1, a2⟩ := h k x hx
  exact ⟨ad, a1, a2.keep hk⟩
theorem RdA.below (h : RdA w B A X) (hb : Below B w w') : RdA w' B A X := h.keep hb.block
theorem RdA.more (h : RdA w B A X) (hB : B ≤ B') : RdA w B' A X := fun k x hx => by
  obtain ⟨ad, a1, a2⟩ := h k x hx
  exact ⟨ad, a1, a2.more hB⟩
theorem RdA.drewN (h : RdA w B A X) (n : Nat) : RdA (w.drewN n) B A X := h
theorem RdA.nil : RdA w B A [] := fun k x hx => by simp at hx
theorem RdA.at_ (h : RdA w B A X) {k : Nat} (hk : k < X.length) : ∃ ad p : Addr, A = some ad ∧ ad.add (k * 3) = p ∧ AtA w B p X[k] := by
  obtain ⟨ad, a1, a2⟩ := h k _ (List.getElem?_eq_getElem hk)
  exact ⟨ad, _, a1, rfl, a2⟩
theorem RdA.of_rows {c : Nat} (h : RdRows 3 RdAm w B [.slice A X.length c] X) : RdA w B A X := fun k x hx => by
  obtain ⟨A', c', h1, h2, h3, h4⟩ := h
  obtain ⟨ad, us, a1, a2, a3, a4, ⟨Aj, cj, b1, b2, b3, b4⟩⟩ := h4 k x hx
  have hA : A = A' := by have := List.head_eq_of_cons_eq h1; injection this
  subst hA
  subst b1
  refine ⟨ad, a1, by rw [add_blk]; exact a2, Aj, cj, ?_, ?_, ?_, b2, b3, b4⟩
  · have := a4 0 _ rfl; simpa using this
  · rw [← add_part]; exact a4 1 _ rfl
  · rw [← add_part]; exact a4 2 _ rfl
theorem OwnA.rd (h : OwnA w lo hi v X) {n : Nat} (hn : X.length = n) : ∃ A c, v = .slice A n c ∧ RdA w hi A X ∧ n ≤ c ∧ c ≤ maxLen := by
  subst hn
  have h2 : RdRows 3 RdAm w hi [v] X := Owns.rd (fun hF hB => RowsR.rd (fun hI hB => AmendR.rd hI hB) hF (by omega) hB) h (Nat.le_refl _)
  obtain ⟨A, c, h1, h3, h4, h5⟩ := h2
  have : v = .slice A X.length c := by simpa using h1
  subst this
  exact ⟨A, c, rfl, RdA.of_rows ⟨A, c, rfl, h3, h4, h5⟩, h3, h4⟩
theorem OwnA.rd' {n c : Nat} (h : OwnA w lo hi (.slice A n c) X) : RdA w hi A X := by
  obtain ⟨A', c', h1, h2, _, _⟩ := h.rd (n := X.length) rfl
  injection h1 with e1 e2 e3
  subst e1
  exact h2
theorem OwnA.new (h : OwnA w lo hi v X) (hb : Below w.heap.size w w') : OwnA w' lo hi v X := Owns.new h ASR_frames hb
theorem OwnA.below (h : OwnA w lo hi v X) (hb : Below B w w') (hB : hi ≤ B) : OwnA w' lo hi v X := Owns.below h ASR_frames hb hB
theorem OwnA.out (h : OwnA w lo hi v X) (o : Out lo' hi' w w') (hd : hi ≤ lo' ∨ hi' ≤ lo) : OwnA w' lo hi v X := Owns.out h ASR_frames o hd
theorem OwnA.wide (h : OwnA w lo hi v X) (h1 : lo' ≤ lo) (h2 : hi ≤ hi') : OwnA w lo' hi' v X := Owns.wide h h1 h2
theorem OwnA.drewN (h : OwnA w lo hi v X) (n : Nat) : OwnA (w.drewN n) lo hi v X := h
theorem OwnA.nil : OwnA w lo hi (.slice none 0 0) [] := ⟨[], RowsR.nil_, by simp, by simp⟩
theorem OwnA.base (h : OwnA w lo hi v X) {n : Nat} (hn : X.length = n) (hp : 0 < n) : ∃ g c, v = .slice (some ⟨g, 0, none⟩) n c ∧ lo ≤ g ∧ g < hi ∧ g < w.heap.size ∧ n ≤ c ∧ c ≤ maxLen ∧ ∀ i, w.frozen? ⟨g, i, none⟩ = false := by
  subst hn
  obtain ⟨F, ⟨v', es, h1, h2, h3, h4, h5, h6, h7⟩, hFn, hF⟩ := h
  have hvv : v = v' := by simpa using h1
  subst hvv
  obtain ⟨g, cap, hv, hc1, hc2⟩ := h3.form (by omega)
  have hgb : v.ownBlock = some g := by rw [hv]; rfl
  have hgF : g ∈ F := by rw [h4, hgb]; simp
  obtain ⟨A2, c2, hv2, k1, k2⟩ := ownsRow_form h3
  have e2 : cap = c2 := by rw [hv] at hv2; injection hv2
  have h3' := h3
  rw [hv] at h3'
  exact ⟨g, cap, hv, (hF g hgF).1, (hF g hgF).2, (h3.lt g hgb).2, by omega, by omega, fun i => h3'.frozenAt i⟩
theorem OwnA.lt (h : OwnA w lo hi v X) : OwnA w lo w.heap.size v X := by
  obtain ⟨F, h1, h2, h3⟩ := h
  exact ⟨F, h1, h2, fun b hb => ⟨(h3 b hb).1, ASR_frames.lt h1 b hb⟩⟩
theorem OwnA.put0 {g c i n : Nat} (h : OwnA w lo hi (.slice (some ⟨g, 0, none⟩) n c) X) (hn : X.length = n) (hk : i < X.length) (hlo : lo ≤ hi) (a : Int) : OwnA (w.setCell ⟨g, i * 3, none⟩ (.int .i64 a)) lo hi (.slice (some ⟨g, 0, none⟩) n c) (X.set i {X[i] with loc := a}) := by
  subst hn
  exact Owns.put1 (j := 0) AmendR.frames h hk (by omega) (fun F us _ hx hn _ => by
    obtain ⟨v, rfl, h2⟩ := hx
    exact ⟨F, ⟨v, rfl, h2⟩, hn, fun b hb => .inl hb⟩) (Nat.le_refl _) hlo
theorem OwnA.put1 {g c i n : Nat} (h : OwnA w lo hi (.slice (some ⟨g, 0, none⟩) n c) X) (hn : X.length = n) (hk : i < X.length) (hlo : lo ≤ hi) (a : Int) : OwnA (w.setCell ⟨g, i * 3 + 1, none⟩ (.int .i64 a)) lo hi (.slice (some ⟨g, 0, none⟩) n c) (X.set i {X[i] with drp := a}) := by
  subst hn
  exact Owns.put1 (j := 1) AmendR.frames h hk (by omega) (fun F us _ hx hn _ => by
    obtain ⟨v, rfl, h2⟩ := hx
    exact ⟨F, ⟨v, rfl, h2⟩, hn, fun b hb => .inl hb⟩) (Nat.le_refl _) hlo
/-- A new slice is stored into the last field. -/
theorem OwnA.putS {g c i n M M' : Nat} {u : Value} {ys : List Int} (h : OwnA w lo hi (.slice (some ⟨g, 0, none⟩) n c) X) (hn : X.length = n) (hk : i < X.length) (hr : Row w M M' 3 u (ivs ys)) (hM : hi ≤ M) (hM' : hi ≤ M') (hlo : lo ≤ hi) : OwnA (w.setCell ⟨g, i * 3 + 2, none⟩ u) lo M' (.slice (some ⟨g, 0, none⟩) n c) (X.set i {X[i] with put := ys}) := by
  subst hn
  obtain ⟨F', k1, k2, k3⟩ := Row.owns hr
  exact Owns.put1 AmendR.frames h hk (by omega) (fun F us _ hx hn _ => by
    obtain ⟨v, rfl, h2⟩ := hx
    exact ⟨F', ⟨u, rfl, k1⟩, k2, fun b hb => .inr ⟨by have := (k3 b hb).1; omega, (k3 b hb).2⟩⟩) hM' hlo
/-- All fields are stored anew, the slice a new one. -/
theorem OwnA.putAll {g c i n M M' : Nat} {u : Value} {y : Am} (h : OwnA w lo hi (.slice (some ⟨g, 0, none⟩) n c) X) (hn : X.length = n) (hk : i < X.length) (hr : Row w M M' 3 u (ivs y.put)) (hg : g < hi) (hM : hi ≤ M) (hM' : hi ≤ M') (hlo : lo ≤ hi) :
    OwnA (((w.setCell ⟨g, i * 3, none⟩ (.int .i64 y.loc)).setCell ⟨g, i * 3 + 1, none⟩ (.int .i64 y.drp)).setCell ⟨g, i * 3 + 2, none⟩ u) lo M' (.slice (some ⟨g, 0, none⟩) n c) (X.set i y) := by
  have q1 := h.put0 (i := i) (by simpa using hn) (by simpa using hk) hlo y.loc
  have q2 := q1.put1 (i := i) (by simpa using hn) (by simpa using hk) hlo y.drp
  have hr2 : Row (((w.setCell ⟨g, i * 3, none⟩ (.int .i64 y.loc)).setCell ⟨g, i * 3 + 1, none⟩ (.int .i64 y.drp))) M M' 3 u (ivs y.put) := hr.keep fun b h1 _ _ => by
    repeat rw [Below.heap_setCell _ _ _ _ (by show b ≠ g; omega)]
  have q := q2.putS (by simpa using hn) (by simpa using hk) hr2 hM hM' hlo
  simpa using q
/-- All integers are stored anew. -/
theorem OwnA.putInts {g c i n : Nat} {y : Am} (h : OwnA w lo hi (.slice (some ⟨g, 0, none⟩) n c) X) (hn : X.length = n) (hk : i < X.length) (hlo : lo ≤ hi) (hy : y.put = X[i].put) :
    OwnA ((w.setCell ⟨g, i * 3, none⟩ (.int .i64 y.loc)).setCell ⟨g, i * 3 + 1, none⟩ (.int .i64 y.drp)) lo hi (.slice (some ⟨g, 0, none⟩) n c) (X.set i y) := by
  have q1 := h.put0 (i := i) (by simpa using hn) (by simpa using hk) hlo y.loc
  have q2 := q1.put1 (i := i) (by simpa using hn) (by simpa using hk) hlo y.drp
  simpa [← hy] using q2
/-- The slice of one of them, and what becomes of all when it alone is turned in place. -/
theorem OwnA.turn (h : OwnA w lo hi v X) {k : Nat} (hk : k < X.length) : ∃ (g cap : Nat) (u : Value) (a b : Nat), v = .slice (some ⟨g, 0, none⟩) X.length cap ∧ w.cell? ⟨g, k * 3 + 2, none⟩ = some u ∧ lo ≤ g ∧ g < hi ∧ Row w a b 3 u (ivs X[k].put) ∧ (g < a ∨ b ≤ g) ∧
    ∀ (w' : World) (ys : List Int), Out a b w w' → Row w' a b 3 u (ivs ys) → OwnA w' lo hi v (X.set k {X[k] with put := ys}) ∧ Out lo hi w w' := by
  obtain ⟨F, h1, h2, h3⟩ := h
  have hlt := ASR_frames.lt h1
  obtain ⟨v', p, a1, a2, a3, a4, a5, a6⟩ := RowsR.elem h1 hk
  have hvv : v = v' := by simpa using a1
  subst hvv
  obtain ⟨u, hu, a3'⟩ := a3
  rw [hu] at a5
  obtain ⟨g, cap, b1, b2, b3, b4, b5⟩ := a5 2 u rfl
  obtain ⟨a, b, c1, c2, c3⟩ := a3'.row
  refine ⟨g, cap, u, a, b, b1, b4, (h3 g b2).1, (h3 g b2).2, c1, ?_, fun w' ys ho hr => ⟨⟨F, a6 w' _ AmendR.frames (fun y hy hne => ?_) ⟨u, hu, c3 w' ys hr⟩, h2, h3⟩, ?_⟩⟩
  · rcases Nat.lt_or_ge g a with h' | h'
    · exact .inl h'
    · rcases Nat.lt_or_ge g b with h'' | h''
      · exact absurd (c2 g h' h'') b3
      · exact .inr h''
  · refine ho.block y (hlt y hy) ?_
    rcases Nat.lt_or_ge y a with h' | h'
    · exact .inl h'
    · rcases Nat.lt_or_ge y b with h'' | h''
      · exact absurd (c2 y h' h'') hne
      · exact .inr h''
  · refine ⟨ho.os, ho.tape, ho.output, ho.size, fun y hy hne => ho.block y hy ?_⟩
    rcases Nat.lt_or_ge y a with h' | h'
    · exact .inl h'
    · rcases Nat.lt_or_ge y b with h'' | h''
      · have := h3 y (a4 y (c2 y h' h'')); omega
      · exact .inr h''
end
theorem Amend_info : (Try.prog.info? 26).map (fun i => (i.zero, i.size, i.bytes)) = some (some (.agg #[.int .i64 0, .int .i64 0, .slice none 0 0]), 3, 40) := by kernel_rfl
end Go.Proofs.Yteffhbboeacogaa
