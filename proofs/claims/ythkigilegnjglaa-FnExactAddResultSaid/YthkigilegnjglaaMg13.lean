/- Words for slices of judges (structs of 2 integers and a slice of integers): what is only read (RdJ), what the call owns (OwnJ); stores into a field. No conditions. -/
import Derived.Test.YthkigilegnjglaaMg2
import Derived.Test.YthkigilegnjglaaMg3
import Derived.Test.YthkigilegnjglaaMg4
import Derived.Test.YthkigilegnjglaaMg8
import Derived.Test.YthkigilegnjglaaMg12
namespace Go.Proofs.Ythkigilegnjglaa
open Go.ChangeShapes Go.WideShapes Go.ChangeAt Go.RowKit
structure Jd where
  id : Int
  club : Int
  seen : List Int
/-- All integers are of 64 bits. -/
def Jd.ok (x : Jd) : Prop := I6 x.id ∧ I6 x.club ∧ ∀ z ∈ x.seen, I6 z
def JudgeR (w : World) (F : List Nat) (cs : List Value) (x : Jd) : Prop := ∃ v : Value, cs = [.int .i64 x.id, .int .i64 x.club, v] ∧ IntsR .i64 3 w F [v] x.seen
theorem JudgeR.frames : Frames JudgeR where
  keep := by
    rintro w w' F cs x ⟨v, h1, h2⟩ hk
    exact ⟨v, h1, (IntsR.frames _ _).keep h2 hk⟩
  lt := by
    rintro w F cs x ⟨v, h1, h2⟩ b hb
    exact (IntsR.frames _ _).lt h2 b hb
abbrev JSR : World → List Nat → List Value → List Jd → Prop := RowsR 115 3 JudgeR
theorem JSR_frames : Frames JSR := RowsR.frames JudgeR.frames
def OwnJ (w : World) (lo hi : Nat) (v : Value) (X : List Jd) : Prop := Owns JSR w lo hi [v] X
/-- A judge that lies at p and is only read. -/
def AtJ (w : World) (B : Nat) (p : Addr) (x : Jd) : Prop := p.block < B ∧ ∃ (Aj : Option Addr) (cj : Nat), w.cell? p = some (.int .i64 x.id) ∧ w.cell? ⟨p.block, p.off + 1, none⟩ = some (.int .i64 x.club) ∧ w.cell? ⟨p.block, p.off + 2, none⟩ = some (.slice Aj x.seen.length cj) ∧ x.seen.length ≤ cj ∧ cj ≤ maxLen ∧ Rd w B Aj (ivs x.seen)
def RdJ (w : World) (B : Nat) (A : Option Addr) (X : List Jd) : Prop :=
  ∀ (k : Nat) (x : Jd), X[k]? = some x → ∃ ad : Addr, A = some ad ∧ AtJ w B (ad.add (k * 3)) x
def RdJd (w : World) (B : Nat) (cs : List Value) (x : Jd) : Prop := ∃ (Aj : Option Addr) (cj : Nat), cs = [.int .i64 x.id, .int .i64 x.club, .slice Aj x.seen.length cj] ∧ x.seen.length ≤ cj ∧ cj ≤ maxLen ∧ Rd w B Aj (ivs x.seen)
theorem JudgeR.rd {w : World} {F : List Nat} {cs : List Value} {x : Jd} {B : Nat} (h : JudgeR w F cs x) (hB : ∀ b ∈ F, b < B) : RdJd w B cs x := by
  obtain ⟨v, rfl, h2⟩ := h
  obtain ⟨A, c, e, h4, h5, h6⟩ := h2.rd hB
  have : v = .slice A x.seen.length c := by simpa using e
  subst this
  exact ⟨A, c, rfl, h4, h5, h6⟩
section
variable {w w' : World} {B B' lo hi lo' hi' : Nat} {A : Option Addr} {X : List Jd} {v : Value} {p : Addr} {x : Jd}
theorem AtJ.keep (h : AtJ w B p x) (hk : ∀ b, b < B → w'.heap[b]? = w.heap[b]?) : AtJ w' B p x := by
  obtain ⟨a0, Aj, cj, c0, c1, c2, a1, a2, a3⟩ := h
  exact ⟨a0, Aj, cj, (show w'.cell? p = w.cell? _ from World.cell?_of_block (hk _ a0)).trans c0, (show w'.cell? ⟨p.block, p.off + 1, none⟩ = w.cell? _ from World.cell?_of_block (hk _ a0)).trans c1, (show w'.cell? ⟨p.block, p.off + 2, none⟩ = w.cell? _ from World.cell?_of_block (hk _ a0)).trans c2, a1, a2, a3.keep hk⟩
theorem AtJ.below (h : AtJ w B p x) (hb : Below B w w') : AtJ w' B p x := h.keep hb.block
theorem AtJ.more (h : AtJ w B p x) (hB : B ≤ B') : AtJ w B' p x := by
  obtain ⟨a0, Aj, cj, c0, c1, c2, a1, a2, a3⟩ := h
  exact ⟨by omega, Aj, cj, c0, c1, c2, a1, a2, a3.more hB⟩
theorem RdJ.keep (h : RdJ w B A X) (hk : ∀ b, b < B → w'.heap[b]? = w.heap[b]?) : RdJ w' B A X := fun k x hx => by
  obtain ⟨ad, a1, a2⟩ := h k x hx
  exact ⟨ad, a1, a2.keep hk⟩
theorem RdJ.below (h : RdJ w B A X) (hb : Below B w w') : RdJ w' B A X := h.keep hb.block
theorem RdJ.more (h : RdJ w B A X) (hB : B ≤ B') : RdJ w B' A X := fun k x hx => by
  obtain ⟨ad, a1, a2⟩ := h k x hx
  exact ⟨ad, a1, a2.more hB⟩
theorem RdJ.drewN (h : RdJ w B A X) (n : Nat) : RdJ (w.drewN n) B A X := h
theorem RdJ.nil : RdJ w B A [] := fun k x hx => by simp at hx
theorem RdJ.at_ (h : RdJ w B A X) {k : Nat} (hk : k < X.length) : ∃ ad p : Addr, A = some ad ∧ ad.add (k * 3) = p ∧ AtJ w B p X[k] := by
  obtain ⟨ad, a1, a2⟩ := h k _ (List.getElem?_eq_getElem hk)
  exact ⟨ad, _, a1, rfl, a2⟩
theorem RdJ.of_rows {c : Nat} (h : RdRows 3 RdJd w B [.slice A X.length c] X) : RdJ w B A X := fun k x hx => by
  obtain ⟨A', c', h1, h2, h3, h4⟩ := h
  obtain ⟨ad, us, a1, a2, a3, a4, ⟨Aj, cj, b1, b2, b3, b4⟩⟩ := h4 k x hx
  have hA : A = A' := by have := List.head_eq_of_cons_eq h1; injection this
  subst hA
  subst b1
  refine ⟨ad, a1, by rw [add_blk]; exact a2, Aj, cj, ?_, ?_, ?_, b2, b3, b4⟩
  · have := a4 0 _ rfl; simpa using this
  · rw [← add_part]; exact a4 1 _ rfl
  · rw [← add_part]; exact a4 2 _ rfl
theorem OwnJ.rd (h : OwnJ w lo hi v X) {n : Nat} (hn : X.length = n) : ∃ A c, v = .slice A n c ∧ RdJ w hi A X ∧ n ≤ c ∧ c ≤ maxLen := by
  subst hn
  have h2 : RdRows 3 RdJd w hi [v] X := Owns.rd (fun hF hB => RowsR.rd (fun hI hB => JudgeR.rd hI hB) hF (by omega) hB) h (Nat.le_refl _)
  obtain ⟨A, c, h1, h3, h4, h5⟩ := h2
  have : v = .slice A X.length c := by simpa using h1
  subst this
  exact ⟨A, c, rfl, RdJ.of_rows ⟨A, c, rfl, h3, h4, h5⟩, h3, h4⟩
theorem OwnJ.rd' {n c : Nat} (h : OwnJ w lo hi (.slice A n c) X) : RdJ w hi A X := by
  obtain ⟨A', c', h1, h2, _, _⟩ := h.rd (n := X.length) rfl
  injection h1 with e1 e2 e3
  subst e1
  exact h2
theorem OwnJ.new (h : OwnJ w lo hi v X) (hb : Below w.heap.size w w') : OwnJ w' lo hi v X := Owns.new h JSR_frames hb
theorem OwnJ.below (h : OwnJ w lo hi v X) (hb : Below B w w') (hB : hi ≤ B) : OwnJ w' lo hi v X := Owns.below h JSR_frames hb hB
theorem OwnJ.out (h : OwnJ w lo hi v X) (o : Out lo' hi' w w') (hd : hi ≤ lo' ∨ hi' ≤ lo) : OwnJ w' lo hi v X := Owns.out h JSR_frames o hd
theorem OwnJ.wide (h : OwnJ w lo hi v X) (h1 : lo' ≤ lo) (h2 : hi ≤ hi') : OwnJ w lo' hi' v X := Owns.wide h h1 h2
theorem OwnJ.drewN (h : OwnJ w lo hi v X) (n : Nat) : OwnJ (w.drewN n) lo hi v X := h
theorem OwnJ.nil : OwnJ w lo hi (.slice none 0 0) [] := ⟨[], RowsR.nil_, by simp, by simp⟩
theorem OwnJ.base (h : OwnJ w lo hi v X) {n : Nat} (hn : X.length = n) (hp : 0 < n) : ∃ g c, v = .slice (some ⟨g, 0, none⟩) n c ∧ lo ≤ g ∧ g < hi ∧ g < w.heap.size ∧ n ≤ c ∧ c ≤ maxLen ∧ ∀ i, w.frozen? ⟨g, i, none⟩ = false := by
  subst hn
  obtain ⟨F, ⟨v', es, h1, h2, h3, h4, h5, h6, h7⟩, hFn, hF⟩ := h
  have hvv : v = v' := by simpa using h1
  subst hvv
  obtain ⟨g, cap, hv, hc1, hc2⟩ := h3.form (by omega)
  have hgb : v.ownBlock = some g := by rw [hv]; rfl
  have hgF : g ∈ F := by rw [h4, hgb]; simp
  obtain ⟨A2, c2, hv2, k1, k2⟩ := ownsRow_form h3
  have e2 : cap = c2 := by rw [hv] at hv2; injection hv2
  have h3' := h3
  rw [hv] at h3'
  exact ⟨g, cap, hv, (hF g hgF).1, (hF g hgF).2, (h3.lt g hgb).2, by omega, by omega, fun i => h3'.frozenAt i⟩
theorem OwnJ.lt (h : OwnJ w lo hi v X) : OwnJ w lo w.heap.size v X := by
  obtain ⟨F, h1, h2, h3⟩ := h
  exact ⟨F, h1, h2, fun b hb => ⟨(h3 b hb).1, JSR_frames.lt h1 b hb⟩⟩
theorem OwnJ.put0 {g c i n : Nat} (h : OwnJ w lo hi (.slice (some ⟨g, 0, none⟩) n c) X) (hn : X.length = n) (hk : i < X.length) (hlo : lo ≤ hi) (a : Int) : OwnJ (w.setCell ⟨g, i * 3, none⟩ (.int .i64 a)) lo hi (.slice (some ⟨g, 0, none⟩) n c) (X.set i {X[i] with id := a}) := by
  subst hn
  exact Owns.put1 (j := 0) JudgeR.frames h hk (by omega) (fun F us _ hx hn _ => by
    obtain ⟨v, rfl, h2⟩ := hx
    exact ⟨F, ⟨v, rfl, h2⟩, hn, fun b hb => .inl hb⟩) (Nat.le_refl _) hlo
theorem OwnJ.put1 {g c i n : Nat} (h : OwnJ w lo hi (.slice (some ⟨g, 0, none⟩) n c) X) (hn : X.length = n) (hk : i < X.length) (hlo : lo ≤ hi) (a : Int) : OwnJ (w.setCell ⟨g, i * 3 + 1, none⟩ (.int .i64 a)) lo hi (.slice (some ⟨g, 0, none⟩) n c) (X.set i {X[i] with club := a}) := by
  subst hn
  exact Owns.put1 (j := 1) JudgeR.frames h hk (by omega) (fun F us _ hx hn _ => by
    obtain ⟨v, rfl, h2⟩ := hx
    exact ⟨F, ⟨v, rfl, h2⟩, hn, fun b hb => .inl hb⟩) (Nat.le_refl _) hlo
/-- A new slice is stored into the last field. -/
theorem OwnJ.putS {g c i n M M' : Nat} {u : Value} {ys : List Int} (h : OwnJ w lo hi (.slice (some ⟨g, 0, none⟩) n c) X) (hn : X.length = n) (hk : i < X.length) (hr : Row w M M' 3 u (ivs ys)) (hM : hi ≤ M) (hM' : hi ≤ M') (hlo : lo ≤ hi) : OwnJ (w.setCell ⟨g, i * 3 + 2, none⟩ u) lo M' (.slice (some ⟨g, 0, none⟩) n c) (X.set i {X[i] with seen := ys}) := by
  subst hn
  obtain ⟨F', k1, k2, k3⟩ := Row.owns hr
  exact Owns.put1 JudgeR.frames h hk (by omega) (fun F us _ hx hn _ => by
    obtain ⟨v, rfl, h2⟩ := hx
    exact ⟨F', ⟨u, rfl, k1⟩, k2, fun b hb => .inr ⟨by have := (k3 b hb).1; omega, (k3 b hb).2⟩⟩) hM' hlo
/-- All fields are stored anew, the slice a new one. -/
theorem OwnJ.putAll {g c i n M M' : Nat} {u : Value} {y : Jd} (h : OwnJ w lo hi (.slice (some ⟨g, 0, none⟩) n c) X) (hn : X.length = n) (hk : i < X.length) (hr : Row w M M' 3 u (ivs y.seen)) (hg : g < hi) (hM : hi ≤ M) (hM' : hi ≤ M') (hlo : lo ≤ hi) :
    OwnJ (((w.setCell ⟨g, i * 3, none⟩ (.int .i64 y.id)).setCell ⟨g, i * 3 + 1, none⟩ (.int .i64 y.club)).setCell ⟨g, i * 3 + 2, none⟩ u) lo M' (.slice (some ⟨g, 0, none⟩) n c) (X.set i y) := by
  have q1 := h.put0 (i := i) (by simpa using hn) (by simpa using hk) hlo y.id
  have q2 := q1.put1 (i := i) (by simpa using hn) (by simpa using hk) hlo y.club
  have hr2 : Row (((w.setCell ⟨g, i * 3, none⟩ (.int .i64 y.id)).setCell ⟨g, i * 3 + 1, none⟩ (.int .i64 y.club))) M M' 3 u (ivs y.seen) := hr.keep fun b h1 _ _ => by
    repeat rw [Below.heap_setCell _ _ _ _ (by show b ≠ g; omega)]
  have q := q2.putS (by simpa using hn) (by simpa using hk) hr2 hM hM' hlo
  simpa using q
/-- All integers are stored anew. -/
theorem OwnJ.putInts {g c i n : Nat} {y : Jd} (h : OwnJ w lo hi (.slice (some ⟨g, 0, none⟩) n c) X) (hn : X.length = n) (hk : i < X.length) (hlo : lo ≤ hi) (hy : y.seen = X[i].seen) :
    OwnJ ((w.setCell ⟨g, i * 3, none⟩ (.int .i64 y.id)).setCell ⟨g, i * 3 + 1, none⟩ (.int .i64 y.club)) lo hi (.slice (some ⟨g, 0, none⟩) n c) (X.set i y) := by
  have q1 := h.put0 (i := i) (by simpa using hn) (by simpa using hk) hlo y.id
  have q2 := q1.put1 (i := i) (by simpa using hn) (by simpa using hk) hlo y.club
  simpa [← hy] using q2
/-- The slice of one of them, and what becomes of all when it alone is turned in place. -/
theorem OwnJ.turn (h : OwnJ w lo hi v X) {k : Nat} (hk : k < X.length) : ∃ (g cap : Nat) (u : Value) (a b : Nat), v = .slice (some ⟨g, 0, none⟩) X.length cap ∧ w.cell? ⟨g, k * 3 + 2, none⟩ = some u ∧ lo ≤ g ∧ g < hi ∧ Row w a b 3 u (ivs X[k].seen) ∧ (g < a ∨ b ≤ g) ∧
    ∀ (w' : World) (ys : List Int), Out a b w w' → Row w' a b 3 u (ivs ys) → OwnJ w' lo hi v (X.set k {X[k] with seen := ys}) ∧ Out lo hi w w' := by
  obtain ⟨F, h1, h2, h3⟩ := h
  have hlt := JSR_frames.lt h1
  obtain ⟨v', p, a1, a2, a3, a4, a5, a6⟩ := RowsR.elem h1 hk
  have hvv : v = v' := by simpa using a1
  subst hvv
  obtain ⟨u, hu, a3'⟩ := a3
  rw [hu] at a5
  obtain ⟨g, cap, b1, b2, b3, b4, b5⟩ := a5 2 u rfl
  obtain ⟨a, b, c1, c2, c3⟩ := a3'.row
  refine ⟨g, cap, u, a, b, b1, b4, (h3 g b2).1, (h3 g b2).2, c1, ?_, fun w' ys ho hr => ⟨⟨F, a6 w' _ JudgeR.frames (fun y hy hne => ?_) ⟨u, hu, c3 w' ys hr⟩, h2, h3⟩, ?_⟩⟩
  · rcases Nat.lt_or_ge g a with h' | h'
    · exact .inl h'
    · rcases Nat.lt_or_ge g b with h'' | h''
      · exact absurd (c2 g h' h'') b3
      · exact .inr h''
  · refine ho.block y (hlt y hy) ?_
    rcases Nat.lt_or_ge y a with h' | h'
    · exact .inl h'
    · rcases Nat.lt_or_ge y b with h'' | h''
      · exact absurd (c2 y h' h'') hne
      · exact .inr h''
  · refine ⟨ho.os, ho.tape, ho.output, ho.size, fun y hy hne => ho.block y hy ?_⟩
    rcases Nat.lt_or_ge y a with h' | h'
    · exact .inl h'
    · rcases Nat.lt_or_ge y b with h'' | h''
      · have := h3 y (a4 y (c2 y h' h'')); omega
      · exact .inr h''
end
theorem Judge_info : (Try.prog.info? 115).map (fun i => (i.zero, i.size, i.bytes)) = some (some (.agg #[.int .i64 0, .int .i64 0, .slice none 0 0]), 3, 40) := by kernel_rfl
end Go.Proofs.Ythkigilegnjglaa

/- Mathematics of valid judges (juB). No conditions. -/
namespace Go.Proofs.Ythkigilegnjglaa
open Go.ChangeShapes Go.WideShapes Go.ChangeAt Go.RowKit
def juIds (X : List Jd) : List Int := X.map Jd.id
def juOk (x : Jd) : Bool := inr x.club 1 99 && ascB x.seen
def juB (X : List Jd) : Bool := ascB (juIds X) && (X.all juOk && decide (X.length ≤ 10))
/-- What the model looks at, at k. -/
def juAt (X : List Jd) (k : Nat) : Bool := match X[k]? with | none => false | some p => ascAt (juIds X) k && juOk p
theorem juAt_at {X : List Jd} {k : Nat} (h : k < X.length) : juAt X k = (ascAt (juIds X) k && juOk X[k]) := by unfold juAt; rw [List.getElem?_eq_getElem h]
theorem juAt_a {X : List Jd} {k : Nat} {x : Jd} (h : juAt X k = (ascAt (juIds X) k && juOk x)) (h1 : ascAt (juIds X) k = false) : juAt X k = false := by rw [h, h1, Bool.false_and]
theorem juAt_c {X : List Jd} {k : Nat} {x : Jd} (h : juAt X k = (ascAt (juIds X) k && juOk x)) (h1 : inr x.club 1 99 = false) : juAt X k = false := by rw [h]; unfold juOk; rw [h1, Bool.false_and, Bool.and_false]
theorem juAt_s {X : List Jd} {k : Nat} {x : Jd} (h : juAt X k = (ascAt (juIds X) k && juOk x)) (h1 : ascB x.seen = false) : juAt X k = false := by rw [h]; unfold juOk; rw [h1, Bool.and_false, Bool.and_false]
theorem juAt_y {X : List Jd} {k : Nat} {x : Jd} (h : juAt X k = (ascAt (juIds X) k && juOk x)) (h1 : ascAt (juIds X) k = true) (h2 : inr x.club 1 99 = true) (h3 : ascB x.seen = true) : juAt X k = true := by rw [h]; unfold juOk; rw [h1, h2, h3]; rfl
theorem ju_all {X : List Jd} {n : Nat} (hl : X.length = n) (h : (List.range n).all (juAt X) = true) : juB X = decide (n ≤ 10) := by
  have h1 : ∀ k (hk : k < X.length), (ascAt (juIds X) k && juOk X[k]) = true := fun k hk => by
    have := List.all_eq_true.1 h k (List.mem_range.2 (by omega))
    rw [juAt_at hk] at this
    exact this
  have h2 : ascB (juIds X) = true := by
    unfold ascB
    rw [List.all_eq_true]
    intro k hk
    have := h1 k (by have := List.mem_range.1 hk; unfold juIds at this; simp at this; omega)
    exact (Bool.and_eq_true_iff.1 this).1
  have h3 : X.all juOk = true := by
    rw [List.all_eq_true]
    intro x hx
    obtain ⟨k, hk, rfl⟩ := List.getElem_of_mem hx
    exact (Bool.and_eq_true_iff.1 (h1 k hk)).2
  unfold juB
  rw [h2, h3, hl, Bool.true_and, Bool.true_and]
theorem ju_no {X : List Jd} {k : Nat} (hk : k < X.length) (h : juAt X k = false) : juB X = false := by
  rw [juAt_at hk] at h
  rcases Bool.and_eq_false_iff.1 h with h | h
  · unfold juB
    rw [asc_no (by unfold juIds; simpa using hk) h, Bool.false_and]
  · unfold juB
    have : X.all juOk = false := by rw [List.all_eq_false]; exact ⟨X[k], List.getElem_mem _, by simp [h]⟩
    rw [this, Bool.false_and, Bool.and_false]
theorem ju_snoc {X : List Jd} {k : Nat} (h : (List.range k).all (juAt X) = true) (h2 : juAt X k = true) : (List.range (k + 1)).all (juAt X) = true := by
  rw [List.range_succ, List.all_append, h, List.all_cons, h2]
  rfl
theorem ju_big {X : List Jd} (h : 10 < X.length) : juB X = false := by
  unfold juB
  rw [decide_eq_false (show ¬ X.length ≤ 10 by omega), Bool.and_false, Bool.and_false]
theorem ju_noasc {X : List Jd} (h : ascB (juIds X) = false) : juB X = false := by unfold juB; rw [h, Bool.false_and]
theorem ju_noseat {X : List Jd} {k : Nat} (hk : k < X.length) (h : juOk X[k] = false) : juB X = false := by
  unfold juB
  have : X.all juOk = false := by rw [List.all_eq_false]; exact ⟨X[k], List.getElem_mem _, by simp [h]⟩
  rw [this, Bool.false_and, Bool.and_false]
theorem ju_yes {X : List Jd} (h1 : ascB (juIds X) = true) (h2 : (X.take X.length).all juOk = true) (h3 : X.length ≤ 10) : juB X = true := by
  unfold juB
  rw [List.take_of_length_le (Nat.le_refl _)] at h2
  rw [h1, h2, decide_eq_true h3]; rfl
theorem ju_allsnoc {X : List Jd} {k : Nat} (h : (X.take k).all juOk = true) (hk : k < X.length) (h2 : juOk X[k] = true) : (X.take (k + 1)).all juOk = true := by
  rw [List.take_succ_eq_append_getElem hk, List.all_append, h, List.all_cons, h2]
  rfl
theorem juOk_c {x : Jd} (h : inr x.club 1 99 = false) : juOk x = false := by unfold juOk; rw [h, Bool.false_and]
theorem juOk_s {x : Jd} (h : ascB x.seen = false) : juOk x = false := by unfold juOk; rw [h, Bool.and_false]
theorem juOk_y {x : Jd} (h : inr x.club 1 99 = true) (h2 : ascB x.seen = true) : juOk x = true := by unfold juOk; rw [h, h2]; rfl
theorem ju_len {X : List Jd} (h : juB X = true) : X.length ≤ 10 := by
  unfold juB at h
  rw [Bool.and_eq_true, Bool.and_eq_true] at h
  exact of_decide_eq_true h.2.2
theorem ju_asc {X : List Jd} (h : juB X = true) : ascB (juIds X) = true := by
  unfold juB at h
  rw [Bool.and_eq_true] at h
  exact h.1
theorem juD {X : List Jd} {k : Nat} (hk : k < X.length) : (juIds X).getD k 0 = X[k].id := by
  have : k < (juIds X).length := by unfold juIds; simpa using hk
  rw [ascD this]; simp [juIds]
end Go.Proofs.Ythkigilegnjglaa

/- Mathematics of MayJudge (mjO, mjB). No conditions. -/
namespace Go.Proofs.Ythkigilegnjglaa
open Go.ChangeShapes Go.WideShapes Go.ChangeAt Go.RowKit
def tmC (X : List Tm) (v : Int) : Int := (X.getD v.toNat tmD).club
/-- The judge may judge the first team with this Id, as far as that team goes. -/
def mjO (X : List Tm) (j : Jd) (a : Int) : Bool := match fndO X a with | none => false | some v => decide (tmC X v ≠ j.club) && !(j.seen.contains a)
def mjB (X : List Tm) (j : Jd) (p q : Int) : Bool := mjO X j p && mjO X j q
theorem mjO_none {X : List Tm} {j : Jd} {a : Int} (h : fndO X a = none) : mjO X j a = false := by unfold mjO; rw [h]
theorem mjO_club {X : List Tm} {j : Jd} {a v : Int} {x : Tm} (h : fndO X a = some v) (hx : X.getD v.toNat tmD = x) (h2 : x.club = j.club) : mjO X j a = false := by
  unfold mjO tmC; rw [h]; simp only [hx, h2]; simp
theorem mjO_seen {X : List Tm} {j : Jd} {a v : Int} (h : fndO X a = some v) (h2 : j.seen.contains a = true) : mjO X j a = false := by
  unfold mjO; rw [h]; simp only [h2]; simp
theorem mjO_yes {X : List Tm} {j : Jd} {a v : Int} {x : Tm} (h : fndO X a = some v) (hx : X.getD v.toNat tmD = x) (h2 : x.club ≠ j.club) (h3 : j.seen.contains a = false) : mjO X j a = true := by
  unfold mjO tmC; rw [h]; simp only [hx, h3]; simp [h2]
theorem mjB_l {X : List Tm} {j : Jd} {p q : Int} (h : mjO X j p = false) : mjB X j p q = false := by unfold mjB; rw [h, Bool.false_and]
theorem mjB_r {X : List Tm} {j : Jd} {p q : Int} (h : mjO X j q = false) : mjB X j p q = false := by unfold mjB; rw [h, Bool.and_false]
theorem mjB_y {X : List Tm} {j : Jd} {p q : Int} (h : mjO X j p = true) (h2 : mjO X j q = true) : mjB X j p q = true := by unfold mjB; rw [h, h2]; rfl
theorem tmG {X : List Tm} {i : Nat} (h : i < X.length) : X.getD (i : Int).toNat tmD = X[i] := by simp [List.getD, List.getElem?_eq_getElem h]
theorem alloc_m (w : World) (o : Obj) : Below w.heap.size w (w.alloc o) := (Below.refl _ _).alloc (Nat.le_refl _) o
theorem nwc5 {w w' : World} {p : Addr} {v : Value} (r : Below w.heap.size w w') (h : w.cell? p = some v) : w'.cell? p = some v := (r.cell (p := p) (cell_lt h)).trans h
end Go.Proofs.Ythkigilegnjglaa
