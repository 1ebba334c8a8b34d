/- Words for slices of teams (structs of 5 integers and a slice of integers): what is only read (RdT), what the call owns (OwnT); stores into a field. No conditions. -/
import Derived.Test.YthkigilegnjglaaMg2
import Derived.Test.YthkigilegnjglaaMg3
import Derived.Test.YthkigilegnjglaaRows
import Derived.Test.YthkigilegnjglaaMg0
import Derived.WalkKit
import Derived.WalkLawsBesides
import Derived.WalkSpells
import Derived.OwnWalk
import Derived.Laws.AppendOwn
import Derived.Deep.AppendLies
import Derived.Deep.QuietTactic
import Derived.BigQuiet
import Derived.IntWalk
import Derived.LoopTactic
import Derived.Outline
namespace Go.Proofs.Ythkigilegnjglaa
open Go.ChangeShapes Go.WideShapes Go.ChangeAt Go.RowKit
structure Tm where
  id : Int
  club : Int
  wins : Int
  pts : Int
  firsts : Int
  met : List Int
theorem nodup_set2 : ∀ {es : List (List Nat × List Value)} {i : Nat} {p q : List Nat × List Value}, (es.flatMap (·.1)).Nodup → p.1.Nodup → es[i]? = some q → (∀ b ∈ p.1, b ∈ q.1 ∨ b ∉ es.flatMap (·.1)) → ((es.set i p).flatMap (·.1)).Nodup
  | [], i, p, q, _, _, h, _ => by simp at h
  | r :: es, 0, p, q, h, hp, hq, hd => by
    rw [List.set_cons_zero, List.flatMap_cons]
    rw [List.flatMap_cons] at h
    have e : r = q := by simpa using hq
    subst e
    refine List.nodup_append.2 ⟨hp, (List.nodup_append.1 h).2.1, fun a ha b hb hab => ?_⟩
    subst hab
    rcases hd a ha with h1 | h1
    · exact (List.nodup_append.1 h).2.2 a h1 a hb rfl
    · exact h1 (by rw [List.flatMap_cons]; exact List.mem_append_right _ hb)
  | r :: es, i + 1, p, q, h, hp, hq, hd => by
    rw [List.set_cons_succ, List.flatMap_cons]
    rw [List.flatMap_cons] at h
    obtain ⟨h1, h2, h3⟩ := List.nodup_append.1 h
    have hqm : q ∈ es := List.mem_of_getElem? (show es[i]? = some q by simpa using hq)
    refine List.nodup_append.2 ⟨h1, nodup_set2 h2 hp (show es[i]? = some q by simpa using hq) (fun b hb => (hd b hb).imp id fun hn hin => hn (by rw [List.flatMap_cons]; exact List.mem_append_right _ hin)), fun a ha b hb hab => ?_⟩
    subst hab
    rcases mem_set_flat hb with hb | hb
    · exact h3 a ha a hb rfl
    · rcases hd a hb with h5 | h5
      · exact h3 a ha a (List.mem_flatMap.2 ⟨q, hqm, h5⟩) rfl
      · exact h5 (by rw [List.flatMap_cons]; exact List.mem_append_left _ ha)
theorem flatK_set {es : List (List Nat × List Value)} {size : Nat} (h : ∀ p ∈ es, p.2.length = size) {i j : Nat} {q : List Nat × List Value} (hq : es[i]? = some q) (hj : j < size) (F' : List Nat) (u : Value) : (es.set i (F', q.2.set j u)).flatMap (·.2) = (es.flatMap (·.2)).set (i * size + j) u := by
  induction es generalizing i with
  | nil => simp at hq
  | cons r es ih =>
    have h1 := h r (by simp)
    cases i with
    | zero =>
      have e : r = q := by simpa using hq
      subst e
      simp only [List.set_cons_zero, List.flatMap_cons, Nat.zero_mul, Nat.zero_add]
      rw [List.set_append, if_pos (by omega)]
    | succ i =>
      have := ih (fun q hq => h q (List.mem_cons_of_mem _ hq)) (show es[i]? = some q by simpa using hq)
      simp only [List.set_cons_succ, List.flatMap_cons]
      rw [this, List.set_append, if_neg (by rw [h1, Nat.succ_mul]; omega)]
      congr 2
      rw [h1, Nat.succ_mul]; omega
/-- One cell of one element is stored anew; what the element owns may become something else. -/
theorem Owns.put1 {X : Type} {R : World → List Nat → List Value → X → Prop} {e : TypeId} {size lo hi hi' g cap i j : Nat} {w : World} {l : List X} {u : Value} {x' : X} (hR : Frames R) (h : Owns (RowsR e size R) w lo hi [.slice (some ⟨g, 0, none⟩) l.length cap] l) (hi_ : i < l.length) (hj : j < size)
    (hx : ∀ F us, us.length = size → R w F us l[i] → F.Nodup → (∀ b ∈ F, b < hi) → ∃ Fn, R w Fn (us.set j u) x' ∧ Fn.Nodup ∧ ∀ b ∈ Fn, b ∈ F ∨ (hi ≤ b ∧ b < hi')) (hh : hi ≤ hi') (hlo : lo ≤ hi) :
    Owns (RowsR e size R) (w.setCell ⟨g, i * size + j, none⟩ u) lo hi' [.slice (some ⟨g, 0, none⟩) l.length cap] (l.set i x') := by
  obtain ⟨F, ⟨v, es, h1, h2, h3, h4, h5, h6, h7⟩, hFn, hF⟩ := h
  have hvv : v = .slice (some ⟨g, 0, none⟩) l.length cap := by simpa using h1.symm
  subst hvv
  have hown : (Value.slice (some ⟨g, 0, none⟩) l.length cap).ownBlock.toList = [g] := rfl
  rw [hown] at h4
  have hgF : g ∈ F := by rw [h4]; simp
  rw [h4] at h5
  obtain ⟨n1, n2, n3⟩ := List.nodup_append.1 h5
  have hie : i < es.length := by omega
  have hq : es[i]? = some es[i] := List.getElem?_eq_getElem hie
  have hqx := h7 i _ _ hq (List.getElem?_eq_getElem hi_)
  have hsub : ∀ b ∈ es[i].1, b ∈ es.flatMap (·.1) := fun b hb => mem_flat1 hq hb
  have hFm : ∀ b ∈ es.flatMap (·.1), b ∈ F := fun b hb => by rw [h4]; exact List.mem_append_right _ hb
  have hqn : es[i].1.Nodup := by
    have hall : ∀ (es : List (List Nat × List Value)) (i : Nat) (hi : i < es.length), (es.flatMap (·.1)).Nodup → es[i].1.Nodup := by
      intro es
      induction es with
      | nil => intro i hi; exact absurd hi (Nat.not_lt_zero _)
      | cons r es ih =>
        intro i hi hn
        rw [List.flatMap_cons] at hn
        obtain ⟨m1, m2, _⟩ := List.nodup_append.1 hn
        cases i with
        | zero => exact m1
        | succ i => exact ih i (by simpa using hi) m2
    exact hall es i hie n2
  obtain ⟨Fn, k1, k2, k3⟩ := hx es[i].1 es[i].2 (h6 _ (List.getElem_mem _)) hqx hqn (fun b hb => (hF b (hFm b (hsub b hb))).2)
  have hnew : ∀ b ∈ Fn, b ∈ es[i].1 ∨ b ∉ es.flatMap (·.1) := fun b hb => (k3 b hb).imp id fun hr hin => by have := (hF b (hFm b hin)).2; omega
  have hgn : ∀ b ∈ Fn, b ≠ g := fun b hb hbg => by
    subst hbg
    rcases k3 b hb with hr | hr
    · exact n3 b (by simp) b (hsub b hr) rfl
    · have := (hF b hgF).2; omega
  have hnd : ([g] ++ (es.set i (Fn, es[i].2.set j u)).flatMap (·.1)).Nodup := by
    refine List.nodup_append.2 ⟨n1, nodup_set2 n2 k2 hq hnew, fun a ha b hb hab => ?_⟩
    subst hab
    have hag : a = g := by simpa using ha
    subst hag
    rcases mem_set_flat hb with hb | hb
    · exact n3 a (by simp) a hb rfl
    · exact hgn a hb rfl
  have hfar : ∀ b, b ≠ g → (w.setCell ⟨g, i * size + j, none⟩ u).heap[b]? = w.heap[b]? := fun b hb => heap_setCell_other w ⟨g, i * size + j, none⟩ b u hb
  refine ⟨[g] ++ (es.set i (Fn, es[i].2.set j u)).flatMap (·.1), ⟨_, es.set i (Fn, es[i].2.set j u), rfl, by simp [h2], ?_, rfl, hnd, fun p hp => ?_, fun k p y hkp hky => ?_⟩, hnd, fun b hb => ?_⟩
  · rw [flatK_set h6 hq hj, List.length_set]
    exact (h3.stored (i * size + j) u).1
  · rcases List.mem_or_eq_of_mem_set hp with hp | rfl
    · exact h6 p hp
    · rw [List.length_set]; exact h6 _ (List.getElem_mem _)
  · rcases Nat.decEq k i with hne | rfl
    · rw [List.getElem?_set_ne (by omega)] at hkp hky
      refine hR.keep (h7 k p y hkp hky) (fun b hb => hfar b (fun hbg => ?_))
      subst hbg
      exact n3 b (by simp) b (mem_flat1 hkp hb) rfl
    · rw [List.getElem?_set_self (by omega)] at hkp hky
      injection hkp with hkp
      injection hky with hky
      subst hkp
      subst hky
      exact hR.keep k1 (fun b hb => hfar b (hgn b hb))
  · rw [List.mem_append] at hb
    rcases hb with hb | hb
    · have : b = g := by simpa using hb
      subst this
      have := hF b hgF; omega
    · rcases mem_set_flat hb with hb | hb
      · have := hF b (hFm b hb); omega
      · rcases k3 b hb with hr | hr
        · have := hF b (hFm b (hsub b hr)); omega
        · omega
theorem reps_flat2 (n : Nat) (us : List Value) : (List.replicate n (([] : List Nat), us)).flatMap (·.2) = (List.replicate n us).flatten := by
  induction n with
  | zero => rfl
  | succ n ih => simp only [List.replicate_succ, List.flatMap_cons, List.flatten_cons, ih]
theorem reps_flat1 (n : Nat) (us : List Value) : (List.replicate n (([] : List Nat), us)).flatMap (·.1) = [] := by
  induction n with
  | zero => rfl
  | succ n ih => simp only [List.replicate_succ, List.flatMap_cons, ih]; rfl
theorem RowsR.madeK {X : Type} {R : World → List Nat → List Value → X → Prop} {e : TypeId} {size : Nat} {w : World} {base g n : Nat} {us : List Value} {x0 : X} (hu : us.length = size) (h : w.ownsRow base e size (.slice (some ⟨g, 0, none⟩) n n) n (List.replicate n us).flatten) (hz : R w [] us x0) :
    RowsR e size R w [g] [.slice (some ⟨g, 0, none⟩) n n] (List.replicate n x0) := by
  have e1 := reps_flat2 n us
  refine ⟨_, List.replicate n ([], us), rfl, by simp, ?_, ?_, by simp, ?_, ?_⟩
  · rw [e1, List.length_replicate]
    refine ⟨h.1, ?_⟩
    rcases h.2 with hn | ⟨g', cap, cur, h1, hb, rest⟩
    · exact .inl hn
    · exact .inr ⟨g', cap, cur, h1, Nat.zero_le _, rest⟩
  · rw [reps_flat1]; rfl
  · intro p hp
    rw [(List.mem_replicate.1 hp).2]; exact hu
  · intro i p x hp hx
    rw [List.getElem?_replicate] at hp hx
    split at hp
    · injection hp with hp
      rename_i hlt
      rw [if_pos hlt] at hx
      injection hx with hx
      rw [← hp, ← hx]; exact hz
    · cases hp
theorem madeCells_flat (us : List Value) (hu : 0 < us.length) (n : Nat) : (madeCells us.toArray (n * us.length)).toList = (List.replicate n us).flatten := by
  apply List.ext_getElem?
  intro j
  by_cases hj : j < n * us.length
  · have hd : j / us.length < n := (Nat.div_lt_iff_lt_mul hu).2 hj
    have hm : j % us.length < us.length := Nat.mod_lt _ hu
    have e2 : ∀ (n j : Nat), j < n * us.length → (List.replicate n us).flatten[j]? = us[j % us.length]? := by
      intro n
      induction n with
      | zero => intro j h; omega
      | succ n ih =>
        intro j h
        rw [List.replicate_succ, List.flatten_cons]
        by_cases hl : j < us.length
        · rw [List.getElem?_append_left hl, Nat.mod_eq_of_lt hl]
        · rw [List.getElem?_append_right (by omega), ih (j - us.length) (by rw [Nat.succ_mul] at h; omega), ← Nat.mod_eq_sub_mod (by omega)]
    rw [e2 n j hj]
    unfold madeCells
    simp [hj, List.getElem?_eq_getElem hm]
  · rw [List.getElem?_eq_none (by simp [madeCells]; omega), List.getElem?_eq_none (by simp; omega)]
def I6 (a : Int) : Prop := IntKind.i64.min ≤ a ∧ a ≤ IntKind.i64.max
/-- All integers are of 64 bits. -/
def Tm.ok (x : Tm) : Prop := I6 x.id ∧ I6 x.club ∧ I6 x.wins ∧ I6 x.pts ∧ I6 x.firsts ∧ ∀ z ∈ x.met, I6 z
def TeamR (w : World) (F : List Nat) (cs : List Value) (x : Tm) : Prop := ∃ v : Value, cs = [.int .i64 x.id, .int .i64 x.club, .int .i64 x.wins, .int .i64 x.pts, .int .i64 x.firsts, v] ∧ IntsR .i64 3 w F [v] x.met
theorem TeamR.frames : Frames TeamR where
  keep := by
    rintro w w' F cs x ⟨v, h1, h2⟩ hk
    exact ⟨v, h1, (IntsR.frames _ _).keep h2 hk⟩
  lt := by
    rintro w F cs x ⟨v, h1, h2⟩ b hb
    exact (IntsR.frames _ _).lt h2 b hb
abbrev TSR : World → List Nat → List Value → List Tm → Prop := RowsR 82 6 TeamR
theorem TSR_frames : Frames TSR := RowsR.frames TeamR.frames
def OwnT (w : World) (lo hi : Nat) (v : Value) (X : List Tm) : Prop := Owns TSR w lo hi [v] X
/-- A team that lies at p and is only read. -/
def AtT (w : World) (B : Nat) (p : Addr) (x : Tm) : Prop := p.block < B ∧ ∃ (Aj : Option Addr) (cj : Nat), w.cell? p = some (.int .i64 x.id) ∧ w.cell? ⟨p.block, p.off + 1, none⟩ = some (.int .i64 x.club) ∧ w.cell? ⟨p.block, p.off + 2, none⟩ = some (.int .i64 x.wins) ∧ w.cell? ⟨p.block, p.off + 3, none⟩ = some (.int .i64 x.pts) ∧ w.cell? ⟨p.block, p.off + 4, none⟩ = some (.int .i64 x.firsts) ∧ w.cell? ⟨p.block, p.off + 5, none⟩ = some (.slice Aj x.met.length cj) ∧ x.met.length ≤ cj ∧ cj ≤ maxLen ∧ Rd w B Aj (ivs x.met)
def RdT (w : World) (B : Nat) (A : Option Addr) (X : List Tm) : Prop :=
  ∀ (k : Nat) (x : Tm), X[k]? = some x → ∃ ad : Addr, A = some ad ∧ AtT w B (ad.add (k * 6)) x
def RdTm (w : World) (B : Nat) (cs : List Value) (x : Tm) : Prop := ∃ (Aj : Option Addr) (cj : Nat), cs = [.int .i64 x.id, .int .i64 x.club, .int .i64 x.wins, .int .i64 x.pts, .int .i64 x.firsts, .slice Aj x.met.length cj] ∧ x.met.length ≤ cj ∧ cj ≤ maxLen ∧ Rd w B Aj (ivs x.met)
theorem TeamR.rd {w : World} {F : List Nat} {cs : List Value} {x : Tm} {B : Nat} (h : TeamR w F cs x) (hB : ∀ b ∈ F, b < B) : RdTm w B cs x := by
  obtain ⟨v, rfl, h2⟩ := h
  obtain ⟨A, c, e, h4, h5, h6⟩ := h2.rd hB
  have : v = .slice A x.met.length c := by simpa using e
  subst this
  exact ⟨A, c, rfl, h4, h5, h6⟩
section
variable {w w' : World} {B B' lo hi lo' hi' : Nat} {A : Option Addr} {X : List Tm} {v : Value} {p : Addr} {x : Tm}
theorem AtT.keep (h : AtT w B p x) (hk : ∀ b, b < B → w'.heap[b]? = w.heap[b]?) : AtT w' B p x := by
  obtain ⟨a0, Aj, cj, c0, c1, c2, c3, c4, c5, a1, a2, a3⟩ := h
  exact ⟨a0, Aj, cj, (show w'.cell? p = w.cell? _ from World.cell?_of_block (hk _ a0)).trans c0, (show w'.cell? ⟨p.block, p.off + 1, none⟩ = w.cell? _ from World.cell?_of_block (hk _ a0)).trans c1, (show w'.cell? ⟨p.block, p.off + 2, none⟩ = w.cell? _ from World.cell?_of_block (hk _ a0)).trans c2, (show w'.cell? ⟨p.block, p.off + 3, none⟩ = w.cell? _ from World.cell?_of_block (hk _ a0)).trans c3, (show w'.cell? ⟨p.block, p.off + 4, none⟩ = w.cell? _ from World.cell?_of_block (hk _ a0)).trans c4, (show w'.cell? ⟨p.block, p.off + 5, none⟩ = w.cell? _ from World.cell?_of_block (hk _ a0)).trans c5, a1, a2, a3.keep hk⟩
theorem AtT.below (h : AtT w B p x) (hb : Below B w w') : AtT w' B p x := h.keep hb.block
theorem AtT.more (h : AtT w B p x) (hB : B ≤ B') : AtT w B' p x := by
  obtain ⟨a0, Aj, cj, c0, c1, c2, c3, c4, c5, a1, a2, a3⟩ := h
  exact ⟨by omega, Aj, cj, c0, c1, c2, c3, c4, c5, a1, a2, a3.more hB⟩
theorem RdT.keep (h : RdT w B A X) (hk : ∀ b, b < B → w'.heap[b]? = w.heap[b]?) : RdT w' B A X := fun k x hx => by
  obtain ⟨ad, a1, a2⟩ := h k x hx
  exact ⟨ad, a1, a2.keep hk⟩
theorem RdT.below (h : RdT w B A X) (hb : Below B w w') : RdT w' B A X := h.keep hb.block
theorem RdT.more (h : RdT w B A X) (hB : B ≤ B') : RdT w B' A X := fun k x hx => by
  obtain ⟨ad, a1, a2⟩ := h k x hx
  exact ⟨ad, a1, a2.more hB⟩
theorem RdT.drewN (h : RdT w B A X) (n : Nat) : RdT (w.drewN n) B A X := h
theorem RdT.nil : RdT w B A [] := fun k x hx => by simp at hx
theorem RdT.at_ (h : RdT w B A X) {k : Nat} (hk : k < X.length) : ∃ ad p : Addr, A = some ad ∧ ad.add (k * 6) = p ∧ AtT w B p X[k] := by
  obtain ⟨ad, a1, a2⟩ := h k _ (List.getElem?_eq_getElem hk)
  exact ⟨ad, _, a1, rfl, a2⟩
theorem RdT.of_rows {c : Nat} (h : RdRows 6 RdTm w B [.slice A X.length c] X) : RdT w B A X := fun k x hx => by
  obtain ⟨A', c', h1, h2, h3, h4⟩ := h
  obtain ⟨ad, us, a1, a2, a3, a4, ⟨Aj, cj, b1, b2, b3, b4⟩⟩ := h4 k x hx
  have hA : A = A' := by have := List.head_eq_of_cons_eq h1; injection this
  subst hA
  subst b1
  refine ⟨ad, a1, by rw [add_blk]; exact a2, Aj, cj, ?_, ?_, ?_, ?_, ?_, ?_, b2, b3, b4⟩
  · have := a4 0 _ rfl; simpa using this
  · rw [← add_part]; exact a4 1 _ rfl
  · rw [← add_part]; exact a4 2 _ rfl
  · rw [← add_part]; exact a4 3 _ rfl
  · rw [← add_part]; exact a4 4 _ rfl
  · rw [← add_part]; exact a4 5 _ rfl
theorem OwnT.rd (h : OwnT w lo hi v X) {n : Nat} (hn : X.length = n) : ∃ A c, v = .slice A n c ∧ RdT w hi A X ∧ n ≤ c ∧ c ≤ maxLen := by
  subst hn
  have h2 : RdRows 6 RdTm w hi [v] X := Owns.rd (fun hF hB => RowsR.rd (fun hI hB => TeamR.rd hI hB) hF (by omega) hB) h (Nat.le_refl _)
  obtain ⟨A, c, h1, h3, h4, h5⟩ := h2
  have : v = .slice A X.length c := by simpa using h1
  subst this
  exact ⟨A, c, rfl, RdT.of_rows ⟨A, c, rfl, h3, h4, h5⟩, h3, h4⟩
theorem OwnT.rd' {n c : Nat} (h : OwnT w lo hi (.slice A n c) X) : RdT w hi A X := by
  obtain ⟨A', c', h1, h2, _, _⟩ := h.rd (n := X.length) rfl
  injection h1 with e1 e2 e3
  subst e1
  exact h2
theorem OwnT.new (h : OwnT w lo hi v X) (hb : Below w.heap.size w w') : OwnT w' lo hi v X := Owns.new h TSR_frames hb
theorem OwnT.below (h : OwnT w lo hi v X) (hb : Below B w w') (hB : hi ≤ B) : OwnT w' lo hi v X := Owns.below h TSR_frames hb hB
theorem OwnT.out (h : OwnT w lo hi v X) (o : Out lo' hi' w w') (hd : hi ≤ lo' ∨ hi' ≤ lo) : OwnT w' lo hi v X := Owns.out h TSR_frames o hd
theorem OwnT.wide (h : OwnT w lo hi v X) (h1 : lo' ≤ lo) (h2 : hi ≤ hi') : OwnT w lo' hi' v X := Owns.wide h h1 h2
theorem OwnT.drewN (h : OwnT w lo hi v X) (n : Nat) : OwnT (w.drewN n) lo hi v X := h
theorem OwnT.nil : OwnT w lo hi (.slice none 0 0) [] := ⟨[], RowsR.nil_, by simp, by simp⟩
theorem OwnT.base (h : OwnT w lo hi v X) {n : Nat} (hn : X.length = n) (hp : 0 < n) : ∃ g c, v = .slice (some ⟨g, 0, none⟩) n c ∧ lo ≤ g ∧ g < hi ∧ g < w.heap.size ∧ n ≤ c ∧ c ≤ maxLen ∧ ∀ i, w.frozen? ⟨g, i, none⟩ = false := by
  subst hn
  obtain ⟨F, ⟨v', es, h1, h2, h3, h4, h5, h6, h7⟩, hFn, hF⟩ := h
  have hvv : v = v' := by simpa using h1
  subst hvv
  obtain ⟨g, cap, hv, hc1, hc2⟩ := h3.form (by omega)
  have hgb : v.ownBlock = some g := by rw [hv]; rfl
  have hgF : g ∈ F := by rw [h4, hgb]; simp
  obtain ⟨A2, c2, hv2, k1, k2⟩ := ownsRow_form h3
  have e2 : cap = c2 := by rw [hv] at hv2; injection hv2
  have h3' := h3
  rw [hv] at h3'
  exact ⟨g, cap, hv, (hF g hgF).1, (hF g hgF).2, (h3.lt g hgb).2, by omega, by omega, fun i => h3'.frozenAt i⟩
theorem OwnT.lt (h : OwnT w lo hi v X) : OwnT w lo w.heap.size v X := by
  obtain ⟨F, h1, h2, h3⟩ := h
  exact ⟨F, h1, h2, fun b hb => ⟨(h3 b hb).1, TSR_frames.lt h1 b hb⟩⟩
theorem OwnT.put0 {g c i n : Nat} (h : OwnT w lo hi (.slice (some ⟨g, 0, none⟩) n c) X) (hn : X.length = n) (hk : i < X.length) (hlo : lo ≤ hi) (a : Int) : OwnT (w.setCell ⟨g, i * 6, none⟩ (.int .i64 a)) lo hi (.slice (some ⟨g, 0, none⟩) n c) (X.set i {X[i] with id := a}) := by
  subst hn
  exact Owns.put1 (j := 0) TeamR.frames h hk (by omega) (fun F us _ hx hn _ => by
    obtain ⟨v, rfl, h2⟩ := hx
    exact ⟨F, ⟨v, rfl, h2⟩, hn, fun b hb => .inl hb⟩) (Nat.le_refl _) hlo
theorem OwnT.put1 {g c i n : Nat} (h : OwnT w lo hi (.slice (some ⟨g, 0, none⟩) n c) X) (hn : X.length = n) (hk : i < X.length) (hlo : lo ≤ hi) (a : Int) : OwnT (w.setCell ⟨g, i * 6 + 1, none⟩ (.int .i64 a)) lo hi (.slice (some ⟨g, 0, none⟩) n c) (X.set i {X[i] with club := a}) := by
  subst hn
  exact Owns.put1 (j := 1) TeamR.frames h hk (by omega) (fun F us _ hx hn _ => by
    obtain ⟨v, rfl, h2⟩ := hx
    exact ⟨F, ⟨v, rfl, h2⟩, hn, fun b hb => .inl hb⟩) (Nat.le_refl _) hlo
theorem OwnT.put2 {g c i n : Nat} (h : OwnT w lo hi (.slice (some ⟨g, 0, none⟩) n c) X) (hn : X.length = n) (hk : i < X.length) (hlo : lo ≤ hi) (a : Int) : OwnT (w.setCell ⟨g, i * 6 + 2, none⟩ (.int .i64 a)) lo hi (.slice (some ⟨g, 0, none⟩) n c) (X.set i {X[i] with wins := a}) := by
  subst hn
  exact Owns.put1 (j := 2) TeamR.frames h hk (by omega) (fun F us _ hx hn _ => by
    obtain ⟨v, rfl, h2⟩ := hx
    exact ⟨F, ⟨v, rfl, h2⟩, hn, fun b hb => .inl hb⟩) (Nat.le_refl _) hlo
theorem OwnT.put3 {g c i n : Nat} (h : OwnT w lo hi (.slice (some ⟨g, 0, none⟩) n c) X) (hn : X.length = n) (hk : i < X.length) (hlo : lo ≤ hi) (a : Int) : OwnT (w.setCell ⟨g, i * 6 + 3, none⟩ (.int .i64 a)) lo hi (.slice (some ⟨g, 0, none⟩) n c) (X.set i {X[i] with pts := a}) := by
  subst hn
  exact Owns.put1 (j := 3) TeamR.frames h hk (by omega) (fun F us _ hx hn _ => by
    obtain ⟨v, rfl, h2⟩ := hx
    exact ⟨F, ⟨v, rfl, h2⟩, hn, fun b hb => .inl hb⟩) (Nat.le_refl _) hlo
theorem OwnT.put4 {g c i n : Nat} (h : OwnT w lo hi (.slice (some ⟨g, 0, none⟩) n c) X) (hn : X.length = n) (hk : i < X.length) (hlo : lo ≤ hi) (a : Int) : OwnT (w.setCell ⟨g, i * 6 + 4, none⟩ (.int .i64 a)) lo hi (.slice (some ⟨g, 0, none⟩) n c) (X.set i {X[i] with firsts := a}) := by
  subst hn
  exact Owns.put1 (j := 4) TeamR.frames h hk (by omega) (fun F us _ hx hn _ => by
    obtain ⟨v, rfl, h2⟩ := hx
    exact ⟨F, ⟨v, rfl, h2⟩, hn, fun b hb => .inl hb⟩) (Nat.le_refl _) hlo
/-- A new slice is stored into the last field. -/
theorem OwnT.putS {g c i n M M' : Nat} {u : Value} {ys : List Int} (h : OwnT w lo hi (.slice (some ⟨g, 0, none⟩) n c) X) (hn : X.length = n) (hk : i < X.length) (hr : Row w M M' 3 u (ivs ys)) (hM : hi ≤ M) (hM' : hi ≤ M') (hlo : lo ≤ hi) : OwnT (w.setCell ⟨g, i * 6 + 5, none⟩ u) lo M' (.slice (some ⟨g, 0, none⟩) n c) (X.set i {X[i] with met := ys}) := by
  subst hn
  obtain ⟨F', k1, k2, k3⟩ := Row.owns hr
  exact Owns.put1 TeamR.frames h hk (by omega) (fun F us _ hx hn _ => by
    obtain ⟨v, rfl, h2⟩ := hx
    exact ⟨F', ⟨u, rfl, k1⟩, k2, fun b hb => .inr ⟨by have := (k3 b hb).1; omega, (k3 b hb).2⟩⟩) hM' hlo
/-- All fields are stored anew, the slice a new one. -/
theorem OwnT.putAll {g c i n M M' : Nat} {u : Value} {y : Tm} (h : OwnT w lo hi (.slice (some ⟨g, 0, none⟩) n c) X) (hn : X.length = n) (hk : i < X.length) (hr : Row w M M' 3 u (ivs y.met)) (hg : g < hi) (hM : hi ≤ M) (hM' : hi ≤ M') (hlo : lo ≤ hi) :
    OwnT ((((((w.setCell ⟨g, i * 6, none⟩ (.int .i64 y.id)).setCell ⟨g, i * 6 + 1, none⟩ (.int .i64 y.club)).setCell ⟨g, i * 6 + 2, none⟩ (.int .i64 y.wins)).setCell ⟨g, i * 6 + 3, none⟩ (.int .i64 y.pts)).setCell ⟨g, i * 6 + 4, none⟩ (.int .i64 y.firsts)).setCell ⟨g, i * 6 + 5, none⟩ u) lo M' (.slice (some ⟨g, 0, none⟩) n c) (X.set i y) := by
  have q1 := h.put0 (i := i) (by simpa using hn) (by simpa using hk) hlo y.id
  have q2 := q1.put1 (i := i) (by simpa using hn) (by simpa using hk) hlo y.club
  have q3 := q2.put2 (i := i) (by simpa using hn) (by simpa using hk) hlo y.wins
  have q4 := q3.put3 (i := i) (by simpa using hn) (by simpa using hk) hlo y.pts
  have q5 := q4.put4 (i := i) (by simpa using hn) (by simpa using hk) hlo y.firsts
  have hr2 : Row ((((((w.setCell ⟨g, i * 6, none⟩ (.int .i64 y.id)).setCell ⟨g, i * 6 + 1, none⟩ (.int .i64 y.club)).setCell ⟨g, i * 6 + 2, none⟩ (.int .i64 y.wins)).setCell ⟨g, i * 6 + 3, none⟩ (.int .i64 y.pts)).setCell ⟨g, i * 6 + 4, none⟩ (.int .i64 y.firsts))) M M' 3 u (ivs y.met) := hr.keep fun b h1 _ _ => by
    repeat rw [Below.heap_setCell _ _ _ _ (by show b ≠ g; omega)]
  have q := q5.putS (by simpa using hn) (by simpa using hk) hr2 hM hM' hlo
  simpa using q
/-- All integers are stored anew. -/
theorem OwnT.putInts {g c i n : Nat} {y : Tm} (h : OwnT w lo hi (.slice (some ⟨g, 0, none⟩) n c) X) (hn : X.length = n) (hk : i < X.length) (hlo : lo ≤ hi) (hy : y.met = X[i].met) :
    OwnT (((((w.setCell ⟨g, i * 6, none⟩ (.int .i64 y.id)).setCell ⟨g, i * 6 + 1, none⟩ (.int .i64 y.club)).setCell ⟨g, i * 6 + 2, none⟩ (.int .i64 y.wins)).setCell ⟨g, i * 6 + 3, none⟩ (.int .i64 y.pts)).setCell ⟨g, i * 6 + 4, none⟩ (.int .i64 y.firsts)) lo hi (.slice (some ⟨g, 0, none⟩) n c) (X.set i y) := by
  have q1 := h.put0 (i := i) (by simpa using hn) (by simpa using hk) hlo y.id
  have q2 := q1.put1 (i := i) (by simpa using hn) (by simpa using hk) hlo y.club
  have q3 := q2.put2 (i := i) (by simpa using hn) (by simpa using hk) hlo y.wins
  have q4 := q3.put3 (i := i) (by simpa using hn) (by simpa using hk) hlo y.pts
  have q5 := q4.put4 (i := i) (by simpa using hn) (by simpa using hk) hlo y.firsts
  simpa [← hy] using q5
/-- The slice of one of them, and what becomes of all when it alone is turned in place. -/
theorem OwnT.turn (h : OwnT w lo hi v X) {k : Nat} (hk : k < X.length) : ∃ (g cap : Nat) (u : Value) (a b : Nat), v = .slice (some ⟨g, 0, none⟩) X.length cap ∧ w.cell? ⟨g, k * 6 + 5, none⟩ = some u ∧ lo ≤ g ∧ g < hi ∧ Row w a b 3 u (ivs X[k].met) ∧ (g < a ∨ b ≤ g) ∧
    ∀ (w' : World) (ys : List Int), Out a b w w' → Row w' a b 3 u (ivs ys) → OwnT w' lo hi v (X.set k {X[k] with met := ys}) ∧ Out lo hi w w' := by
  obtain ⟨F, h1, h2, h3⟩ := h
  have hlt := TSR_frames.lt h1
  obtain ⟨v', p, a1, a2, a3, a4, a5, a6⟩ := RowsR.elem h1 hk
  have hvv : v = v' := by simpa using a1
  subst hvv
  obtain ⟨u, hu, a3'⟩ := a3
  rw [hu] at a5
  obtain ⟨g, cap, b1, b2, b3, b4, b5⟩ := a5 5 u rfl
  obtain ⟨a, b, c1, c2, c3⟩ := a3'.row
  refine ⟨g, cap, u, a, b, b1, b4, (h3 g b2).1, (h3 g b2).2, c1, ?_, fun w' ys ho hr => ⟨⟨F, a6 w' _ TeamR.frames (fun y hy hne => ?_) ⟨u, hu, c3 w' ys hr⟩, h2, h3⟩, ?_⟩⟩
  · rcases Nat.lt_or_ge g a with h' | h'
    · exact .inl h'
    · rcases Nat.lt_or_ge g b with h'' | h''
      · exact absurd (c2 g h' h'') b3
      · exact .inr h''
  · refine ho.block y (hlt y hy) ?_
    rcases Nat.lt_or_ge y a with h' | h'
    · exact .inl h'
    · rcases Nat.lt_or_ge y b with h'' | h''
      · exact absurd (c2 y h' h'') hne
      · exact .inr h''
  · refine ⟨ho.os, ho.tape, ho.output, ho.size, fun y hy hne => ho.block y hy ?_⟩
    rcases Nat.lt_or_ge y a with h' | h'
    · exact .inl h'
    · rcases Nat.lt_or_ge y b with h'' | h''
      · have := h3 y (a4 y (c2 y h' h'')); omega
      · exact .inr h''
end
theorem Team_info : (Try.prog.info? 82).map (fun i => (i.zero, i.size, i.bytes)) = some (some (.agg #[.int .i64 0, .int .i64 0, .int .i64 0, .int .i64 0, .int .i64 0, .slice none 0 0]), 6, 64) := by kernel_rfl
end Go.Proofs.Ythkigilegnjglaa

/- Contracts of the functions that draw inputs from the code of a law (a cursor over bytes): each returns, within the range that its callers need, and writes to nothing but the cursor and new memory. Condition: the cursor lies in a block of its own and the bytes that it reads lie in older blocks. -/
namespace Go.Proofs.Ythkigilegnjglaa
open Go.ChangeShapes Go.WideShapes Go.ChangeAt Go.RowKit
/-- A cursor in block B over the code A. -/
structure Cur (w : World) (B : Nat) (A : Option Addr) (n c : Nat) : Prop where
  lt : B < w.heap.size
  c0 : w.cell? ⟨B, 0, none⟩ = some (.slice A n c)
  c1 : ∃ i : Nat, i ≤ n ∧ w.cell? ⟨B, 1, none⟩ = some (.int .i64 i)
  c2 : ∃ h : Int, w.cell? ⟨B, 2, none⟩ = some (.int .i64 h)
  f0 : ∀ k, w.frozen? ⟨B, k, none⟩ = false
  len : n ≤ 9223372036854775807
  code : 0 < n → ∃ a, A = some a ∧ a.block < B ∧ ∀ j, j < n → ∃ z : Int, 0 ≤ z ∧ z ≤ 255 ∧ w.cell? (a.add j) = some (.int .u8 z)
theorem add_block (a : Addr) (n : Nat) : (a.add n).block = a.block := by unfold Addr.add; split <;> rfl
/-- Another world in which the cursor's block and all that lies ahead of it are as they were. -/
theorem Cur.keep {w w' : World} {B : Nat} {A : Option Addr} {n c : Nat} (h : Cur w B A n c) (hs : w.heap.size ≤ w'.heap.size) (hb : ∀ k, k ≤ B → w'.heap[k]? = w.heap[k]?) : Cur w' B A n c := by
  have e : ∀ p : Addr, p.block ≤ B → w'.cell? p = w.cell? p := fun p hp => World.cell?_of_block (hb _ hp)
  refine ⟨Nat.lt_of_lt_of_le h.lt hs, (e _ (Nat.le_refl _)).trans h.c0, ?_, ?_, fun k => (World.frozen?_of_block (hb _ (Nat.le_refl _))).trans (h.f0 k), h.len, fun hn => ?_⟩
  · obtain ⟨i, hi, hc⟩ := h.c1; exact ⟨i, hi, (e _ (Nat.le_refl _)).trans hc⟩
  · obtain ⟨i, hc⟩ := h.c2; exact ⟨i, (e _ (Nat.le_refl _)).trans hc⟩
  · obtain ⟨a, rfl, ha, hc⟩ := h.code hn
    exact ⟨a, rfl, ha, fun j hj => by
      obtain ⟨z, z0, z1, hz⟩ := hc j hj
      exact ⟨z, z0, z1, (e _ (by rw [add_block]; omega)).trans hz⟩⟩
theorem Cur.below {w w' : World} {B : Nat} {A : Option Addr} {n c : Nat} (h : Cur w B A n c) (hb : Below w.heap.size w w') : Cur w' B A n c :=
  h.keep hb.size (fun k hk => hb.block k (Nat.lt_of_le_of_lt hk h.lt))
theorem Cur.drewN {w : World} {B : Nat} {A : Option Addr} {n c : Nat} (h : Cur w B A n c) (k : Nat) : Cur (w.drewN k) B A n c := h.keep (Nat.le_refl _) (fun _ _ => rfl)
theorem Cur.alloc {w : World} {B : Nat} {A : Option Addr} {n c : Nat} (h : Cur w B A n c) (o : Obj) : Cur (w.alloc o) B A n c := h.keep (by simp) (fun k hk => Below.heap_alloc w o k (Nat.lt_of_le_of_lt hk h.lt))
/-- The cursor's own numbers written: it is one still. -/
theorem Cur.set2 {w : World} {B : Nat} {A : Option Addr} {n c : Nat} (h : Cur w B A n c) (x : Int) : Cur (w.setCell ⟨B, 2, none⟩ (.int .i64 x)) B A n c := by
  obtain ⟨y, hy⟩ := h.c2
  refine ⟨by simpa [World.setCell] using h.lt, ?_, ?_, ⟨x, World.cell?_setCell_same _ _ _ hy⟩, fun k => (World.frozen?_setCell _ _ _ _).trans (h.f0 k), h.len, fun hn => ?_⟩
  · rw [World.cell?_setCell_other _ _ _ _ (by simp)]; exact h.c0
  · obtain ⟨i, hi, hc⟩ := h.c1; exact ⟨i, hi, by rw [World.cell?_setCell_other _ _ _ _ (by simp)]; exact hc⟩
  · obtain ⟨a, rfl, ha, hc⟩ := h.code hn
    exact ⟨a, rfl, ha, fun j hj => by
      obtain ⟨z, z0, z1, hz⟩ := hc j hj
      exact ⟨z, z0, z1, by rw [World.cell?_setCell_other _ _ _ _ (fun e => by have := congrArg Addr.block e; rw [add_block] at this; simp at this; omega)]; exact hz⟩⟩
theorem Cur.set1 {w : World} {B : Nat} {A : Option Addr} {n c : Nat} (h : Cur w B A n c) (x : Int) (k : Nat) (hx : k ≤ n) (ex : x = k) : Cur (w.setCell ⟨B, 1, none⟩ (.int .i64 x)) B A n c := by
  subst ex
  obtain ⟨y, hy1, hy⟩ := h.c1
  refine ⟨by simpa [World.setCell] using h.lt, ?_, ⟨k, hx, World.cell?_setCell_same _ _ _ hy⟩, ?_, fun k => (World.frozen?_setCell _ _ _ _).trans (h.f0 k), h.len, fun hn => ?_⟩
  · rw [World.cell?_setCell_other _ _ _ _ (by simp)]; exact h.c0
  · obtain ⟨i, hc⟩ := h.c2; exact ⟨i, by rw [World.cell?_setCell_other _ _ _ _ (by simp)]; exact hc⟩
  · obtain ⟨a, rfl, ha, hc⟩ := h.code hn
    exact ⟨a, rfl, ha, fun j hj => by
      obtain ⟨z, z0, z1, hz⟩ := hc j hj
      exact ⟨z, z0, z1, by rw [World.cell?_setCell_other _ _ _ _ (fun e => by have := congrArg Addr.block e; rw [add_block] at this; simp at this; omega)]; exact hz⟩⟩
theorem only_refl (w : World) (r : Option Nat) : w.grownBy w r := ⟨rfl, rfl, rfl, Nat.le_refl _, fun _ _ _ => rfl⟩
theorem only_drewN {a w : World} {r : Option Nat} (h : a.grownBy w r) (n : Nat) : a.grownBy (w.drewN n) r := ⟨h.os, h.tape, h.output, h.size, h.block⟩
theorem only_alloc {a w : World} {r : Option Nat} (h : a.grownBy w r) (o : Obj) : a.grownBy (w.alloc o) r :=
  ⟨h.os, h.tape, h.output, Nat.le_trans h.size (by simp), fun i hi hne => (Below.heap_alloc w o i (Nat.lt_of_lt_of_le hi h.size)).trans (h.block i hi hne)⟩
theorem only_set {a w : World} {g : Nat} (h : a.grownBy w (some g)) (k : Nat) (u : Value) : a.grownBy (w.setCell ⟨g, k, none⟩ u) (some g) :=
  ⟨h.os, h.tape, h.output, by simpa [World.setCell] using h.size, fun i hi hne => (Below.heap_setCell w _ u i (by rintro rfl; exact hne rfl)).trans (h.block i hi hne)⟩
theorem only_trans {a b c : World} {r : Option Nat} (h : a.grownBy b r) (k : b.grownBy c r) : a.grownBy c r :=
  ⟨k.os.trans h.os, k.tape.trans h.tape, k.output.trans h.output, Nat.le_trans h.size k.size, fun i hi hn => (k.block i (Nat.lt_of_lt_of_le hi h.size) hn).trans (h.block i hi hn)⟩
theorem and_mask (x : Int) (m : Nat) (hm : m < 9223372036854775808) : 0 ≤ bits .and .i64 x (m : Int) ∧ bits .and .i64 x (m : Int) ≤ m := by
  have e : bits .and .i64 x (m : Int) = (((BitVec.ofInt 64 x).toNat &&& m : Nat) : Int) := by
    show IntKind.i64.wrap ((BitVec.ofInt 64 x &&& BitVec.ofInt 64 (m : Int)).toNat : Int) = _
    have h2 : (BitVec.ofInt 64 (m : Int)).toNat = m := by rw [BitVec.ofInt_natCast, BitVec.toNat_ofNat]; exact Nat.mod_eq_of_lt (by omega)
    have h3 : (BitVec.ofInt 64 x).toNat &&& m ≤ m := Nat.and_le_right
    rw [BitVec.toNat_and, h2, IntKind.wrap_i64]
    omega
  have h3 : (BitVec.ofInt 64 x).toNat &&& m ≤ m := Nat.and_le_right
  rw [e]
  omega
theorem and255 (x : Int) : 0 ≤ bits .and .i64 x 255 ∧ bits .and .i64 x 255 ≤ 255 := and_mask x 255 (by omega)
/-- An integer with P is drawn: only the cursor's block turns. -/
def Drawn (P : Int → Prop) (B : Nat) (A : Option Addr) (n c : Nat) (w : World) (e : Ending) (w' : World) : Prop :=
  ∃ x : Int, P x ∧ e = .returned (.int .i64 x) ∧ w.grownBy w' (some B) ∧ Cur w' B A n c
def OnceB (B : Nat) (A : Option Addr) (n c : Nat) (w : World) (e : Ending) (w' : World) : Prop :=
  ∃ x : Bool, e = .returned (.bool x) ∧ w.grownBy w' (some B) ∧ Cur w' B A n c
/-- A row of integers in block G, each with P. -/
def IntRow (P : Int → Prop) (w : World) (G k : Nat) : Prop := G < w.heap.size ∧ ∀ j, j < k → ∃ z : Int, P z ∧ w.cell? ⟨G, j, none⟩ = some (.int .i64 z)
theorem introw_alloc (P : Int → Prop) (w : World) (zs : List Int) (t : TypeId) (h : ∀ z ∈ zs, P z) : IntRow P (w.alloc (.cells (zs.map (Value.int .i64)).toArray t)) w.heap.size zs.length := by
  refine ⟨by simp, fun j hj => ⟨zs[j], h _ (List.getElem_mem hj), ?_⟩⟩
  rw [World.cell?_alloc_new]
  simp [hj]
/-- The bytes of a law's argument. -/
structure Code8 (w : World) (A : Option Addr) (n : Nat) : Prop where
  len : n ≤ 9223372036854775807
  code : 0 < n → ∃ a, A = some a ∧ a.block < w.heap.size ∧ ∀ j, j < n → ∃ z : Int, 0 ≤ z ∧ z ≤ 255 ∧ w.cell? (a.add j) = some (.int .u8 z)
theorem Code8.below {w w' : World} {A : Option Addr} {n : Nat} (h : Code8 w A n) (hb : Below w.heap.size w w') : Code8 w' A n := by
  refine ⟨h.len, fun hn => ?_⟩
  obtain ⟨a, rfl, ha, hc⟩ := h.code hn
  exact ⟨a, rfl, Nat.lt_of_lt_of_le ha hb.size, fun j hj => by
    obtain ⟨z, z0, z1, hz⟩ := hc j hj
    exact ⟨z, z0, z1, (hb.cell (by rw [add_block]; exact ha)).trans hz⟩⟩
def NewCur (A : Option Addr) (n c : Nat) (w : World) (e : Ending) (w' : World) : Prop :=
  e = .returned (.pointer (some ⟨w.heap.size, 0, none⟩)) ∧ Below w.heap.size w w' ∧ Cur w' w.heap.size A n c
theorem newcur_mk {A : Option Addr} {n c : Nat} {w : World} (h : Code8 w A n) (x : Int) (t : TypeId) (w' : World)
    (e : w' = w.alloc (.cells #[.slice A n c, .int .i64 0, .int .i64 x] t)) : Below w.heap.size w w' ∧ Cur w' w.heap.size A n c := by
  subst e
  refine ⟨(Below.refl _ _).alloc (Nat.le_refl _) _, by simp, by rw [World.cell?_alloc_new]; rfl, ⟨0, Nat.zero_le _, by rw [World.cell?_alloc_new]; rfl⟩, ⟨x, by rw [World.cell?_alloc_new]; rfl⟩, fun k => World.frozen?_alloc_new _ _ _ _, h.len, fun hn => ?_⟩
  obtain ⟨a, rfl, ha, hc⟩ := h.code hn
  exact ⟨a, rfl, ha, fun j hj => by
    obtain ⟨z, z0, z1, hz⟩ := hc j hj
    exact ⟨z, z0, z1, by rw [World.cell?_alloc_lt _ _ _ (by rw [add_block]; exact ha)]; exact hz⟩⟩
theorem lt_of_cell {w : World} {a : Addr} {v : Value} (h : w.cell? a = some v) : a.block < w.heap.size := by
  rcases Nat.lt_or_ge a.block w.heap.size with h' | h'
  · exact h'
  · simp [World.cell?, Array.getElem?_eq_none h'] at h
theorem code8_open {H : Type} {enc : TypeId × Value → H} {P : Program} {W : World} {t e : TypeId} {v : Value} {d : DataW H} {p : List MemPlace} {base : Nat} (ht : P.underlying t = some (.slice e)) (he : P.underlying e = some (.int .u8)) (hc : P.cellsOf e = 1)
    (hv : Value.okWide P W .any base t v) (h : DataW.Trod enc P W 0 (fun _ => true) true t v d p) : ∃ A n c, v = .slice A n c ∧ Code8 W A n := by
  obtain ⟨A, n, c, rfl⟩ := okWide_slice ht hv
  obtain ⟨fuel, hf⟩ := h
  refine ⟨A, n, c, rfl, ?_⟩
  rcases open_ints ht he hc hf with ⟨e1, _⟩ | ⟨a, len, cap, zs, e1, _, h1, h2, hl, _, hcell, hwf⟩
  · simp [Value.cells] at e1
    obtain ⟨rfl, rfl, rfl⟩ := e1
    exact ⟨by omega, fun hn => absurd hn (by omega)⟩
  · simp [Value.cells] at e1
    obtain ⟨rfl, rfl, rfl⟩ := e1
    simp only [if_true] at hl
    unfold maxLen at h2
    refine ⟨by omega, fun hn => ⟨a, rfl, ?_, fun j hj => ?_⟩⟩
    · have := lt_of_cell (hcell 0 (by omega))
      rwa [add_block] at this
    · have hw := hwf (zs.getD j 0) (by
        have : zs.getD j 0 = zs[j]'(by omega) := by simp [List.getD, List.getElem?_eq_getElem (show j < zs.length by omega)]
        rw [this]; exact List.getElem_mem _)
      simp only [Lit.wf, Bool.and_eq_true, decide_eq_true_eq] at hw
      have e0 : IntKind.u8.min = 0 := by decide
      have e255 : IntKind.u8.max = 255 := by decide
      exact ⟨_, by omega, by omega, hcell j (by omega)⟩
theorem drawn_below {w w1 w2 : World} (hb : Below w.heap.size w w1) (hg : w1.grownBy w2 (some w.heap.size)) : Below w.heap.size w w2 :=
  hb.grown hg hb.size (fun k e => by cases e; exact Nat.le_refl _)
end Go.Proofs.Ythkigilegnjglaa

/- Contracts of the functions that draw numbers from the code of a law: each returns a number of 64 bits and writes to nothing but the cursor and new memory. Condition: as for the cursor's own functions. -/
namespace Go.Proofs.Ythkigilegnjglaa
open Go.ChangeShapes Go.WideShapes Go.ChangeAt Go.RowKit
def In64 (x : Int) : Prop := -9223372036854775808 ≤ x ∧ x ≤ 9223372036854775807
def InMax (x : Int) : Prop := 0 ≤ x ∧ x ≤ 1000000000000
theorem only_ofalloc {w w' : World} {o : Obj} {r : Option Nat} (h : (w.alloc o).grownBy w' r) : w.grownBy w' r := only_trans (only_alloc (only_refl w r) o) h
end Go.Proofs.Ythkigilegnjglaa
