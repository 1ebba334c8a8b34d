/- Words for slices of teams (structs of 5 integers and a slice of integers): what is only read (RdT), what the call owns (OwnT); stores into a field. No conditions. -/
import Derived.Test.YthkigilegnjglaaMg2
import Derived.Test.YthkigilegnjglaaMg3
import Derived.Maps.Own
import Derived.Maps.Views
import Derived.Maps.OwnSet
namespace Go.Proofs.Ythkigilegnjglaa
open Go.ChangeShapes Go.WideShapes Go.ChangeAt Go.RowKit
structure Tm where
  id : Int
  club : Int
  wins : Int
  pts : Int
  firsts : Int
  met : List Int
theorem nodup_set2 : ∀ {es : List (List Nat × List Value)} {i : Nat} {p q : List Nat × List Value}, (es.flatMap (·.1)).Nodup → p.1.Nodup → es[i]? = some q → (∀ b ∈ p.1, b ∈ q.1 ∨ b ∉ es.flatMap (·.1)) → ((es.set i p).flatMap (·.1)).Nodup
  | [], i, p, q, _, _, h, _ => by simp at h
  | r :: es, 0, p, q, h, hp, hq, hd => by
    rw [List.set_cons_zero, List.flatMap_cons]
    rw [List.flatMap_cons] at h
    have e : r = q := by simpa using hq
    subst e
    refine List.nodup_append.2 ⟨hp, (List.nodup_append.1 h).2.1, fun a ha b hb hab => ?_⟩
    subst hab
    rcases hd a ha with h1 | h1
    · exact (List.nodup_append.1 h).2.2 a h1 a hb rfl
    · exact h1 (by rw [List.flatMap_cons]; exact List.mem_append_right _ hb)
  | r :: es, i + 1, p, q, h, hp, hq, hd => by
    rw [List.set_cons_succ, List.flatMap_cons]
    rw [List.flatMap_cons] at h
    obtain ⟨h1, h2, h3⟩ := List.nodup_append.1 h
    have hqm : q ∈ es := List.mem_of_getElem? (show es[i]? = some q by simpa using hq)
    refine List.nodup_append.2 ⟨h1, nodup_set2 h2 hp (show es[i]? = some q by simpa using hq) (fun b hb => (hd b hb).imp id fun hn hin => hn (by rw [List.flatMap_cons]; exact List.mem_append_right _ hin)), fun a ha b hb hab => ?_⟩
    subst hab
    rcases mem_set_flat hb with hb | hb
    · exact h3 a ha a hb rfl
    · rcases hd a hb with h5 | h5
      · exact h3 a ha a (List.mem_flatMap.2 ⟨q, hqm, h5⟩) rfl
      · exact h5 (by rw [List.flatMap_cons]; exact List.mem_append_left _ ha)
theorem flatK_set {es : List (List Nat × List Value)} {size : Nat} (h : ∀ p ∈ es, p.2.length = size) {i j : Nat} {q : List Nat × List Value} (hq : es[i]? = some q) (hj : j < size) (F' : List Nat) (u : Value) : (es.set i (F', q.2.set j u)).flatMap (·.2) = (es.flatMap (·.2)).set (i * size + j) u := by
  induction es generalizing i with
  | nil => simp at hq
  | cons r es ih =>
    have h1 := h r (by simp)
    cases i with
    | zero =>
      have e : r = q := by simpa using hq
      subst e
      simp only [List.set_cons_zero, List.flatMap_cons, Nat.zero_mul, Nat.zero_add]
      rw [List.set_append, if_pos (by omega)]
    | succ i =>
      have := ih (fun q hq => h q (List.mem_cons_of_mem _ hq)) (show es[i]? = some q by simpa using hq)
      simp only [List.set_cons_succ, List.flatMap_cons]
      rw [this, List.set_append, if_neg (by rw [h1, Nat.succ_mul]; omega)]
      congr 2
      rw [h1, Nat.succ_mul]; omega
/-- One cell of one element is stored anew; what the element owns may become something else. -/
theorem Owns.put1 {X : Type} {R : World → List Nat → List Value → X → Prop} {e : TypeId} {size lo hi hi' g cap i j : Nat} {w : World} {l : List X} {u : Value} {x' : X} (hR : Frames R) (h : Owns (RowsR e size R) w lo hi [.slice (some ⟨g, 0, none⟩) l.length cap] l) (hi_ : i < l.length) (hj : j < size)
    (hx : ∀ F us, us.length = size → R w F us l[i] → F.Nodup → (∀ b ∈ F, b < hi) → ∃ Fn, R w Fn (us.set j u) x' ∧ Fn.Nodup ∧ ∀ b ∈ Fn, b ∈ F ∨ (hi ≤ b ∧ b < hi')) (hh : hi ≤ hi') (hlo : lo ≤ hi) :
    Owns (RowsR e size R) (w.setCell ⟨g, i * size + j, none⟩ u) lo hi' [.slice (some ⟨g, 0, none⟩) l.length cap] (l.set i x') := by
  obtain ⟨F, ⟨v, es, h1, h2, h3, h4, h5, h6, h7⟩, hFn, hF⟩ := h
  have hvv : v = .slice (some ⟨g, 0, none⟩) l.length cap := by simpa using h1.symm
  subst hvv
  have hown : (Value.slice (some ⟨g, 0, none⟩) l.length cap).ownBlock.toList = [g] := rfl
  rw [hown] at h4
  have hgF : g ∈ F := by rw [h4]; simp
  rw [h4] at h5
  obtain ⟨n1, n2, n3⟩ := List.nodup_append.1 h5
  have hie : i < es.length := by omega
  have hq : es[i]? = some es[i] := List.getElem?_eq_getElem hie
  have hqx := h7 i _ _ hq (List.getElem?_eq_getElem hi_)
  have hsub : ∀ b ∈ es[i].1, b ∈ es.flatMap (·.1) := fun b hb => mem_flat1 hq hb
  have hFm : ∀ b ∈ es.flatMap (·.1), b ∈ F := fun b hb => by rw [h4]; exact List.mem_append_right _ hb
  have hqn : es[i].1.Nodup := by
    have hall : ∀ (es : List (List Nat × List Value)) (i : Nat) (hi : i < es.length), (es.flatMap (·.1)).Nodup → es[i].1.Nodup := by
      intro es
      induction es with
      | nil => intro i hi; exact absurd hi (Nat.not_lt_zero _)
      | cons r es ih =>
        intro i hi hn
        rw [List.flatMap_cons] at hn
        obtain ⟨m1, m2, _⟩ := List.nodup_append.1 hn
        cases i with
        | zero => exact m1
        | succ i => exact ih i (by simpa using hi) m2
    exact hall es i hie n2
  obtain ⟨Fn, k1, k2, k3⟩ := hx es[i].1 es[i].2 (h6 _ (List.getElem_mem _)) hqx hqn (fun b hb => (hF b (hFm b (hsub b hb))).2)
  have hnew : ∀ b ∈ Fn, b ∈ es[i].1 ∨ b ∉ es.flatMap (·.1) := fun b hb => (k3 b hb).imp id fun hr hin => by have := (hF b (hFm b hin)).2; omega
  have hgn : ∀ b ∈ Fn, b ≠ g := fun b hb hbg => by
    subst hbg
    rcases k3 b hb with hr | hr
    · exact n3 b (by simp) b (hsub b hr) rfl
    · have := (hF b hgF).2; omega
  have hnd : ([g] ++ (es.set i (Fn, es[i].2.set j u)).flatMap (·.1)).Nodup := by
    refine List.nodup_append.2 ⟨n1, nodup_set2 n2 k2 hq hnew, fun a ha b hb hab => ?_⟩
    subst hab
    have hag : a = g := by simpa using ha
    subst hag
    rcases mem_set_flat hb with hb | hb
    · exact n3 a (by simp) a hb rfl
    · exact hgn a hb rfl
  have hfar : ∀ b, b ≠ g → (w.setCell ⟨g, i * size + j, none⟩ u).heap[b]? = w.heap[b]? := fun b hb => heap_setCell_other w ⟨g, i * size + j, none⟩ b u hb
  refine ⟨[g] ++ (es.set i (Fn, es[i].2.set j u)).flatMap (·.1), ⟨_, es.set i (Fn, es[i].2.set j u), rfl, by simp [h2], ?_, rfl, hnd, fun p hp => ?_, fun k p y hkp hky => ?_⟩, hnd, fun b hb => ?_⟩
  · rw [flatK_set h6 hq hj, List.length_set]
    exact (h3.stored (i * size + j) u).1
  · rcases List.mem_or_eq_of_mem_set hp with hp | rfl
    · exact h6 p hp
    · rw [List.length_set]; exact h6 _ (List.getElem_mem _)
  · rcases Nat.decEq k i with hne | rfl
    · rw [List.getElem?_set_ne (by omega)] at hkp hky
      refine hR.keep (h7 k p y hkp hky) (fun b hb => hfar b (fun hbg => ?_))
      subst hbg
      exact n3 b (by simp) b (mem_flat1 hkp hb) rfl
    · rw [List.getElem?_set_self (by omega)] at hkp hky
      injection hkp with hkp
      injection hky with hky
      subst hkp
      subst hky
      exact hR.keep k1 (fun b hb => hfar b (hgn b hb))
  · rw [List.mem_append] at hb
    rcases hb with hb | hb
    · have : b = g := by simpa using hb
      subst this
      have := hF b hgF; omega
    · rcases mem_set_flat hb with hb | hb
      · have := hF b (hFm b hb); omega
      · rcases k3 b hb with hr | hr
        · have := hF b (hFm b (hsub b hr)); omega
        · omega
theorem reps_flat2 (n : Nat) (us : List Value) : (List.replicate n (([] : List Nat), us)).flatMap (·.2) = (List.replicate n us).flatten := by
  induction n with
  | zero => rfl
  | succ n ih => simp only [List.replicate_succ, List.flatMap_cons, List.flatten_cons, ih]
theorem reps_flat1 (n : Nat) (us : List Value) : (List.replicate n (([] : List Nat), us)).flatMap (·.1) = [] := by
  induction n with
  | zero => rfl
  | succ n ih => simp only [List.replicate_succ, List.flatMap_cons, ih]; rfl
theorem RowsR.madeK {X : Type} {R : World → List Nat → List Value → X → Prop} {e : TypeId} {size : Nat} {w : World} {base g n : Nat} {us : List Value} {x0 : X} (hu : us.length = size) (h : w.ownsRow base e size (.slice (some ⟨g, 0, none⟩) n n) n (List.replicate n us).flatten) (hz : R w [] us x0) :
    RowsR e size R w [g] [.slice (some ⟨g, 0, none⟩) n n] (List.replicate n x0) := by
  have e1 := reps_flat2 n us
  refine ⟨_, List.replicate n ([], us), rfl, by simp, ?_, ?_, by simp, ?_, ?_⟩
  · rw [e1, List.length_replicate]
    refine ⟨h.1, ?_⟩
    rcases h.2 with hn | ⟨g', cap, cur, h1, hb, rest⟩
    · exact .inl hn
    · exact .inr ⟨g', cap, cur, h1, Nat.zero_le _, rest⟩
  · rw [reps_flat1]; rfl
  · intro p hp
    rw [(List.mem_replicate.1 hp).2]; exact hu
  · intro i p x hp hx
    rw [List.getElem?_replicate] at hp hx
    split at hp
    · injection hp with hp
      rename_i hlt
      rw [if_pos hlt] at hx
      injection hx with hx
      rw [← hp, ← hx]; exact hz
    · cases hp
theorem madeCells_flat (us : List Value) (hu : 0 < us.length) (n : Nat) : (madeCells us.toArray (n * us.length)).toList = (List.replicate n us).flatten := by
  apply List.ext_getElem?
  intro j
  by_cases hj : j < n * us.length
  · have hd : j / us.length < n := (Nat.div_lt_iff_lt_mul hu).2 hj
    have hm : j % us.length < us.length := Nat.mod_lt _ hu
    have e2 : ∀ (n j : Nat), j < n * us.length → (List.replicate n us).flatten[j]? = us[j % us.length]? := by
      intro n
      induction n with
      | zero => intro j h; omega
      | succ n ih =>
        intro j h
        rw [List.replicate_succ, List.flatten_cons]
        by_cases hl : j < us.length
        · rw [List.getElem?_append_left hl, Nat.mod_eq_of_lt hl]
        · rw [List.getElem?_append_right (by omega), ih (j - us.length) (by rw [Nat.succ_mul] at h; omega), ← Nat.mod_eq_sub_mod (by omega)]
    rw [e2 n j hj]
    unfold madeCells
    simp [hj, List.getElem?_eq_getElem hm]
  · rw [List.getElem?_eq_none (by simp [madeCells]; omega), List.getElem?_eq_none (by simp; omega)]
def I6 (a : Int) : Prop := IntKind.i64.min ≤ a ∧ a ≤ IntKind.i64.max
/-- All integers are of 64 bits. -/
def Tm.ok (x : Tm) : Prop := I6 x.id ∧ I6 x.club ∧ I6 x.wins ∧ I6 x.pts ∧ I6 x.firsts ∧ ∀ z ∈ x.met, I6 z
def TeamR (w : World) (F : List Nat) (cs : List Value) (x : Tm) : Prop := ∃ v : Value, cs = [.int .i64 x.id, .int .i64 x.club, .int .i64 x.wins, .int .i64 x.pts, .int .i64 x.firsts, v] ∧ IntsR .i64 3 w F [v] x.met
theorem TeamR.frames : Frames TeamR where
  keep := by
    rintro w w' F cs x ⟨v, h1, h2⟩ hk
    exact ⟨v, h1, (IntsR.frames _ _).keep h2 hk⟩
  lt := by
    rintro w F cs x ⟨v, h1, h2⟩ b hb
    exact (IntsR.frames _ _).lt h2 b hb
abbrev TSR : World → List Nat → List Value → List Tm → Prop := RowsR 82 6 TeamR
theorem TSR_frames : Frames TSR := RowsR.frames TeamR.frames
def OwnT (w : World) (lo hi : Nat) (v : Value) (X : List Tm) : Prop := Owns TSR w lo hi [v] X
/-- A team that lies at p and is only read. -/
def AtT (w : World) (B : Nat) (p : Addr) (x : Tm) : Prop := p.block < B ∧ ∃ (Aj : Option Addr) (cj : Nat), w.cell? p = some (.int .i64 x.id) ∧ w.cell? ⟨p.block, p.off + 1, none⟩ = some (.int .i64 x.club) ∧ w.cell? ⟨p.block, p.off + 2, none⟩ = some (.int .i64 x.wins) ∧ w.cell? ⟨p.block, p.off + 3, none⟩ = some (.int .i64 x.pts) ∧ w.cell? ⟨p.block, p.off + 4, none⟩ = some (.int .i64 x.firsts) ∧ w.cell? ⟨p.block, p.off + 5, none⟩ = some (.slice Aj x.met.length cj) ∧ x.met.length ≤ cj ∧ cj ≤ maxLen ∧ Rd w B Aj (ivs x.met)
def RdT (w : World) (B : Nat) (A : Option Addr) (X : List Tm) : Prop :=
  ∀ (k : Nat) (x : Tm), X[k]? = some x → ∃ ad : Addr, A = some ad ∧ AtT w B (ad.add (k * 6)) x
def RdTm (w : World) (B : Nat) (cs : List Value) (x : Tm) : Prop := ∃ (Aj : Option Addr) (cj : Nat), cs = [.int .i64 x.id, .int .i64 x.club, .int .i64 x.wins, .int .i64 x.pts, .int .i64 x.firsts, .slice Aj x.met.length cj] ∧ x.met.length ≤ cj ∧ cj ≤ maxLen ∧ Rd w B Aj (ivs x.met)
theorem TeamR.rd {w : World} {F : List Nat} {cs : List Value} {x : Tm} {B : Nat} (h : TeamR w F cs x) (hB : ∀ b ∈ F, b < B) : RdTm w B cs x := by
  obtain ⟨v, rfl, h2⟩ := h
  obtain ⟨A, c, e, h4, h5, h6⟩ := h2.rd hB
  have : v = .slice A x.met.length c := by simpa using e
  subst this
  exact ⟨A, c, rfl, h4, h5, h6⟩
section
variable {w w' : World} {B B' lo hi lo' hi' : Nat} {A : Option Addr} {X : List Tm} {v : Value} {p : Addr} {x : Tm}
theorem AtT.keep (h : AtT w B p x) (hk : ∀ b, b < B → w'.heap[b]? = w.heap[b]?) : AtT w' B p x := by
  obtain ⟨a0, Aj, cj, c0, c1, c2, c3, c4, c5, a1, a2, a3⟩ := h
  exact ⟨a0, Aj, cj, (show w'.cell? p = w.cell? _ from World.cell?_of_block (hk _ a0)).trans c0, (show w'.cell? ⟨p.block, p.off + 1, none⟩ = w.cell? _ from World.cell?_of_block (hk _ a0)).trans c1, (show w'.cell? ⟨p.block, p.off + 2, none⟩ = w.cell? _ from World.cell?_of_block (hk _ a0)).trans c2, (show w'.cell? ⟨p.block, p.off + 3, none⟩ = w.cell? _ from World.cell?_of_block (hk _ a0)).trans c3, (show w'.cell? ⟨p.block, p.off + 4, none⟩ = w.cell? _ from World.cell?_of_block (hk _ a0)).trans c4, (show w'.cell? ⟨p.block, p.off + 5, none⟩ = w.cell? _ from World.cell?_of_block (hk _ a0)).trans c5, a1, a2, a3.keep hk⟩
theorem AtT.below (h : AtT w B p x) (hb : Below B w w') : AtT w' B p x := h.keep hb.block
theorem AtT.more (h : AtT w B p x) (hB : B ≤ B') : AtT w B' p x := by
  obtain ⟨a0, Aj, cj, c0, c1, c2, c3, c4, c5, a1, a2, a3⟩ := h
  exact ⟨by omega, Aj, cj, c0, c1, c2, c3, c4, c5, a1, a2, a3.more hB⟩
theorem RdT.keep (h : RdT w B A X) (hk : ∀ b, b < B → w'.heap[b]? = w.heap[b]?) : RdT w' B A X := fun k x hx => by
  obtain ⟨ad, a1, a2⟩ := h k x hx
  exact ⟨ad, a1, a2.keep hk⟩
theorem RdT.below (h : RdT w B A X) (hb : Below B w w') : RdT w' B A X := h.keep hb.block
theorem RdT.more (h : RdT w B A X) (hB : B ≤ B') : RdT w B' A X := fun k x hx => by
  obtain ⟨ad, a1, a2⟩ := h k x hx
  exact ⟨ad, a1, a2.more hB⟩
theorem RdT.drewN (h : RdT w B A X) (n : Nat) : RdT (w.drewN n) B A X := h
theorem RdT.nil : RdT w B A [] := fun k x hx => by simp at hx
theorem RdT.at_ (h : RdT w B A X) {k : Nat} (hk : k < X.length) : ∃ ad p : Addr, A = some ad ∧ ad.add (k * 6) = p ∧ AtT w B p X[k] := by
  obtain ⟨ad, a1, a2⟩ := h k _ (List.getElem?_eq_getElem hk)
  exact ⟨ad, _, a1, rfl, a2⟩
theorem RdT.of_rows {c : Nat} (h : RdRows 6 RdTm w B [.slice A X.length c] X) : RdT w B A X := fun k x hx => by
  obtain ⟨A', c', h1, h2, h3, h4⟩ := h
  obtain ⟨ad, us, a1, a2, a3, a4, ⟨Aj, cj, b1, b2, b3, b4⟩⟩ := h4 k x hx
  have hA : A = A' := by have := List.head_eq_of_cons_eq h1; injection this
  subst hA
  subst b1
  refine ⟨ad, a1, by rw [add_blk]; exact a2, Aj, cj, ?_, ?_, ?_, ?_, ?_, ?_, b2, b3, b4⟩
  · have := a4 0 _ rfl; simpa using this
  · rw [← add_part]; exact a4 1 _ rfl
  · rw [← add_part]; exact a4 2 _ rfl
  · rw [← add_part]; exact a4 3 _ rfl
  · rw [← add_part]; exact a4 4 _ rfl
  · rw [← add_part]; exact a4 5 _ rfl
theorem OwnT.rd (h : OwnT w lo hi v X) {n : Nat} (hn : X.length = n) : ∃ A c, v = .slice A n c ∧ RdT w hi A X ∧ n ≤ c ∧ c ≤ maxLen := by
  subst hn
  have h2 : RdRows 6 RdTm w hi [v] X := Owns.rd (fun hF hB => RowsR.rd (fun hI hB => TeamR.rd hI hB) hF (by omega) hB) h (Nat.le_refl _)
  obtain ⟨A, c, h1, h3, h4, h5⟩ := h2
  have : v = .slice A X.length c := by simpa using h1
  subst this
  exact ⟨A, c, rfl, RdT.of_rows ⟨A, c, rfl, h3, h4, h5⟩, h3, h4⟩
theorem OwnT.rd' {n c : Nat} (h : OwnT w lo hi (.slice A n c) X) : RdT w hi A X := by
  obtain ⟨A', c', h1, h2, _, _⟩ := h.rd (n := X.length) rfl
  injection h1 with e1 e2 e3
  subst e1
  exact h2
theorem OwnT.new (h : OwnT w lo hi v X) (hb : Below w.heap.size w w') : OwnT w' lo hi v X := Owns.new h TSR_frames hb
theorem OwnT.below (h : OwnT w lo hi v X) (hb : Below B w w') (hB : hi ≤ B) : OwnT w' lo hi v X := Owns.below h TSR_frames hb hB
theorem OwnT.out (h : OwnT w lo hi v X) (o : Out lo' hi' w w') (hd : hi ≤ lo' ∨ hi' ≤ lo) : OwnT w' lo hi v X := Owns.out h TSR_frames o hd
theorem OwnT.wide (h : OwnT w lo hi v X) (h1 : lo' ≤ lo) (h2 : hi ≤ hi') : OwnT w lo' hi' v X := Owns.wide h h1 h2
theorem OwnT.drewN (h : OwnT w lo hi v X) (n : Nat) : OwnT (w.drewN n) lo hi v X := h
theorem OwnT.nil : OwnT w lo hi (.slice none 0 0) [] := ⟨[], RowsR.nil_, by simp, by simp⟩
theorem OwnT.base (h : OwnT w lo hi v X) {n : Nat} (hn : X.length = n) (hp : 0 < n) : ∃ g c, v = .slice (some ⟨g, 0, none⟩) n c ∧ lo ≤ g ∧ g < hi ∧ g < w.heap.size ∧ n ≤ c ∧ c ≤ maxLen ∧ ∀ i, w.frozen? ⟨g, i, none⟩ = false := by
  subst hn
  obtain ⟨F, ⟨v', es, h1, h2, h3, h4, h5, h6, h7⟩, hFn, hF⟩ := h
  have hvv : v = v' := by simpa using h1
  subst hvv
  obtain ⟨g, cap, hv, hc1, hc2⟩ := h3.form (by omega)
  have hgb : v.ownBlock = some g := by rw [hv]; rfl
  have hgF : g ∈ F := by rw [h4, hgb]; simp
  obtain ⟨A2, c2, hv2, k1, k2⟩ := ownsRow_form h3
  have e2 : cap = c2 := by rw [hv] at hv2; injection hv2
  have h3' := h3
  rw [hv] at h3'
  exact ⟨g, cap, hv, (hF g hgF).1, (hF g hgF).2, (h3.lt g hgb).2, by omega, by omega, fun i => h3'.frozenAt i⟩
theorem OwnT.lt (h : OwnT w lo hi v X) : OwnT w lo w.heap.size v X := by
  obtain ⟨F, h1, h2, h3⟩ := h
  exact ⟨F, h1, h2, fun b hb => ⟨(h3 b hb).1, TSR_frames.lt h1 b hb⟩⟩
theorem OwnT.put0 {g c i n : Nat} (h : OwnT w lo hi (.slice (some ⟨g, 0, none⟩) n c) X) (hn : X.length = n) (hk : i < X.length) (hlo : lo ≤ hi) (a : Int) : OwnT (w.setCell ⟨g, i * 6, none⟩ (.int .i64 a)) lo hi (.slice (some ⟨g, 0, none⟩) n c) (X.set i {X[i] with id := a}) := by
  subst hn
  exact Owns.put1 (j := 0) TeamR.frames h hk (by omega) (fun F us _ hx hn _ => by
    obtain ⟨v, rfl, h2⟩ := hx
    exact ⟨F, ⟨v, rfl, h2⟩, hn, fun b hb => .inl hb⟩) (Nat.le_refl _) hlo
theorem OwnT.put1 {g c i n : Nat} (h : OwnT w lo hi (.slice (some ⟨g, 0, none⟩) n c) X) (hn : X.length = n) (hk : i < X.length) (hlo : lo ≤ hi) (a : Int) : OwnT (w.setCell ⟨g, i * 6 + 1, none⟩ (.int .i64 a)) lo hi (.slice (some ⟨g, 0, none⟩) n c) (X.set i {X[i] with club := a}) := by
  subst hn
  exact Owns.put1 (j := 1) TeamR.frames h hk (by omega) (fun F us _ hx hn _ => by
    obtain ⟨v, rfl, h2⟩ := hx
    exact ⟨F, ⟨v, rfl, h2⟩, hn, fun b hb => .inl hb⟩) (Nat.le_refl _) hlo
theorem OwnT.put2 {g c i n : Nat} (h : OwnT w lo hi (.slice (some ⟨g, 0, none⟩) n c) X) (hn : X.length = n) (hk : i < X.length) (hlo : lo ≤ hi) (a : Int) : OwnT (w.setCell ⟨g, i * 6 + 2, none⟩ (.int .i64 a)) lo hi (.slice (some ⟨g, 0, none⟩) n c) (X.set i {X[i] with wins := a}) := by
  subst hn
  exact Owns.put1 (j := 2) TeamR.frames h hk (by omega) (fun F us _ hx hn _ => by
    obtain ⟨v, rfl, h2⟩ := hx
    exact ⟨F, ⟨v, rfl, h2⟩, hn, fun b hb => .inl hb⟩) (Nat.le_refl _) hlo
theorem OwnT.put3 {g c i n : Nat} (h : OwnT w lo hi (.slice (some ⟨g, 0, none⟩) n c) X) (hn : X.length = n) (hk : i < X.length) (hlo : lo ≤ hi) (a : Int) : OwnT (w.setCell ⟨g, i * 6 + 3, none⟩ (.int .i64 a)) lo hi (.slice (some ⟨g, 0, none⟩) n c) (X.set i {X[i] with pts := a}) := by
  subst hn
  exact Owns.put1 (j := 3) TeamR.frames h hk (by omega) (fun F us _ hx hn _ => by
    obtain ⟨v, rfl, h2⟩ := hx
    exact ⟨F, ⟨v, rfl, h2⟩, hn, fun b hb => .inl hb⟩) (Nat.le_refl _) hlo
theorem OwnT.put4 {g c i n : Nat} (h : OwnT w lo hi (.slice (some ⟨g, 0, none⟩) n c) X) (hn : X.length = n) (hk : i < X.length) (hlo : lo ≤ hi) (a : Int) : OwnT (w.setCell ⟨g, i * 6 + 4, none⟩ (.int .i64 a)) lo hi (.slice (some ⟨g, 0, none⟩) n c) (X.set i {X[i] with firsts := a}) := by
  subst hn
  exact Owns.put1 (j := 4) TeamR.frames h hk (by omega) (fun F us _ hx hn _ => by
    obtain ⟨v, rfl, h2⟩ := hx
    exact ⟨F, ⟨v, rfl, h2⟩, hn, fun b hb => .inl hb⟩) (Nat.le_refl _) hlo
/-- A new slice is stored into the last field. -/
theorem OwnT.putS {g c i n M M' : Nat} {u : Value} {ys : List Int} (h : OwnT w lo hi (.slice (some ⟨g, 0, none⟩) n c) X) (hn : X.length = n) (hk : i < X.length) (hr : Row w M M' 3 u (ivs ys)) (hM : hi ≤ M) (hM' : hi ≤ M') (hlo : lo ≤ hi) : OwnT (w.setCell ⟨g, i * 6 + 5, none⟩ u) lo M' (.slice (some ⟨g, 0, none⟩) n c) (X.set i {X[i] with met := ys}) := by
  subst hn
  obtain ⟨F', k1, k2, k3⟩ := Row.owns hr
  exact Owns.put1 TeamR.frames h hk (by omega) (fun F us _ hx hn _ => by
    obtain ⟨v, rfl, h2⟩ := hx
    exact ⟨F', ⟨u, rfl, k1⟩, k2, fun b hb => .inr ⟨by have := (k3 b hb).1; omega, (k3 b hb).2⟩⟩) hM' hlo
/-- All fields are stored anew, the slice a new one. -/
theorem OwnT.putAll {g c i n M M' : Nat} {u : Value} {y : Tm} (h : OwnT w lo hi (.slice (some ⟨g, 0, none⟩) n c) X) (hn : X.length = n) (hk : i < X.length) (hr : Row w M M' 3 u (ivs y.met)) (hg : g < hi) (hM : hi ≤ M) (hM' : hi ≤ M') (hlo : lo ≤ hi) :
    OwnT ((((((w.setCell ⟨g, i * 6, none⟩ (.int .i64 y.id)).setCell ⟨g, i * 6 + 1, none⟩ (.int .i64 y.club)).setCell ⟨g, i * 6 + 2, none⟩ (.int .i64 y.wins)).setCell ⟨g, i * 6 + 3, none⟩ (.int .i64 y.pts)).setCell ⟨g, i * 6 + 4, none⟩ (.int .i64 y.firsts)).setCell ⟨g, i * 6 + 5, none⟩ u) lo M' (.slice (some ⟨g, 0, none⟩) n c) (X.set i y) := by
  have q1 := h.put0 (i := i) (by simpa using hn) (by simpa using hk) hlo y.id
  have q2 := q1.put1 (i := i) (by simpa using hn) (by simpa using hk) hlo y.club
  have q3 := q2.put2 (i := i) (by simpa using hn) (by simpa using hk) hlo y.wins
  have q4 := q3.put3 (i := i) (by simpa using hn) (by simpa using hk) hlo y.pts
  have q5 := q4.put4 (i := i) (by simpa using hn) (by simpa using hk) hlo y.firsts
  have hr2 : Row ((((((w.setCell ⟨g, i * 6, none⟩ (.int .i64 y.id)).setCell ⟨g, i * 6 + 1, none⟩ (.int .i64 y.club)).setCell ⟨g, i * 6 + 2, none⟩ (.int .i64 y.wins)).setCell ⟨g, i * 6 + 3, none⟩ (.int .i64 y.pts)).setCell ⟨g, i * 6 + 4, none⟩ (.int .i64 y.firsts))) M M' 3 u (ivs y.met) := hr.keep fun b h1 _ _ => by
    repeat rw [Below.heap_setCell _ _ _ _ (by show b ≠ g; omega)]
  have q := q5.putS (by simpa using hn) (by simpa using hk) hr2 hM hM' hlo
  simpa using q
/-- All integers are stored anew. -/
theorem OwnT.putInts {g c i n : Nat} {y : Tm} (h : OwnT w lo hi (.slice (some ⟨g, 0, none⟩) n c) X) (hn : X.length = n) (hk : i < X.length) (hlo : lo ≤ hi) (hy : y.met = X[i].met) :
    OwnT (((((w.setCell ⟨g, i * 6, none⟩ (.int .i64 y.id)).setCell ⟨g, i * 6 + 1, none⟩ (.int .i64 y.club)).setCell ⟨g, i * 6 + 2, none⟩ (.int .i64 y.wins)).setCell ⟨g, i * 6 + 3, none⟩ (.int .i64 y.pts)).setCell ⟨g, i * 6 + 4, none⟩ (.int .i64 y.firsts)) lo hi (.slice (some ⟨g, 0, none⟩) n c) (X.set i y) := by
  have q1 := h.put0 (i := i) (by simpa using hn) (by simpa using hk) hlo y.id
  have q2 := q1.put1 (i := i) (by simpa using hn) (by simpa using hk) hlo y.club
  have q3 := q2.put2 (i := i) (by simpa using hn) (by simpa using hk) hlo y.wins
  have q4 := q3.put3 (i := i) (by simpa using hn) (by simpa using hk) hlo y.pts
  have q5 := q4.put4 (i := i) (by simpa using hn) (by simpa using hk) hlo y.firsts
  simpa [← hy] using q5
/-- The slice of one of them, and what becomes of all when it alone is turned in place. -/
theorem OwnT.turn (h : OwnT w lo hi v X) {k : Nat} (hk : k < X.length) : ∃ (g cap : Nat) (u : Value) (a b : Nat), v = .slice (some ⟨g, 0, none⟩) X.length cap ∧ w.cell? ⟨g, k * 6 + 5, none⟩ = some u ∧ lo ≤ g ∧ g < hi ∧ Row w a b 3 u (ivs X[k].met) ∧ (g < a ∨ b ≤ g) ∧
    ∀ (w' : World) (ys : List Int), Out a b w w' → Row w' a b 3 u (ivs ys) → OwnT w' lo hi v (X.set k {X[k] with met := ys}) ∧ Out lo hi w w' := by
  obtain ⟨F, h1, h2, h3⟩ := h
  have hlt := TSR_frames.lt h1
  obtain ⟨v', p, a1, a2, a3, a4, a5, a6⟩ := RowsR.elem h1 hk
  have hvv : v = v' := by simpa using a1
  subst hvv
  obtain ⟨u, hu, a3'⟩ := a3
  rw [hu] at a5
  obtain ⟨g, cap, b1, b2, b3, b4, b5⟩ := a5 5 u rfl
  obtain ⟨a, b, c1, c2, c3⟩ := a3'.row
  refine ⟨g, cap, u, a, b, b1, b4, (h3 g b2).1, (h3 g b2).2, c1, ?_, fun w' ys ho hr => ⟨⟨F, a6 w' _ TeamR.frames (fun y hy hne => ?_) ⟨u, hu, c3 w' ys hr⟩, h2, h3⟩, ?_⟩⟩
  · rcases Nat.lt_or_ge g a with h' | h'
    · exact .inl h'
    · rcases Nat.lt_or_ge g b with h'' | h''
      · exact absurd (c2 g h' h'') b3
      · exact .inr h''
  · refine ho.block y (hlt y hy) ?_
    rcases Nat.lt_or_ge y a with h' | h'
    · exact .inl h'
    · rcases Nat.lt_or_ge y b with h'' | h''
      · exact absurd (c2 y h' h'') hne
      · exact .inr h''
  · refine ⟨ho.os, ho.tape, ho.output, ho.size, fun y hy hne => ho.block y hy ?_⟩
    rcases Nat.lt_or_ge y a with h' | h'
    · exact .inl h'
    · rcases Nat.lt_or_ge y b with h'' | h''
      · have := h3 y (a4 y (c2 y h' h'')); omega
      · exact .inr h''
end
theorem Team_info : (Try.prog.info? 82).map (fun i => (i.zero, i.size, i.bytes)) = some (some (.agg #[.int .i64 0, .int .i64 0, .int .i64 0, .int .i64 0, .int .i64 0, .slice none 0 0]), 6, 64) := by kernel_rfl
end Go.Proofs.Ythkigilegnjglaa

/- Maps from integers to integers that a call made, told by a function (f: what a key has) and the list of its keys. Conditions: keys and values of 64 bits. -/
namespace Go.Proofs.Ythkigilegnjglaa
open Go.ChangeShapes Go.WideShapes Go.ChangeAt Go.RowKit
set_option maxRecDepth 100000
theorem im_law : Maps.Keyed Try.prog 3 := Maps.int_keyed Try.underlying3
theorem im_zero (w : World) : (zeroValue 3).run Try.prog w = .ok (.int .i64 0) w := by kernel_rfl
theorem i6_wf {a : Int} (h : I6 a) : (Lit.int .i64 a).wf = true := by
  unfold I6 at h
  simp only [Lit.wf, Bool.and_eq_true, decide_eq_true_eq]
  exact h
theorem i6_of {a : Int} (h : (Lit.int .i64 a).wf = true) : I6 a := by simpa [Lit.wf, I6] using h
theorem i6_key {a : Int} (h : I6 a) : keyOf Try.prog 3 (.int .i64 a) = some (.int .i64 a) := Maps.keyOf_int_mk Try.underlying3 (i6_wf h)
theorem i6_small {a : Int} (h1 : -9000000000000000000 ≤ a) (h2 : a ≤ 9000000000000000000) : I6 a := by
  unfold I6
  have e1 : IntKind.i64.min = -9223372036854775808 := rfl
  have e2 : IntKind.i64.max = 9223372036854775807 := rfl
  omega
/-- Block B is a map with at most n entries, the keys K; key a has f a. -/
def IM (f : Int → Option Int) (K : List Int) (B n : Nat) (w : World) : Prop := ∃ D : DataW Unit, w.ownsMap Try.prog 3 (plainElem (H := Unit) Try.prog 3) B n D ∧ Maps.Tidy D ∧ (∀ a, D.atKey (.int .i64 a) (.lit (.int .i64 0)) = .lit (.int .i64 ((f a).getD 0))) ∧ (∀ a, Maps.has D (.int .i64 a) = (f a).isSome) ∧ Maps.size D = K.length ∧ K.Nodup ∧ (∀ a, a ∈ K ↔ (f a).isSome = true)
def putF (f : Int → Option Int) (a v : Int) : Int → Option Int := fun b => if b = a then some v else f b
def delF (f : Int → Option Int) (a : Int) : Int → Option Int := fun b => if b = a then none else f b
def putK (f : Int → Option Int) (K : List Int) (a : Int) : List Int := if (f a).isSome then K else K ++ [a]
section
variable {f : Int → Option Int} {K : List Int} {B n : Nat} {w w' : World} {a v : Int} {t : TypeId}
theorem IM.lt (h : IM f K B n w) : B < w.heap.size := by
  obtain ⟨D, ho, _⟩ := h
  exact ho.lt
theorem IM.kept (h : IM f K B n w) (hb : w'.heap[B]? = w.heap[B]?) : IM f K B n w' := by
  obtain ⟨D, ⟨es, clock, h1, h2⟩, h3⟩ := h
  exact ⟨D, ⟨es, clock, hb.trans h1, h2⟩, h3⟩
theorem IM.new (h : IM f K B n w) (hb : Below w.heap.size w w') : IM f K B n w' := h.kept (hb.block B h.lt)
theorem IM.out {lo hi : Nat} (h : IM f K B n w) (o : Out lo hi w w') (hd : B < lo ∨ hi ≤ B) : IM f K B n w' := h.kept (o.block B h.lt hd)
theorem IM.more {n' : Nat} (h : IM f K B n w) (hn : n ≤ n') : IM f K B n' w := by
  obtain ⟨D, ho, h2⟩ := h
  exact ⟨D, ho.mono hn, h2⟩
theorem IM.made (w : World) : IM (fun _ => none) [] w.heap.size 0 (w.alloc (.map #[] 0)) := ⟨.map [], World.ownsMap_made w _ _ _, Maps.tidy_empty, fun _ => rfl, fun _ => rfl, rfl, List.nodup_nil, by simp⟩
theorem IM.size (h : IM f K B n w) (ht : Try.prog.underlying t = some (.map 3 3)) (ty : TypeId) : (Builtin.len_ #[t] ty #[.map (some B)]).run Try.prog w = .ok (.int .i64 (K.length : Nat)) w := by
  obtain ⟨D, ⟨es, clock, hb, _, _, hD⟩, _, _, _, h1, _⟩ := h
  have e : Maps.size D = es.size := by
    rw [hD, Maps.size_eq, length_sorted]
    simp
  rw [e] at h1
  rw [← h1]
  simp [Builtin.len_, run_underlying ht, MapKept.run_getObj_map hb, goInt]
theorem IM.get (h : IM f K B n w) (ht : Try.prog.underlying t = some (.map 3 3)) (ha : I6 a) : (Instr.lookup t (.map (some B)) (.int .i64 a) false).run Try.prog w = .ok (.int .i64 ((f a).getD 0)) w := by
  obtain ⟨D, ho, hm, hat, _⟩ := h
  obtain ⟨u, ps, hrun, hv⟩ := ho.lookup im_law ht (im_zero w) (plainElem_int Try.underlying3 (by decide)) (i6_key ha)
  rw [hat a] at hv
  rw [hrun]
  obtain ⟨x, rfl, hx, _⟩ := plainElem_int_inv Try.underlying3 hv
  simp at hx
  rw [hx.1]
theorem IM.put (h : IM f K B n w) (ht : Try.prog.underlying t = some (.map 3 3)) (hn : n < 1099511627776) (ha : I6 a) (hv : I6 v) :
    ∃ w', (Instr.mapUpdate t (.map (some B)) (.int .i64 a) (.int .i64 v)).run Try.prog w = .ok () w' ∧ IM (putF f a v) (putK f K a) B (n + 1) w' ∧ Out B (B + 1) w w' := by
  obtain ⟨D, ho, htd, hat, hhas, hsz, hnd, hk⟩ := h
  have hm := htd.isMap
  have hkl : WideAt.IsKeyLit (.int .i64 a) := trivial
  obtain ⟨w', hrun, ho', hg⟩ := ho.update im_law ht (by unfold maxLen; omega) (i6_key ha) (plainElem_int Try.underlying3 (i6_wf hv))
  refine ⟨w', hrun, ⟨_, ho', htd.put hkl _, fun b => ?_, fun b => ?_, ?_, ?_, fun b => ?_⟩, ⟨hg.os, hg.tape, hg.output, hg.size, fun k hk hd => hg.block k hk (by simp; omega)⟩⟩
  · unfold putF
    by_cases e : b = a
    · subst e
      rw [Maps.atKey_put_same hm (show WideAt.IsKeyLit (.int .i64 b) from trivial)]
      simp
    · rw [Maps.atKey_put_other (by simpa using e), hat b, if_neg e]
  · unfold putF
    by_cases e : b = a
    · subst e
      rw [Maps.has_put_same hm hkl]
      simp
    · rw [Maps.has_put_other (by simpa using e), hhas b, if_neg e]
  · rw [Maps.size_put htd, hhas a]
    unfold putK
    split <;> simp_all
  · unfold putK
    split
    · exact hnd
    · rename_i hc
      exact List.nodup_append.2 ⟨hnd, by simp, fun x hx y hy e => by
        have : y = a := by simpa using hy
        subst this
        subst e
        exact hc ((hk x).1 hx)⟩
  · unfold putK putF
    by_cases e : b = a
    · subst e
      simp only [if_true, Option.isSome_some, iff_true]
      split
      · rename_i hc
        exact (hk b).2 hc
      · simp
    · rw [if_neg e]
      split
      · exact hk b
      · simp only [List.mem_append, List.mem_singleton, e, or_false]
        exact hk b
theorem IM.ok (h : IM f K B n w) (ht : Try.prog.underlying t = some (.map 3 3)) (ha : I6 a) : (Instr.lookup t (.map (some B)) (.int .i64 a) true).run Try.prog w = .ok (.tuple #[.int .i64 ((f a).getD 0), .bool (f a).isSome]) w := by
  obtain ⟨D, ho, hm, hat, hhas, _⟩ := h
  obtain ⟨u, ps, hrun, hv⟩ := ho.look_ok im_law ht (im_zero w) (plainElem_int Try.underlying3 (by decide)) (i6_key ha)
  rw [hat a] at hv
  rw [hrun, hhas a]
  obtain ⟨x, rfl, hx, _⟩ := plainElem_int_inv Try.underlying3 hv
  simp at hx
  rw [hx.1]
def delK (K : List Int) (a : Int) : List Int := K.filter fun b => decide (b ≠ a)
theorem IM.del (h : IM f K B n w) (ht : Try.prog.underlying t = some (.map 3 3)) (ha : I6 a) (ty : TypeId) :
    ∃ w', (Builtin.delete_ #[t, 3] ty #[.map (some B), .int .i64 a]).run Try.prog w = .ok (.tuple #[]) w' ∧ IM (delF f a) (delK K a) B n w' ∧ Out B (B + 1) w w' := by
  obtain ⟨D, ho, htd, hat, hhas, hsz, hnd, hk⟩ := h
  obtain ⟨w', hrun, ho', hg⟩ := ho.drop im_law ht (i6_key ha) ty
  refine ⟨w', hrun, ⟨_, ho', htd.del _, fun b => ?_, fun b => ?_, ?_, ?_, fun b => ?_⟩, ⟨hg.grown.os, hg.grown.tape, hg.grown.output, hg.grown.size, fun k hk hd => hg.grown.block k hk (by simp; omega)⟩⟩
  · unfold delF
    by_cases e : b = a
    · subst e
      rw [Maps.atKey_del_same]
      simp
    · rw [Maps.atKey_del_other (by simpa using e), hat b, if_neg e]
  · unfold delF
    by_cases e : b = a
    · subst e
      rw [Maps.has_del_same]
      simp
    · rw [Maps.has_del_other (by simpa using e), hhas b, if_neg e]
  · have h1 := Maps.size_del (k := .int .i64 a) htd
    rw [hhas a] at h1
    have h2 : (delK K a).length + (if (f a).isSome then 1 else 0) = K.length := by
      unfold delK
      by_cases hc : a ∈ K
      · rw [if_pos ((hk a).1 hc)]
        have := hnd.erase_eq_filter a
        rw [show K.filter (fun b => decide (b ≠ a)) = K.erase a by rw [this]; congr 1; funext b; by_cases e : b = a <;> simp [e]]
        rw [List.length_erase_of_mem hc]
        have := List.length_pos_of_mem hc
        omega
      · rw [if_neg (fun h => hc ((hk a).2 h))]
        rw [List.filter_eq_self.2 (fun b hb => by simp; rintro rfl; exact hc hb)]
        rfl
    omega
  · exact hnd.filter _
  · unfold delK delF
    rw [List.mem_filter]
    by_cases e : b = a
    · subst e
      simp
    · rw [if_neg e]
      simp [e, hk b]
end
end Go.Proofs.Ythkigilegnjglaa

/- Contracts of the laws' own helpers over Graph: toGraph, eqGraph, markGraph, heldGraph, szGraph. For every graph whose slices have at most 2^40 elements; no other condition. -/
namespace Go.Proofs.Ythkigilegnjglaa
open Go.ChangeShapes Go.WideShapes Go.ChangeAt Go.RowKit
/-- Block g is just the cells cs. -/
def Bx (w : World) (g : Nat) (t : TypeId) (cs : Array Value) : Prop := w.heap[g]? = some (.cells cs t (0, 0))
section
variable {w w' : World} {g : Nat} {t : TypeId} {cs : Array Value}
theorem Bx.lt (h : Bx w g t cs) : g < w.heap.size := (Array.getElem?_eq_some_iff.1 h).1
theorem Bx.made (w : World) (t : TypeId) (cs : Array Value) : Bx (w.alloc (.cells cs t)) w.heap.size t cs := heap_alloc_new w _
theorem Bx.new (h : Bx w g t cs) (hb : Below w.heap.size w w') : Bx w' g t cs := (hb.block g h.lt).trans h
theorem Bx.out {lo hi : Nat} (h : Bx w g t cs) (o : Out lo hi w w') (hd : g < lo ∨ hi ≤ g) : Bx w' g t cs := (o.block g h.lt hd).trans h
theorem Bx.two {a b : Value} (h : Bx w g t #[a, b]) : w.cell? ⟨g, 0, none⟩ = some a ∧ w.cell? ⟨g, 1, none⟩ = some b :=
  ⟨by rw [cell_of_row w g 0 _ t (0, 0) h]; rfl, by rw [cell_of_row w g 1 _ t (0, 0) h]; rfl⟩
theorem trans_new {a b c : World} (h : Below a.heap.size a b) (k : Below b.heap.size b c) : Below a.heap.size a c := h.trans (k.mono h.size)
theorem arg_rd {W a b : World} {A : Option Addr} {X : List (List Int)} (R : RdSS W W.heap.size A X) (B : Below W.heap.size W a) (h : Below a.heap.size a b) : RdSS b b.heap.size A X :=
  (R.below (B.trans (h.mono B.size))).more (Nat.le_trans B.size h.size)
end
theorem bcell {W w1 : World} (hb : Below W.heap.size W w1) : (∀ b o, b < W.heap.size → w1.cell? ⟨b, o, none⟩ = W.cell? ⟨b, o, none⟩) ∧ (∀ b o, b < W.heap.size → w1.frozen? ⟨b, o, none⟩ = W.frozen? ⟨b, o, none⟩) :=
  ⟨fun b o h => hb.cell (p := ⟨b, o, none⟩) h, fun b o h => hb.frozen (p := ⟨b, o, none⟩) h⟩
theorem OwnSS.setFar {w : World} {lo hi : Nat} {v : Value} {X : List (List Int)} (h : OwnSS w lo hi v X) {p : Addr} (hp : p.block < lo ∨ hi ≤ p.block) (u : Value) : OwnSS (w.setCell p u) lo hi v X :=
  Owns.keep h SSR_frames fun b h1 h2 _ => Below.heap_setCell w p u b (by omega)
/-- A graph whose slices are new is returned. -/
def FreshG (N : Int) (X : List (List Int)) (w : World) (e : Ending) (w' : World) : Prop :=
  ∃ v, e = .returned (.agg #[.int .i64 N, v]) ∧ OwnSS w' w.heap.size w'.heap.size v X ∧ Below w.heap.size w w'
def MarkedG (q : Int) (lo hi : Nat) (v : Value) (X : List (List Int)) (w : World) (e : Ending) (w' : World) : Prop :=
  e = .returned (.int .i64 q) ∧ OwnSS w' lo hi v X ∧ Out lo hi w w'
/-- What is left of q when a slice's elements are counted off. -/
def szd (q : Int) (n : Nat) : Int := if q - (n : Int) < 0 then -1 else q - (n : Int)
theorem szIntS_any {w : World} {A : Option Addr} {n c : Nat} {q : Int} (hn : n ≤ 9223372036854775807) (h0 : 0 ≤ q) (hq : q ≤ 1000000000000000) :
    Calls Try.prog 61 #[.slice A n c, .int .i64 q] w (fun e w' => e = .returned (.int .i64 (szd q n)) ∧ w = w') := by
  by_cases h : q - (n : Int) < 0
  · have HS : Hid (szd q n = -1) := if_pos h
    go_enter Try.func61, Try.ntmps61
    go_wp2
    go_ret
    exact ⟨ret_i HS.out.symm, rfl⟩
  · have HS : Hid (szd q n = q - (n : Int)) := if_neg h
    have h' : (n : Int) ≤ q := by omega
    clear h
    go_enter Try.func61, Try.ntmps61
    go_wp2
    go_ret
    exact ⟨ret_i HS.out.symm, rfl⟩
/-- Either all is counted, or there is too much. -/
def SzP (q : Int) (X : List (List Int)) (w : World) (e : Ending) (w' : World) : Prop :=
  ∃ r : Int, e = .returned (.int .i64 r) ∧ Below w.heap.size w w' ∧ (r = -1 ∨ 0 ≤ r ∧ r + (X.length : Int) + (psum X X.length : Int) ≤ q)
set_option maxHeartbeats 1600000 in
theorem szIntSS_any {w : World} {A : Option Addr} {n c : Nat} {q : Int} {X : List (List Int)} (hl : Hid (X.length = n)) (hn : n ≤ 9223372036854775807) (h0 : 0 ≤ q) (hq : q ≤ 1000000000000000) (hr : RdSS w w.heap.size A X) :
    Calls Try.prog 15 #[.slice A n c, .int .i64 q] w (SzP q X w) := by
  by_cases h : q - (n : Int) < 0
  · clear hr
    go_enter Try.func15, Try.ntmps15
    go_wp2
    go_ret
    exact ⟨-1, rfl, Below.refl _ _, .inl rfl⟩
  · have h' : (n : Int) ≤ q := by omega
    clear h
    go_enter Try.func15, Try.ntmps15
    go_wp2
    go_loop [1, 5] (fun m i => ∃ (k : Nat) (r : Int), k ≤ n ∧ i = .int .i64 k ∧ m = .int .i64 r ∧ 0 ≤ r ∧ r + (n : Int) + (psum X k : Int) = q) (fun _ i => n - (intOf i).toNat)
    case atStart => exact ⟨0, _, Nat.zero_le _, rfl, rfl, by omega, by rw [psum_zero]; omega⟩
    case round =>
      obtain ⟨k, r, hk, rfl, rfl, hr0, hrq⟩ := hrel
      have HQ := Lib.hid hrq
      have hrb : r ≤ q := by omega
      clear hrq
      by_cases hlt : k < n
      · have hkz : k < X.length := by rw [hl.out]; exact hlt
        obtain ⟨ad, Aj, cj, rfl, hab, hc, hcl, hcm, hrd⟩ := hr.at_ hkz
        have hps := Lib.hid (psum_succ X k hkz)
        have hxl : X[k].length ≤ 9223372036854775807 := by unfold maxLen at hcm; omega
        obtain ⟨x, hx⟩ : ∃ x, x = X[k] := ⟨_, rfl⟩
        rw [← hx] at hc hps hxl
        clear hx hrd hcl hcm hr
        by_cases hneg : r - (x.length : Int) < 0
        · have HS := Lib.hid (show szd r x.length = -1 from if_pos hneg)
          have C := szIntS_any (w := w) (A := Aj) (c := cj) hxl hr0 (by omega : r ≤ 1000000000000000)
          rw [HS.out] at C
          have HC := Lib.hid C
          clear C hneg
          go_wp2_with (go_at_call 61; refine HC.out.mono ?_; rintro e w1 ⟨rfl, rfl⟩)
          go_ret
          exact ⟨-1, rfl, Below.refl _ _, .inl rfl⟩
        · have HS := Lib.hid (show szd r x.length = r - (x.length : Int) from if_neg hneg)
          have C := szIntS_any (w := w) (A := Aj) (c := cj) hxl hr0 (by omega : r ≤ 1000000000000000)
          rw [HS.out] at C
          have HC := Lib.hid C
          have hneg' : (x.length : Int) ≤ r := by omega
          clear C hneg
          go_wp2_with (go_at_call 61; refine HC.out.mono ?_; rintro e w1 ⟨rfl, rfl⟩)
          go_round
          case rel => exact ⟨k + 1, _, by omega, by go_num, rfl, by omega, by have := HQ.out; rw [hps.out]; omega⟩
          case measure => simp [intOf]; omega
      · have e : k = n := by omega
        subst e
        go_wp2
        go_ret
        exact ⟨r, rfl, Below.refl _ _, .inr ⟨hr0, by have := HQ.out; rw [hl.out]; omega⟩⟩
end Go.Proofs.Ythkigilegnjglaa
