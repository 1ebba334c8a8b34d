/- Words for slices of teams (structs of 5 integers and a slice of integers): what is only read (RdT), what the call owns (OwnT); stores into a field. No conditions. -/
import Derived.Test.YtdhnhhicjjcmdaaIntSS
import Derived.Test.YtdhnhhicjjcmdaaRow3
import Derived.Test.YtdhnhhicjjcmdaaOpen3
namespace Go.Proofs.Ytdhnhhicjjcmdaa
open Go.ChangeShapes Go.WideShapes Go.ChangeAt Go.RowKit
structure Tm where
  id : Int
  club : Int
  wins : Int
  pts : Int
  firsts : Int
  met : List Int
theorem nodup_set2 : ∀ {es : List (List Nat × List Value)} {i : Nat} {p q : List Nat × List Value}, (es.flatMap (·.1)).Nodup → p.1.Nodup → es[i]? = some q → (∀ b ∈ p.1, b ∈ q.1 ∨ b ∉ es.flatMap (·.1)) → ((es.set i p).flatMap (·.1)).Nodup
  | [], i, p, q, _, _, h, _ => by simp at h
  | r :: es, 0, p, q, h, hp, hq, hd => by
    rw [List.set_cons_zero, List.flatMap_cons]
    rw [List.flatMap_cons] at h
    have e : r = q := by simpa using hq
    subst e
    refine List.nodup_append.2 ⟨hp, (List.nodup_append.1 h).2.1, fun a ha b hb hab => ?_⟩
    subst hab
    rcases hd a ha with h1 | h1
    · exact (List.nodup_append.1 h).2.2 a h1 a hb rfl
    · exact h1 (by rw [List.flatMap_cons]; exact List.mem_append_right _ hb)
  | r :: es, i + 1, p, q, h, hp, hq, hd => by
    rw [List.set_cons_succ, List.flatMap_cons]
    rw [List.flatMap_cons] at h
    obtain ⟨h1, h2, h3⟩ := List.nodup_append.1 h
    have hqm : q ∈ es := List.mem_of_getElem? (show es[i]? = some q by simpa using hq)
    refine List.nodup_append.2 ⟨h1, nodup_set2 h2 hp (show es[i]? = some q by simpa using hq) (fun b hb => (hd b hb).imp id fun hn hin => hn (by rw [List.flatMap_cons]; exact List.mem_append_right _ hin)), fun a ha b hb hab => ?_⟩
    subst hab
    rcases mem_set_flat hb with hb | hb
    · exact h3 a ha a hb rfl
    · rcases hd a hb with h5 | h5
      · exact h3 a ha a (List.mem_flatMap.2 ⟨q, hqm, h5⟩) rfl
      · exact h5 (by rw [List.flatMap_cons]; exact List.mem_append_left _ ha)
theorem flatK_set {es : List (List Nat × List Value)} {size : Nat} (h : ∀ p ∈ es, p.2.length = size) {i j : Nat} {q : List Nat × List Value} (hq : es[i]? = some q) (hj : j < size) (F' : List Nat) (u : Value) : (es.set i (F', q.2.set j u)).flatMap (·.2) = (es.flatMap (·.2)).set (i * size + j) u := by
  induction es generalizing i with
  | nil => simp at hq
  | cons r es ih =>
    have h1 := h r (by simp)
    cases i with
    | zero =>
      have e : r = q := by simpa using hq
      subst e
      simp only [List.set_cons_zero, List.flatMap_cons, Nat.zero_mul, Nat.zero_add]
      rw [List.set_append, if_pos (by omega)]
    | succ i =>
      have := ih (fun q hq => h q (List.mem_cons_of_mem _ hq)) (show es[i]? = some q by simpa using hq)
      simp only [List.set_cons_succ, List.flatMap_cons]
      rw [this, List.set_append, if_neg (by rw [h1, Nat.succ_mul]; omega)]
      congr 2
      rw [h1, Nat.succ_mul]; omega
/-- One cell of one element is stored anew; what the element owns may become something else. -/
theorem Owns.put1 {X : Type} {R : World → List Nat → List Value → X → Prop} {e : TypeId} {size lo hi hi' g cap i j : Nat} {w : World} {l : List X} {u : Value} {x' : X} (hR : Frames R) (h : Owns (RowsR e size R) w lo hi [.slice (some ⟨g, 0, none⟩) l.length cap] l) (hi_ : i < l.length) (hj : j < size)
    (hx : ∀ F us, us.length = size → R w F us l[i] → F.Nodup → (∀ b ∈ F, b < hi) → ∃ Fn, R w Fn (us.set j u) x' ∧ Fn.Nodup ∧ ∀ b ∈ Fn, b ∈ F ∨ (hi ≤ b ∧ b < hi')) (hh : hi ≤ hi') (hlo : lo ≤ hi) :
    Owns (RowsR e size R) (w.setCell ⟨g, i * size + j, none⟩ u) lo hi' [.slice (some ⟨g, 0, none⟩) l.length cap] (l.set i x') := by
  obtain ⟨F, ⟨v, es, h1, h2, h3, h4, h5, h6, h7⟩, hFn, hF⟩ := h
  have hvv : v = .slice (some ⟨g, 0, none⟩) l.length cap := by simpa using h1.symm
  subst hvv
  have hown : (Value.slice (some ⟨g, 0, none⟩) l.length cap).ownBlock.toList = [g] := rfl
  rw [hown] at h4
  have hgF : g ∈ F := by rw [h4]; simp
  rw [h4] at h5
  obtain ⟨n1, n2, n3⟩ := List.nodup_append.1 h5
  have hie : i < es.length := by omega
  have hq : es[i]? = some es[i] := List.getElem?_eq_getElem hie
  have hqx := h7 i _ _ hq (List.getElem?_eq_getElem hi_)
  have hsub : ∀ b ∈ es[i].1, b ∈ es.flatMap (·.1) := fun b hb => mem_flat1 hq hb
  have hFm : ∀ b ∈ es.flatMap (·.1), b ∈ F := fun b hb => by rw [h4]; exact List.mem_append_right _ hb
  have hqn : es[i].1.Nodup := by
    have hall : ∀ (es : List (List Nat × List Value)) (i : Nat) (hi : i < es.length), (es.flatMap (·.1)).Nodup → es[i].1.Nodup := by
      intro es
      induction es with
      | nil => intro i hi; exact absurd hi (Nat.not_lt_zero _)
      | cons r es ih =>
        intro i hi hn
        rw [List.flatMap_cons] at hn
        obtain ⟨m1, m2, _⟩ := List.nodup_append.1 hn
        cases i with
        | zero => exact m1
        | succ i => exact ih i (by simpa using hi) m2
    exact hall es i hie n2
  obtain ⟨Fn, k1, k2, k3⟩ := hx es[i].1 es[i].2 (h6 _ (List.getElem_mem _)) hqx hqn (fun b hb => (hF b (hFm b (hsub b hb))).2)
  have hnew : ∀ b ∈ Fn, b ∈ es[i].1 ∨ b ∉ es.flatMap (·.1) := fun b hb => (k3 b hb).imp id fun hr hin => by have := (hF b (hFm b hin)).2; omega
  have hgn : ∀ b ∈ Fn, b ≠ g := fun b hb hbg => by
    subst hbg
    rcases k3 b hb with hr | hr
    · exact n3 b (by simp) b (hsub b hr) rfl
    · have := (hF b hgF).2; omega
  have hnd : ([g] ++ (es.set i (Fn, es[i].2.set j u)).flatMap (·.1)).Nodup := by
    refine List.nodup_append.2 ⟨n1, nodup_set2 n2 k2 hq hnew, fun a ha b hb hab => ?_⟩
    subst hab
    have hag : a = g := by simpa using ha
    subst hag
    rcases mem_set_flat hb with hb | hb
    · exact n3 a (by simp) a hb rfl
    · exact hgn a hb rfl
  have hfar : ∀ b, b ≠ g → (w.setCell ⟨g, i * size + j, none⟩ u).heap[b]? = w.heap[b]? := fun b hb => heap_setCell_other w ⟨g, i * size + j, none⟩ b u hb
  refine ⟨[g] ++ (es.set i (Fn, es[i].2.set j u)).flatMap (·.1), ⟨_, es.set i (Fn, es[i].2.set j u), rfl, by simp [h2], ?_, rfl, hnd, fun p hp => ?_, fun k p y hkp hky => ?_⟩, hnd, fun b hb => ?_⟩
  · rw [flatK_set h6 hq hj, List.length_set]
    exact (h3.stored (i * size + j) u).1
  · rcases List.mem_or_eq_of_mem_set hp with hp | rfl
    · exact h6 p hp
    · rw [List.length_set]; exact h6 _ (List.getElem_mem _)
  · rcases Nat.decEq k i with hne | rfl
    · rw [List.getElem?_set_ne (by omega)] at hkp hky
      refine hR.keep (h7 k p y hkp hky) (fun b hb => hfar b (fun hbg => ?_))
      subst hbg
      exact n3 b (by simp) b (mem_flat1 hkp hb) rfl
    · rw [List.getElem?_set_self (by omega)] at hkp hky
      injection hkp with hkp
      injection hky with hky
      subst hkp
      subst hky
      exact hR.keep k1 (fun b hb => hfar b (hgn b hb))
  · rw [List.mem_append] at hb
    rcases hb with hb | hb
    · have : b = g := by simpa using hb
      subst this
      have := hF b hgF; omega
    · rcases mem_set_flat hb with hb | hb
      · have := hF b (hFm b hb); omega
      · rcases k3 b hb with hr | hr
        · have := hF b (hFm b (hsub b hr)); omega
        · omega
theorem reps_flat2 (n : Nat) (us : List Value) : (List.replicate n (([] : List Nat), us)).flatMap (·.2) = (List.replicate n us).flatten := by
  induction n with
  | zero => rfl
  | succ n ih => simp only [List.replicate_succ, List.flatMap_cons, List.flatten_cons, ih]
theorem reps_flat1 (n : Nat) (us : List Value) : (List.replicate n (([] : List Nat), us)).flatMap (·.1) = [] := by
  induction n with
  | zero => rfl
  | succ n ih => simp only [List.replicate_succ, List.flatMap_cons, ih]; rfl
theorem RowsR.madeK {X : Type} {R : World → List Nat → List Value → X → Prop} {e : TypeId} {size : Nat} {w : World} {base g n : Nat} {us : List Value} {x0 : X} (hu : us.length = size) (h : w.ownsRow base e size (.slice (some ⟨g, 0, none⟩) n n) n (List.replicate n us).flatten) (hz : R w [] us x0) :
    RowsR e size R w [g] [.slice (some ⟨g, 0, none⟩) n n] (List.replicate n x0) := by
  have e1 := reps_flat2 n us
  refine ⟨_, List.replicate n ([], us), rfl, by simp, ?_, ?_, by simp, ?_, ?_⟩
  · rw [e1, List.length_replicate]
    refine ⟨h.1, ?_⟩
    rcases h.2 with hn | ⟨g', cap, cur, h1, hb, rest⟩
    · exact .inl hn
    · exact .inr ⟨g', cap, cur, h1, Nat.zero_le _, rest⟩
  · rw [reps_flat1]; rfl
  · intro p hp
    rw [(List.mem_replicate.1 hp).2]; exact hu
  · intro i p x hp hx
    rw [List.getElem?_replicate] at hp hx
    split at hp
    · injection hp with hp
      rename_i hlt
      rw [if_pos hlt] at hx
      injection hx with hx
      rw [← hp, ← hx]; exact hz
    · cases hp
theorem madeCells_flat (us : List Value) (hu : 0 < us.length) (n : Nat) : (madeCells us.toArray (n * us.length)).toList = (List.replicate n us).flatten := by
  apply List.ext_getElem?
  intro j
  by_cases hj : j < n * us.length
  · have hd : j / us.length < n := (Nat.div_lt_iff_lt_mul hu).2 hj
    have hm : j % us.length < us.length := Nat.mod_lt _ hu
    have e2 : ∀ (n j : Nat), j < n * us.length → (List.replicate n us).flatten[j]? = us[j % us.length]? := by
      intro n
      induction n with
      | zero => intro j h; omega
      | succ n ih =>
        intro j h
        rw [List.replicate_succ, List.flatten_cons]
        by_cases hl : j < us.length
        · rw [List.getElem?_append_left hl, Nat.mod_eq_of_lt hl]
        · rw [List.getElem?_append_right (by omega), ih (j - us.length) (by rw [Nat.succ_mul] at h; omega), ← Nat.mod_eq_sub_mod (by omega)]
    rw [e2 n j hj]
    unfold madeCells
    simp [hj, List.getElem?_eq_getElem hm]
  · rw [List.getElem?_eq_none (by simp [madeCells]; omega), List.getElem?_eq_none (by simp; omega)]
def I6 (a : Int) : Prop := IntKind.i64.min ≤ a ∧ a ≤ IntKind.i64.max
/-- All integers are of 64 bits. -/
def Tm.ok (x : Tm) : Prop := I6 x.id ∧ I6 x.club ∧ I6 x.wins ∧ I6 x.pts ∧ I6 x.firsts ∧ ∀ z ∈ x.met, I6 z
def TeamR (w : World) (F : List Nat) (cs : List Value) (x : Tm) : Prop := ∃ v : Value, cs = [.int .i64 x.id, .int .i64 x.club, .int .i64 x.wins, .int .i64 x.pts, .int .i64 x.firsts, v] ∧ IntsR .i64 3 w F [v] x.met
theorem TeamR.frames : Frames TeamR where
  keep := by
    rintro w w' F cs x ⟨v, h1, h2⟩ hk
    exact ⟨v, h1, (IntsR.frames _ _).keep h2 hk⟩
  lt := by
    rintro w F cs x ⟨v, h1, h2⟩ b hb
    exact (IntsR.frames _ _).lt h2 b hb
/-- A team that lies at p and is only read. -/
def AtT (w : World) (B : Nat) (p : Addr) (x : Tm) : Prop := p.block < B ∧ ∃ (Aj : Option Addr) (cj : Nat), w.cell? p = some (.int .i64 x.id) ∧ w.cell? ⟨p.block, p.off + 1, none⟩ = some (.int .i64 x.club) ∧ w.cell? ⟨p.block, p.off + 2, none⟩ = some (.int .i64 x.wins) ∧ w.cell? ⟨p.block, p.off + 3, none⟩ = some (.int .i64 x.pts) ∧ w.cell? ⟨p.block, p.off + 4, none⟩ = some (.int .i64 x.firsts) ∧ w.cell? ⟨p.block, p.off + 5, none⟩ = some (.slice Aj x.met.length cj) ∧ x.met.length ≤ cj ∧ cj ≤ maxLen ∧ Rd w B Aj (ivs x.met)
def RdT (w : World) (B : Nat) (A : Option Addr) (X : List Tm) : Prop :=
  ∀ (k : Nat) (x : Tm), X[k]? = some x → ∃ ad : Addr, A = some ad ∧ AtT w B (ad.add (k * 6)) x
def RdTm (w : World) (B : Nat) (cs : List Value) (x : Tm) : Prop := ∃ (Aj : Option Addr) (cj : Nat), cs = [.int .i64 x.id, .int .i64 x.club, .int .i64 x.wins, .int .i64 x.pts, .int .i64 x.firsts, .slice Aj x.met.length cj] ∧ x.met.length ≤ cj ∧ cj ≤ maxLen ∧ Rd w B Aj (ivs x.met)
theorem TeamR.rd {w : World} {F : List Nat} {cs : List Value} {x : Tm} {B : Nat} (h : TeamR w F cs x) (hB : ∀ b ∈ F, b < B) : RdTm w B cs x := by
  obtain ⟨v, rfl, h2⟩ := h
  obtain ⟨A, c, e, h4, h5, h6⟩ := h2.rd hB
  have : v = .slice A x.met.length c := by simpa using e
  subst this
  exact ⟨A, c, rfl, h4, h5, h6⟩
section
variable {w w' : World} {B B' lo hi lo' hi' : Nat} {A : Option Addr} {X : List Tm} {v : Value} {p : Addr} {x : Tm}
theorem AtT.keep (h : AtT w B p x) (hk : ∀ b, b < B → w'.heap[b]? = w.heap[b]?) : AtT w' B p x := by
  obtain ⟨a0, Aj, cj, c0, c1, c2, c3, c4, c5, a1, a2, a3⟩ := h
  exact ⟨a0, Aj, cj, (show w'.cell? p = w.cell? _ from World.cell?_of_block (hk _ a0)).trans c0, (show w'.cell? ⟨p.block, p.off + 1, none⟩ = w.cell? _ from World.cell?_of_block (hk _ a0)).trans c1, (show w'.cell? ⟨p.block, p.off + 2, none⟩ = w.cell? _ from World.cell?_of_block (hk _ a0)).trans c2, (show w'.cell? ⟨p.block, p.off + 3, none⟩ = w.cell? _ from World.cell?_of_block (hk _ a0)).trans c3, (show w'.cell? ⟨p.block, p.off + 4, none⟩ = w.cell? _ from World.cell?_of_block (hk _ a0)).trans c4, (show w'.cell? ⟨p.block, p.off + 5, none⟩ = w.cell? _ from World.cell?_of_block (hk _ a0)).trans c5, a1, a2, a3.keep hk⟩
theorem AtT.below (h : AtT w B p x) (hb : Below B w w') : AtT w' B p x := h.keep hb.block
theorem AtT.more (h : AtT w B p x) (hB : B ≤ B') : AtT w B' p x := by
  obtain ⟨a0, Aj, cj, c0, c1, c2, c3, c4, c5, a1, a2, a3⟩ := h
  exact ⟨by omega, Aj, cj, c0, c1, c2, c3, c4, c5, a1, a2, a3.more hB⟩
theorem RdT.keep (h : RdT w B A X) (hk : ∀ b, b < B → w'.heap[b]? = w.heap[b]?) : RdT w' B A X := fun k x hx => by
  obtain ⟨ad, a1, a2⟩ := h k x hx
  exact ⟨ad, a1, a2.keep hk⟩
theorem RdT.below (h : RdT w B A X) (hb : Below B w w') : RdT w' B A X := h.keep hb.block
theorem RdT.more (h : RdT w B A X) (hB : B ≤ B') : RdT w B' A X := fun k x hx => by
  obtain ⟨ad, a1, a2⟩ := h k x hx
  exact ⟨ad, a1, a2.more hB⟩
theorem RdT.drewN (h : RdT w B A X) (n : Nat) : RdT (w.drewN n) B A X := h
theorem RdT.nil : RdT w B A [] := fun k x hx => by simp at hx
theorem RdT.at_ (h : RdT w B A X) {k : Nat} (hk : k < X.length) : ∃ ad p : Addr, A = some ad ∧ ad.add (k * 6) = p ∧ AtT w B p X[k] := by
  obtain ⟨ad, a1, a2⟩ := h k _ (List.getElem?_eq_getElem hk)
  exact ⟨ad, _, a1, rfl, a2⟩
theorem RdT.of_rows {c : Nat} (h : RdRows 6 RdTm w B [.slice A X.length c] X) : RdT w B A X := fun k x hx => by
  obtain ⟨A', c', h1, h2, h3, h4⟩ := h
  obtain ⟨ad, us, a1, a2, a3, a4, ⟨Aj, cj, b1, b2, b3, b4⟩⟩ := h4 k x hx
  have hA : A = A' := by have := List.head_eq_of_cons_eq h1; injection this
  subst hA
  subst b1
  refine ⟨ad, a1, by rw [add_blk]; exact a2, Aj, cj, ?_, ?_, ?_, ?_, ?_, ?_, b2, b3, b4⟩
  · have := a4 0 _ rfl; simpa using this
  · rw [← add_part]; exact a4 1 _ rfl
  · rw [← add_part]; exact a4 2 _ rfl
  · rw [← add_part]; exact a4 3 _ rfl
  · rw [← add_part]; exact a4 4 _ rfl
  · rw [← add_part]; exact a4 5 _ rfl
end
end Go.Proofs.Ytdhnhhicjjcmdaa
