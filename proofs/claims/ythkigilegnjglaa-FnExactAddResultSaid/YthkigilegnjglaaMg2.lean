/- Making, storing into and appending to rows whose elements own memory (the words of XDeep), over any program. No conditions but the machine's bound on bytes. -/
import Derived.Test.YthkigilegnjglaaMg1
import Derived.Test.YthkigilegnjglaaRows
import Derived.WalkKit
import Derived.ProofKit
import Derived.OpenShut
import Derived.LoopN
import Derived.Handy
import Derived.Lib.Hide
import Derived.IntWalk
import Derived.Test.YthkigilegnjglaaMg0
namespace Go.Proofs.Ythkigilegnjglaa
open Go.ChangeShapes Go.WideShapes Go.ChangeAt Go.RowKit
section
variable {X : Type} {R : World → List Nat → List Value → X → Prop} {e : TypeId} {size : Nat} {w w' : World} {F F' : List Nat} {cs : List Value} {l : List X}
theorem RowsR.nil_ : RowsR e size R w [] [.slice none 0 0] [] :=
  ⟨_, [], rfl, rfl, by simpa using World.ownsRow_nil w 0 e size, rfl, by simp, by simp, by simp⟩
theorem rep_flat2 (n : Nat) (z : Value) : (List.replicate n (([] : List Nat), [z])).flatMap (·.2) = List.replicate n z := by
  induction n with
  | zero => rfl
  | succ n ih => simp only [List.replicate_succ, List.flatMap_cons, ih]; rfl
theorem rep_flat1 (n : Nat) (z : Value) : (List.replicate n (([] : List Nat), [z])).flatMap (·.1) = [] := by
  induction n with
  | zero => rfl
  | succ n ih => simp only [List.replicate_succ, List.flatMap_cons, ih]; rfl
theorem RowsR.made1 {base g n : Nat} {z : Value} {x0 : X} (h : w.ownsRow base e 1 (.slice (some ⟨g, 0, none⟩) n n) n (List.replicate n z)) (hz : R w [] [z] x0) :
    RowsR e 1 R w [g] [.slice (some ⟨g, 0, none⟩) n n] (List.replicate n x0) := by
  have e1 := rep_flat2 n z
  refine ⟨_, List.replicate n ([], [z]), rfl, by simp, ?_, ?_, by simp, ?_, ?_⟩
  · rw [e1, List.length_replicate]
    refine ⟨h.1, ?_⟩
    rcases h.2 with hn | ⟨g', cap, cur, h1, hb, rest⟩
    · exact .inl hn
    · exact .inr ⟨g', cap, cur, h1, Nat.zero_le _, rest⟩
  · rw [rep_flat1]; rfl
  · intro p hp
    rw [(List.mem_replicate.1 hp).2]; rfl
  · intro i p x hp hx
    rw [List.getElem?_replicate] at hp hx
    split at hp
    · injection hp with hp
      rename_i hlt
      rw [if_pos hlt] at hx
      injection hx with hx
      rw [← hp, ← hx]; exact hz
    · cases hp
theorem flat1_set {es : List (List Nat × List Value)} (h : ∀ p ∈ es, p.2.length = 1) (i : Nat) (F' : List Nat) (u : Value) : (es.set i (F', [u])).flatMap (·.2) = (es.flatMap (·.2)).set i u := by
  induction es generalizing i with
  | nil => simp
  | cons q es ih =>
    have h1 := h q (by simp)
    obtain ⟨a, ha⟩ : ∃ a, q.2 = [a] := List.length_eq_one_iff.1 h1
    cases i with
    | zero => simp [ha]
    | succ i =>
      have := ih (fun q hq => h q (List.mem_cons_of_mem _ hq)) i
      simp [ha, this]
theorem mem_set_flat {es : List (List Nat × List Value)} {i : Nat} {p : List Nat × List Value} {b : Nat} (h : b ∈ (es.set i p).flatMap (·.1)) : b ∈ es.flatMap (·.1) ∨ b ∈ p.1 := by
  obtain ⟨q, hq, hb⟩ := List.mem_flatMap.1 h
  rcases List.mem_or_eq_of_mem_set hq with hq | rfl
  · exact .inl (List.mem_flatMap.2 ⟨q, hq, hb⟩)
  · exact .inr hb
theorem nodup_set : ∀ {es : List (List Nat × List Value)} {i : Nat} {p : List Nat × List Value}, (es.flatMap (·.1)).Nodup → p.1.Nodup → (∀ b ∈ p.1, b ∉ es.flatMap (·.1)) → ((es.set i p).flatMap (·.1)).Nodup
  | [], i, p, _, _, _ => by simp
  | q :: es, 0, p, h, hp, hd => by
    rw [List.set_cons_zero, List.flatMap_cons]
    rw [List.flatMap_cons] at h
    refine List.nodup_append.2 ⟨hp, (List.nodup_append.1 h).2.1, fun a ha b hb hab => ?_⟩
    subst hab
    exact hd a ha (by rw [List.flatMap_cons]; exact List.mem_append_right _ hb)
  | q :: es, i + 1, p, h, hp, hd => by
    rw [List.set_cons_succ, List.flatMap_cons]
    rw [List.flatMap_cons] at h
    obtain ⟨h1, h2, h3⟩ := List.nodup_append.1 h
    refine List.nodup_append.2 ⟨h1, nodup_set h2 hp (fun b hb hin => hd b hb (by rw [List.flatMap_cons]; exact List.mem_append_right _ hin)), fun a ha b hb hab => ?_⟩
    subst hab
    rcases mem_set_flat hb with hb | hb
    · exact h3 a ha a hb rfl
    · exact hd a hb (by rw [List.flatMap_cons]; exact List.mem_append_left _ ha)
theorem RowsR.store1 (hR : Frames R) (h : RowsR e 1 R w F cs l) {i : Nat} (hi : i < l.length) {u : Value} {x : X} (hx : R w F' [u] x) (hd : ∀ b ∈ F', b ∉ F) (hn : F'.Nodup) {g cap : Nat} (hv : cs = [.slice (some ⟨g, 0, none⟩) l.length cap]) :
    ∃ F2, RowsR e 1 R (w.setCell ⟨g, i, none⟩ u) F2 cs (l.set i x) ∧ (F2.Nodup ∧ ∀ b ∈ F2, b ∈ F ∨ b ∈ F') := by
  obtain ⟨v, es, h1, h2, h3, h4, h5, h6, h7⟩ := h
  have hvv : v = .slice (some ⟨g, 0, none⟩) l.length cap := by rw [h1] at hv; simpa using hv
  subst hvv
  have hown : (Value.slice (some ⟨g, 0, none⟩) l.length cap).ownBlock.toList = [g] := rfl
  rw [hown] at h4
  have hgF : g ∈ F := by rw [h4]; simp
  rw [h4] at h5
  obtain ⟨n1, n2, n3⟩ := List.nodup_append.1 h5
  have hF2 : ([g] ++ (es.set i (F', [u])).flatMap (·.1)).Nodup := by
    refine List.nodup_append.2 ⟨n1, nodup_set n2 hn (fun b hb hin => hd b hb (by rw [h4]; exact List.mem_append_right _ hin)), fun a ha b hb hab => ?_⟩
    subst hab
    have hag : a = g := by simpa using ha
    subst hag
    rcases mem_set_flat hb with hb | hb
    · exact n3 a (by simp) a hb rfl
    · exact hd a hb hgF
  have hfar : ∀ b, b ≠ g → (w.setCell ⟨g, i, none⟩ u).heap[b]? = w.heap[b]? := fun b hb => heap_setCell_other w ⟨g, i, none⟩ b u hb
  refine ⟨[g] ++ (es.set i (F', [u])).flatMap (·.1), ⟨_, es.set i (F', [u]), h1, by simp [h2], ?_, rfl, hF2, fun p hp => ?_, fun k p y hkp hky => ?_⟩, hF2, fun b hb => ?_⟩
  · rw [flat1_set h6, List.length_set]
    exact (h3.stored i u).1
  · rcases List.mem_or_eq_of_mem_set hp with hp | rfl
    · exact h6 p hp
    · rfl
  · rcases Nat.decEq k i with hne | rfl
    · rw [List.getElem?_set_ne (by omega)] at hkp hky
      refine hR.keep (h7 k p y hkp hky) (fun b hb => hfar b (fun hbg => ?_))
      subst hbg
      exact n3 b (by simp) b (mem_flat1 hkp hb) rfl
    · rw [List.getElem?_set_self (by omega)] at hkp hky
      injection hkp with hkp
      injection hky with hky
      subst hkp
      subst hky
      exact hR.keep hx (fun b hb => hfar b (fun hbg => hd b hb (by rw [hbg]; exact hgF)))
  · rw [List.mem_append] at hb
    rcases hb with hb | hb
    · left; rw [h4]; exact List.mem_append_left _ hb
    · rcases mem_set_flat hb with hb | hb
      · left; rw [h4]; exact List.mem_append_right _ hb
      · exact .inr hb
variable {P : Program}
theorem run_appR (hR : Frames R) (t ty : TypeId) (i : TypeInfo) (z : Value) (bytes : Nat) (ht : P.underlying t = some (.slice e)) (hi : P.info? e = some i) (hz : i.zero = some z) (hsize : i.size = size) (hby : i.bytes = bytes) (hzs : z.cells.size = size) (hs0 : 0 < size)
    {L M M' B c : Nat} {v : Value} {us : List Value} {x : X} {ad : Addr} (h : Owns (RowsR e size R) w L M [v] l) (hx : Owns R w M M' us x) (hus : us.length = size) (hr : Rd w B (some ad) us) (h1 : ∀ u ∈ us, u.oneCell' = true)
    (hLM : L ≤ M) (h63 : l.length + 1 ≤ maxLen) (hbytes : (l.length + 1) * bytes ≤ 140737488355328) (hL : L ≤ w.heap.size) :
    ∃ v' w', (Builtin.append_ #[t, t] ty #[v, .slice (some ad) 1 c]).run P w = .ok v' w' ∧ Owns (RowsR e size R) w' L w'.heap.size [v'] (l ++ [x]) ∧ Below L w w' := by
  obtain ⟨F, hrow, hFn, hF⟩ := h
  obtain ⟨F', hx1, hFn', hF'⟩ := hx
  have hlt := (RowsR.frames hR (e := e) (size := size)).lt hrow
  have hlt' := hR.lt hx1
  obtain ⟨v0, es, a1, a2, a3, a4, a5, a6, a7⟩ := hrow
  have hvv : v = v0 := by simpa using a1
  subst hvv
  have hcells : ∀ j u, us[j]? = some u → w.cell? (ad.add j) = some u := fun j u hu => by
    obtain ⟨ad', e1, _, hc⟩ := hr j u hu
    injection e1 with e1
    subst e1
    exact hc
  obtain ⟨v', w', hrun, b1, b2, _, b4⟩ := run_append_own_at (P := P) w 0 t ty e i z size bytes ht hi hz hsize hby hzs hs0 v l.length _ a3 ad 1 c us (by rw [hus]; omega) hcells h1 h63 hbytes (Nat.zero_le _)
  have hne : ∀ b ∈ es.flatMap (·.1), v.ownBlock ≠ some b := fun b hb hv => by
    rw [a4, hv] at a5
    exact (List.nodup_append.1 a5).2.2 b (by simp) b hb rfl
  have hkeep : ∀ b, b < w.heap.size → v.ownBlock ≠ some b → w'.heap[b]? = w.heap[b]? := fun b hb hv => b2.block b hb (fun e => hv e.symm)
  have hFown : ∀ b ∈ v.ownBlock.toList, b ∈ F := fun b hb => by rw [a4]; exact List.mem_append_left _ hb
  have hv'lt : ∀ b ∈ v'.ownBlock.toList, L ≤ b ∧ b < w'.heap.size := fun b hb => by
    refine ⟨?_, own_lt b1 b hb⟩
    rcases b4 with b4 | b4
    · rw [b4] at hb; exact (hF b (hFown b hb)).1
    · rw [b4] at hb; simp at hb; omega
  have hv'no : ∀ b ∈ v'.ownBlock.toList, b ∉ es.flatMap (·.1) ∧ b ∉ F' := fun b hb => by
    rcases b4 with b4 | b4
    · rw [b4] at hb
      refine ⟨fun hin => ?_, fun hin => ?_⟩
      · refine hne b hin ?_
        cases hv : v.ownBlock with
        | none => rw [hv] at hb; simp at hb
        | some g => rw [hv] at hb; simp at hb; rw [hb]
      · have k1 := (hF b (hFown b hb)).2
        have k2 := (hF' b hin).1
        omega
    · rw [b4] at hb
      have hbs : b = w.heap.size := by simpa using hb
      refine ⟨fun hin => ?_, fun hin => ?_⟩
      · have := hlt b (by rw [a4]; exact List.mem_append_right _ hin); omega
      · have := hlt' b hin; omega
  have hsub : ∀ b ∈ es.flatMap (·.1), b ∈ F := fun b hb => by rw [a4]; exact List.mem_append_right _ hb
  have hnd : (v'.ownBlock.toList ++ (es ++ [(F', us)]).flatMap (·.1)).Nodup := by
    rw [List.flatMap_append, List.flatMap_singleton]
    refine List.nodup_append.2 ⟨by cases v'.ownBlock <;> simp, List.nodup_append.2 ⟨(List.nodup_append.1 (a4 ▸ a5)).2.1, hFn', fun a ha b hb hab => ?_⟩, fun a ha b hb hab => ?_⟩
    · subst hab
      have k1 := (hF a (hsub a ha)).2
      have k2 := (hF' a hb).1
      omega
    · subst hab
      rw [List.mem_append] at hb
      rcases hb with hb | hb
      · exact (hv'no a ha).1 hb
      · exact (hv'no a ha).2 hb
  refine ⟨v', w', hrun, ⟨v'.ownBlock.toList ++ (es ++ [(F', us)]).flatMap (·.1), ⟨v', es ++ [(F', us)], rfl, by simp [a2], ?_, rfl, hnd, fun p hp => ?_, fun k p y hkp hky => ?_⟩, hnd, fun b hb => ?_⟩, ⟨b2.os, b2.tape, b2.output, b2.size, fun b hb => hkeep b (by omega) (fun hv => ?_)⟩⟩
  · rw [List.flatMap_append, List.flatMap_singleton, List.length_append, List.length_singleton]; exact b1
  · rw [List.mem_append, List.mem_singleton] at hp
    rcases hp with hp | rfl
    · exact a6 p hp
    · exact hus
  · rcases Nat.lt_or_ge k es.length with hk | hk
    · rw [List.getElem?_append_left hk] at hkp
      rw [List.getElem?_append_left (by omega)] at hky
      exact hR.keep (a7 k p y hkp hky) (fun b hb => hkeep b (hlt b (hsub b (mem_flat1 hkp hb))) (hne b (mem_flat1 hkp hb)))
    · rw [List.getElem?_append_right hk] at hkp
      rw [List.getElem?_append_right (by omega)] at hky
      have hk0 : k - es.length = 0 := by
        rcases Nat.eq_zero_or_pos (k - es.length) with h0 | h0
        · exact h0
        · rw [List.getElem?_eq_none (by simp; omega)] at hkp; cases hkp
      have hk1 : k - l.length = 0 := by omega
      rw [hk0] at hkp
      rw [hk1] at hky
      simp at hkp hky
      subst hkp
      subst hky
      refine hR.keep hx1 (fun b hb => hkeep b (hlt' b hb) (fun hv => ?_))
      have k1 := (hF b (hFown b (by rw [hv]; simp))).2
      have k2 := (hF' b hb).1
      omega
  · rw [List.mem_append] at hb
    rcases hb with hb | hb
    · exact hv'lt b hb
    · rw [List.flatMap_append, List.flatMap_singleton, List.mem_append] at hb
      have hsz := b2.size
      rcases hb with hb | hb
      · have k1 := hF b (hsub b hb)
        have k2 := hlt b (hsub b hb)
        omega
      · have k1 := hF' b hb
        have k2 := hlt' b hb
        omega
  · have k1 := (hF b (hFown b (by rw [hv]; simp))).1
    omega
theorem wpList_appR {ops : Array Oper} {rest : List Oper} {o : Oper} {a : Act} {Q : Exit → Act → World → Prop} (hgd : o.guard = none) (s y : Operand) (t : TypeId)
    (ho : o.op = .call { callee := .builtin .append, args := #[s, y], argTypes := #[t, t] }) (hR : Frames R)
    (i : TypeInfo) (z : Value) (bytes : Nat) (ht : P.underlying t = some (.slice e)) (hi : P.info? e = some i) (hz : i.zero = some z) (hsize : i.size = size) (hby : i.bytes = bytes) (hzs : z.cells.size = size) (hs0 : 0 < size)
    {L M M' B c : Nat} {v : Value} {us : List Value} {x : X} {ad : Addr} (hs : a.eval s = v) (hy : a.eval y = .slice (some ad) 1 c) (h : Owns (RowsR e size R) w L M [v] l) (hx : Owns R w M M' us x) (hus : us.length = size) (hr : Rd w B (some ad) us) (h1 : ∀ u ∈ us, u.oneCell' = true)
    (hLM : L ≤ M) (h63 : l.length + 1 ≤ maxLen) (hbytes : (l.length + 1) * bytes ≤ 140737488355328) (hL : L ≤ w.heap.size)
    (K : ∀ v' w', Owns (RowsR e size R) w' L w'.heap.size [v'] (l ++ [x]) → Below L w w' → wpList P ops Q rest (a.put o.dst v') w') : wpList P ops Q (o :: rest) a w := by
  obtain ⟨v', w', hrun, h2, h3⟩ := run_appR (P := P) hR t o.type i z bytes ht hi hz hsize hby hzs hs0 (c := c) h hx hus hr h1 hLM h63 hbytes hL
  refine wpList_plain hgd fun K' hK' => ?_
  unfold Oper.wp
  simp [execOp, ho, resolve, invoke, builtin, hs, hy, hrun, Result.andThen]
  exact hK' _ _ (K v' w' h2 h3)
end
end Go.Proofs.Ythkigilegnjglaa

/- Contracts of the laws' own helpers over [][]int: toIntSS copies all, eqIntSS compares, markIntSS writes k, k+1, .. into each integer, heldIntSS asks for them, szIntSS counts. For every slice of at most 2^40 elements, each of at most 2^40; no other condition. -/
namespace Go.Proofs.Ythkigilegnjglaa
open Go.ChangeShapes Go.WideShapes Go.ChangeAt Go.RowKit
theorem IntSS_info : (Try.prog.info? 45).map (fun i => (i.zero, i.size, i.bytes)) = some (some (.slice none 0 0), 1, 24) := by kernel_rfl
abbrev SSR : World → List Nat → List Value → List (List Int) → Prop := RowsR 45 1 (IntsR .i64 3)
theorem SSR_frames : Frames SSR := RowsR.frames (IntsR.frames _ _)
def OwnSS (w : World) (lo hi : Nat) (v : Value) (X : List (List Int)) : Prop := Owns SSR w lo hi [v] X
/-- What is only read. -/
def RdSS (w : World) (B : Nat) (A : Option Addr) (X : List (List Int)) : Prop :=
  ∀ (k : Nat) (x : List Int), X[k]? = some x → ∃ (ad : Addr) (Aj : Option Addr) (cj : Nat), A = some ad ∧ ad.block < B ∧ w.cell? (ad.add k) = some (.slice Aj x.length cj) ∧ x.length ≤ cj ∧ cj ≤ maxLen ∧ Rd w B Aj (ivs x)
section
variable {w w' : World} {B B' lo hi lo' hi' : Nat} {A : Option Addr} {X : List (List Int)} {v : Value}
theorem RdSS.keep (h : RdSS w B A X) (hk : ∀ b, b < B → w'.heap[b]? = w.heap[b]?) : RdSS w' B A X := fun k x hx => by
  obtain ⟨ad, Aj, cj, a1, a2, a3, a4, a5, a6⟩ := h k x hx
  exact ⟨ad, Aj, cj, a1, a2, (World.cell?_of_block (hk _ (by rw [add_blk]; exact a2))).trans a3, a4, a5, a6.keep hk⟩
theorem RdSS.below (h : RdSS w B A X) (hb : Below B w w') : RdSS w' B A X := h.keep hb.block
theorem RdSS.more (h : RdSS w B A X) (hB : B ≤ B') : RdSS w B' A X := fun k x hx => by
  obtain ⟨ad, Aj, cj, a1, a2, a3, a4, a5, a6⟩ := h k x hx
  exact ⟨ad, Aj, cj, a1, by omega, a3, a4, a5, a6.more hB⟩
theorem RdSS.drewN (h : RdSS w B A X) (n : Nat) : RdSS (w.drewN n) B A X := h
theorem RdSS.at_ (h : RdSS w B A X) {k : Nat} (hk : k < X.length) : ∃ (ad : Addr) (Aj : Option Addr) (cj : Nat), A = some ad ∧ ad.block < B ∧ w.cell? (ad.add k) = some (.slice Aj X[k].length cj) ∧ X[k].length ≤ cj ∧ cj ≤ maxLen ∧ Rd w B Aj (ivs X[k]) :=
  h k _ (List.getElem?_eq_getElem hk)
theorem RdSS.of_rows {c : Nat} (h : RdRows 1 (RdInts .i64) w B [.slice A X.length c] X) : RdSS w B A X := fun k x hx => by
  obtain ⟨A', c', h1, h2, h3, h4⟩ := h
  obtain ⟨ad, us, a1, a2, a3, a4, ⟨Aj, cj, b1, b2, b3, b4⟩⟩ := h4 k x hx
  have hA : A = A' := by have := List.head_eq_of_cons_eq h1; injection this
  subst hA
  subst b1
  exact ⟨ad, Aj, cj, a1, a2, by have := a4 0 _ rfl; simpa using this, b2, b3, b4⟩
theorem OwnSS.rd (h : OwnSS w lo hi v X) {n : Nat} (hn : X.length = n) : ∃ A c, v = .slice A n c ∧ RdSS w hi A X ∧ n ≤ c ∧ c ≤ maxLen := by
  subst hn
  have h2 : RdRows 1 (RdInts .i64) w hi [v] X := Owns.rd (fun hF hB => RowsR.rd (fun hI hB => hI.rd hB) hF (by omega) hB) h (Nat.le_refl _)
  obtain ⟨A, c, h1, h3, h4, h5⟩ := h2
  have : v = .slice A X.length c := by simpa using h1
  subst this
  exact ⟨A, c, rfl, RdSS.of_rows ⟨A, c, rfl, h3, h4, h5⟩, h3, h4⟩
theorem OwnSS.rd' {n c : Nat} (h : OwnSS w lo hi (.slice A n c) X) : RdSS w hi A X := by
  obtain ⟨A', c', h1, h2, _, _⟩ := h.rd (n := X.length) rfl
  injection h1 with e1 e2 e3
  subst e1
  exact h2
theorem OwnSS.new (h : OwnSS w lo hi v X) (hb : Below w.heap.size w w') : OwnSS w' lo hi v X := Owns.new h SSR_frames hb
theorem OwnSS.below (h : OwnSS w lo hi v X) (hb : Below B w w') (hB : hi ≤ B) : OwnSS w' lo hi v X := Owns.below h SSR_frames hb hB
theorem OwnSS.out (h : OwnSS w lo hi v X) (o : Out lo' hi' w w') (hd : hi ≤ lo' ∨ hi' ≤ lo) : OwnSS w' lo hi v X := Owns.out h SSR_frames o hd
theorem OwnSS.wide (h : OwnSS w lo hi v X) (h1 : lo' ≤ lo) (h2 : hi ≤ hi') : OwnSS w lo' hi' v X := Owns.wide h h1 h2
theorem OwnSS.nil : OwnSS w lo hi (.slice none 0 0) [] := ⟨[], RowsR.nil_, by simp, by simp⟩
theorem IntsR.row {F : List Nat} {u : Value} {zs : List Int} (h : IntsR .i64 3 w F [u] zs) : ∃ a b, Row w a b 3 u (ivs zs) ∧ (∀ x, a ≤ x → x < b → x ∈ F) ∧ (∀ (w' : World) (ys : List Int), Row w' a b 3 u (ivs ys) → IntsR .i64 3 w' F [u] ys) := by
  obtain ⟨u', h1, h2, h3⟩ := h
  have : u = u' := by simpa using h1
  subst this
  have back : ∀ (a b : Nat) (w' : World) (ys : List Int), Row w' a b 3 u (ivs ys) → IntsR .i64 3 w' F [u] ys := fun a b w' ys hr => by
    obtain ⟨F2, ⟨u2, k1, k2, k3⟩, _, _⟩ := Row.owns hr
    have : u = u2 := by simpa using k1
    subst this
    exact ⟨u, rfl, k2, h3⟩
  have hlen : (ivs zs).length = zs.length := ivs_len zs
  rcases h2.2 with ⟨rfl, hn⟩ | ⟨g, cap, cur, rfl, hb, hgg, rest⟩
  · have hz : zs = [] := List.eq_nil_of_length_eq_zero hn
    subst hz
    exact ⟨0, 0, Row.nil, fun x _ h => absurd h (by omega), back 0 0⟩
  · refine ⟨g, g + 1, ⟨⟨by simp, .inr ⟨g, cap, cur, by rw [hlen], Nat.le_refl _, hgg, by rw [hlen]; exact rest⟩⟩, fun x hx => ?_⟩, fun x h1 h2 => ?_, back g (g + 1)⟩
    · simp [Value.ownBlock] at hx; omega
    · have : x = g := by omega
      subst this
      rw [h3]; simp [Value.ownBlock]
/-- One of the slices, and what becomes of all when it alone is turned in place. -/
theorem OwnSS.elem (h : OwnSS w lo hi v X) {k : Nat} (hk : k < X.length) : ∃ (g cap : Nat) (u : Value) (a b : Nat), v = .slice (some ⟨g, 0, none⟩) X.length cap ∧ w.cell? ⟨g, k, none⟩ = some u ∧ w.frozen? ⟨g, k, none⟩ = false ∧ lo ≤ g ∧ g < hi ∧ Row w a b 3 u (ivs X[k]) ∧
    ∀ (w' : World) (x : List Int), Out a b w w' → Row w' a b 3 u (ivs x) → OwnSS w' lo hi v (X.set k x) ∧ Out lo hi w w' := by
  obtain ⟨F, h1, h2, h3⟩ := h
  have hlt := SSR_frames.lt h1
  obtain ⟨v', p, a1, a2, a3, a4, a5, a6⟩ := RowsR.elem h1 hk
  have hvv : v = v' := by simpa using a1
  subst hvv
  obtain ⟨u, hu⟩ : ∃ u, p.2 = [u] := List.length_eq_one_iff.1 a2
  rw [hu] at a3 a5
  obtain ⟨g, cap, b1, b2, b3, b4, b5⟩ := a5 0 u rfl
  rw [show k * 1 + 0 = k by omega] at b4 b5
  obtain ⟨a, b, c1, c2, c3⟩ := a3.row
  refine ⟨g, cap, u, a, b, b1, b4, b5, (h3 g b2).1, (h3 g b2).2, c1, fun w' x ho hr => ⟨⟨F, a6 w' x (IntsR.frames _ _) (fun y hy hne => ?_) (hu ▸ c3 w' x hr), h2, h3⟩, ?_⟩⟩
  · refine ho.block y (hlt y hy) ?_
    rcases Nat.lt_or_ge y a with h' | h'
    · exact .inl h'
    · rcases Nat.lt_or_ge y b with h'' | h''
      · exact absurd (c2 y h' h'') hne
      · exact .inr h''
  · refine ⟨ho.os, ho.tape, ho.output, ho.size, fun y hy hne => ho.block y hy ?_⟩
    rcases Nat.lt_or_ge y a with h' | h'
    · exact .inl h'
    · rcases Nat.lt_or_ge y b with h'' | h''
      · have := h3 y (a4 y (c2 y h' h'')); omega
      · exact .inr h''
/-- A new slice is stored at k. -/
theorem OwnSS.store {g cap M M' : Nat} {u : Value} {x : List Int} (h : OwnSS w lo hi (.slice (some ⟨g, 0, none⟩) X.length cap) X) {k : Nat} (hk : k < X.length) (hr : Row w M M' 3 u (ivs x)) (hM : hi ≤ M) (hM' : M ≤ M') (hlo : lo ≤ hi) :
    OwnSS (w.setCell ⟨g, k, none⟩ u) lo M' (.slice (some ⟨g, 0, none⟩) X.length cap) (X.set k x) := by
  obtain ⟨F, h1, h2, h3⟩ := h
  obtain ⟨F', k1, k2, k3⟩ := Row.owns hr
  obtain ⟨F2, c1, c2, c3⟩ := RowsR.store1 (IntsR.frames _ _) h1 hk k1 (fun b hb hin => by have := (h3 b hin).2; have := (k3 b hb).1; omega) k2 rfl
  refine ⟨F2, c1, c2, fun b hb => ?_⟩
  rcases c3 b hb with hb | hb
  · have := h3 b hb; omega
  · have := k3 b hb; omega
end
theorem set_mixG {α : Type} (xs ys : List α) (k : Nat) (u : α) (hk : k < xs.length) (hl : ys.length = xs.length) (hu : xs[k]? = some u) :
    (xs.take k ++ ys.drop k).set k u = xs.take (k + 1) ++ ys.drop (k + 1) := by
  have h1 : (xs.take k).length = k := by simp; omega
  rw [List.set_append, h1, if_neg (by omega), Nat.sub_self, List.drop_eq_getElem_cons (show k < ys.length by omega)]
  rw [List.getElem?_eq_getElem hk] at hu
  injection hu with hu
  rw [List.set_cons_zero, List.take_succ_eq_append_getElem hk, hu, List.append_assoc]; rfl
theorem mix_len {α : Type} (xs ys : List α) (k : Nat) (hl : ys.length = xs.length) : (xs.take k ++ ys.drop k).length = xs.length := by simp; omega
theorem mix_at {α : Type} (xs ys : List α) (k : Nat) (hk : k < ys.length) (hx : k ≤ xs.length) (h : k < (xs.take k ++ ys.drop k).length) : (xs.take k ++ ys.drop k)[k] = ys[k] := by
  have h1 : (xs.take k).length = k := by simp; omega
  rw [List.getElem_append_right (by omega)]
  simp [h1]
def FreshSS (X : List (List Int)) (w : World) (e : Ending) (w' : World) : Prop :=
  ∃ v, e = .returned v ∧ OwnSS w' w.heap.size w'.heap.size v X ∧ Below w.heap.size w w'
set_option maxHeartbeats 1600000 in
theorem toIntSS_any {w : World} {A : Option Addr} {n c : Nat} {X : List (List Int)} (hl : Hid (X.length = n)) (hn : n ≤ 1099511627776) (hs : Hid (∀ x ∈ X, x.length ≤ 1099511627776)) (hr : RdSS w w.heap.size A X) :
    Calls Try.prog 17 #[.slice A n c] w (FreshSS X w) := by
  obtain ⟨i0, hi, hz0, hz1, hz2⟩ := info_parts IntSS_info
  go_enter Try.func17, Try.ntmps17
  go_wp2_with (first | (at_make; refine wpList_make_full _ rfl _ _ 22 rfl w.heap.size 45 i0 _ 1 Try.underlying22 hi hz0 hz1 _ _ _ _ n rfl rfl rfl rfl (by rw [hz2]; omega) (by unfold maxLen; omega) (Nat.le_refl _) ?_; intro w1 hown1 hg1))
  have hb1 : Below w.heap.size w w1 := (Below.refl _ _).grown hg1 (Nat.le_refl _) (by simp)
  have hsz := (hown1.lt w.heap.size rfl).2
  have hown2 : w1.ownsRow w.heap.size 45 1 (.slice (some ⟨w.heap.size, 0, none⟩) n n) n (List.replicate n (.slice none 0 0)) := by
    have e1 : (madeCells (Value.slice none 0 0).cells (n * 1)).toList = List.replicate n (.slice none 0 0) := by
      rw [Nat.mul_one]; exact toList_madeCells_one _ _
    rw [← e1]; exact hown1
  have hss : OwnSS w1 w.heap.size w1.heap.size (.slice (some ⟨w.heap.size, 0, none⟩) n n) (List.replicate n []) :=
    ⟨[w.heap.size], RowsR.made1 hown2 ⟨_, rfl, by simpa using World.ownsRow_nil w1 0 3 1, rfl⟩, by simp, by simp; omega⟩
  have HO := Lib.hid hss
  clear hown1 hown2 hss
  go_loopw [4] (fun i wr => ∃ k : Nat, k ≤ n ∧ i = .int .i64 k ∧ Below w.heap.size w wr ∧ w.heap.size < wr.heap.size ∧ OwnSS wr w.heap.size wr.heap.size (.slice (some ⟨w.heap.size, 0, none⟩) n n) (X.take k ++ (List.replicate n []).drop k)) (fun i _ => n - (intOf i).toNat)
  case atStart => exact ⟨0, Nat.zero_le _, rfl, hb1, hsz, by simpa using HO.out⟩
  case round =>
    obtain ⟨k, hk, rfl, hb, hsz2, hown⟩ := hrel
    have hrl : (List.replicate n ([] : List Int)).length = X.length := by rw [List.length_replicate, hl.out]
    have hml : (X.take k ++ (List.replicate n []).drop k).length = n := by rw [mix_len _ _ _ hrl, hl.out]
    have HR := Lib.hid hrl
    have HM := Lib.hid hml
    clear hrl hml
    by_cases hlt : k < n
    · have hkz : k < X.length := by rw [hl.out]; exact hlt
      obtain ⟨ad, Aj, cj, rfl, hab, hc, hcl, hcm, hrd⟩ := (hr.below hb).at_ hkz
      have hm := Lib.hid (set_mixG X (List.replicate n []) k X[k] hkz HR.out (List.getElem?_eq_getElem hkz))
      have hxl := hs.out X[k] (List.getElem_mem _)
      obtain ⟨x, hx⟩ : ∃ x, x = X[k] := ⟨_, rfl⟩
      rw [← hx] at hc hrd hxl hm
      have hs1 := hb.size
      obtain ⟨L, hL⟩ : ∃ L, L = X.take k ++ (List.replicate n []).drop k := ⟨_, rfl⟩
      rw [← hL] at hown hm HM
      obtain rfl : L.length = n := HM.out
      have hrd2 := hrd.more hs1
      clear hx hL hcl hcm hrd HO
      go_wp2_with (first
        | (go_at_call 59; refine (toIntS_any (Lib.hid rfl) (by omega) hrd2).mono ?_; rintro e w2 ⟨v1, rfl, hrow, hb2⟩; obtain ⟨A9, c9, rfl, _, _, _⟩ := hrow.rd (ivs_len x); have hown2 := hown.new hb2; obtain ⟨g, cap, u, a, b, q1, q2, q3, _, _, _, _⟩ := hown2.elem (k := k) hlt; obtain ⟨rfl, rfl⟩ : g = w.heap.size ∧ cap = L.length := (by injection q1 with q1 _ q3; injection q1 with q1; injection q1 with q1; exact ⟨q1.symm, q3.symm⟩)))
      go_roundw
      case rel => exact ⟨k + 1, by omega, by go_num, (hb.trans (hb2.mono hs1)).setCell (Nat.le_refl _) _, by have := hb2.size; simp; omega, by rw [← hm.out]; simpa using hown2.store hlt hrow (Nat.le_refl _) hb2.size (by omega)⟩
      case measure => simp [intOf]; omega
    · have e : k = n := by omega
      subst e
      have H5 := Lib.hid hown
      clear hown
      go_wp2
      go_ret
      have ho := H5.out
      rw [List.take_of_length_le (by rw [hl.out]; omega), List.drop_eq_nil_of_le (by simp), List.append_nil] at ho
      exact ⟨.slice (some ⟨w.heap.size, 0, none⟩) k k, rfl, ho, hb⟩
theorem quiet_addQ {P : Program} {f : FuncId} {args : Array Value} {w : World} {a n : Nat} {v : Value} (h : ∀ m, Calls P f args (w.drewN m) fun e w' => e = .returned v ∧ ∃ m', w' = (w.drewN m).drewN m') :
    Calls P f args (w.drewN (a + n)) fun e w'' => e = .returned v ∧ ∃ m, w'' = w.drewN (a + m) :=
  (h (a + n)).mono fun _ _ ⟨he, m, hm⟩ => ⟨he, n + m, by rw [hm, World.drewN_drewN, Nat.add_assoc]⟩
theorem quiet_Q {P : Program} {f : FuncId} {args : Array Value} {w : World} {n : Nat} {v : Value} (h : ∀ m, Calls P f args (w.drewN m) fun e w' => e = .returned v ∧ ∃ m', w' = (w.drewN m).drewN m') :
    Calls P f args (w.drewN n) fun e w'' => e = .returned v ∧ ∃ m, w'' = w.drewN m :=
  (h n).mono fun _ _ ⟨he, m, hm⟩ => ⟨he, n + m, by rw [hm, World.drewN_drewN]⟩
set_option maxHeartbeats 1600000 in
theorem eqIntSS_q {w : World} {A A' : Option Addr} {n c n' c' : Nat} {X Y : List (List Int)} (hl : Hid (X.length = n)) (hl' : Hid (Y.length = n')) (hn : n ≤ 1099511627776) (hs : Hid (∀ x ∈ X, x.length ≤ 1099511627776)) (hs' : Hid (∀ x ∈ Y, x.length ≤ 1099511627776)) (hn' : n' ≤ 1099511627776)
    (hr : RdSS w w.heap.size A X) (hr' : RdSS w w.heap.size A' Y) :
    Calls Try.prog 19 #[.slice A n c, .slice A' n' c'] w (TellsQ (decide (X = Y)) w) := by
  by_cases hne : n = n'
  · subst hne
    go_enter Try.func19, Try.ntmps19
    go_wp2
    go_loopw [5] (fun i wr => ∃ k q : Nat, k ≤ n ∧ i = .int .i64 k ∧ wr = w.drewN q ∧ X.take k = Y.take k) (fun i _ => n - (intOf i).toNat)
    case atStart => exact ⟨0, 0, Nat.zero_le _, rfl, rfl, rfl⟩
    case round =>
      obtain ⟨k, q, hk, rfl, rfl, heq⟩ := hrel
      have HE := Lib.hid heq
      clear heq
      by_cases hlt : k < n
      · have hkz : k < X.length := by rw [hl.out]; exact hlt
        have hky : k < Y.length := by rw [hl'.out]; exact hlt
        obtain ⟨ad, Aj, cj, rfl, hab, hc, _, _, hrd⟩ := hr.at_ hkz
        obtain ⟨ad', Aj', cj', rfl, hab', hc', _, _, hrd'⟩ := hr'.at_ hky
        have b1 := hs.out X[k] (List.getElem_mem _)
        have b2 := hs'.out Y[k] (List.getElem_mem _)
        have HC0 : ∀ m, Calls Try.prog 38 #[.slice Aj X[k].length cj, .slice Aj' Y[k].length cj'] (w.drewN m) (TellsQ (decide (X[k] = Y[k])) (w.drewN m)) :=
          fun m => eqIntS_q (w := w.drewN m) (Lib.hid rfl) (Lib.hid rfl) (by omega) (by omega) hrd hrd'
        by_cases hv : X[k] = Y[k]
        · have HC := Lib.hid (show ∀ m, Calls Try.prog 38 #[.slice Aj X[k].length cj, .slice Aj' Y[k].length cj'] (w.drewN m) (fun e w' => e = .returned (.bool true) ∧ ∃ m', w' = (w.drewN m).drewN m') from fun m => by
            have h := HC0 m; rw [decide_eq_true hv] at h; exact h)
          have HV := Lib.hid hv
          clear hv HC0 hrd hrd' hab hab'
          go_wp2
          go_quiet ((go_at_call 38; first | exact quiet_Q HC.out | exact quiet_addQ HC.out))
          go_wp2
          go_roundw
          case rel => exact ⟨k + 1, _, by omega, by go_num, rfl, by rw [List.take_succ_eq_append_getElem hkz, List.take_succ_eq_append_getElem hky, HE.out, HV.out]⟩
          case measure => simp [intOf]; omega
        · have HC := Lib.hid (show ∀ m, Calls Try.prog 38 #[.slice Aj X[k].length cj, .slice Aj' Y[k].length cj'] (w.drewN m) (fun e w' => e = .returned (.bool false) ∧ ∃ m', w' = (w.drewN m).drewN m') from fun m => by
            have h := HC0 m; rw [decide_eq_false hv] at h; exact h)
          have HV := Lib.hid hv
          clear hv HC0 hrd hrd' hab hab'
          go_wp2
          go_quiet ((go_at_call 38; first | exact quiet_Q HC.out | exact quiet_addQ HC.out))
          go_wp2
          go_ret
          refine ⟨ret_b ?_, q + nq, World.drewN_drewN _ _ _⟩
          symm
          simp only [decide_eq_false_iff_not]
          rintro rfl
          exact HV.out rfl
      · have e : k = n := by omega
        subst e
        go_wp2
        go_ret
        refine ⟨ret_b ?_, q, rfl⟩
        have h1 := HE.out
        rw [List.take_of_length_le (by rw [hl.out]; omega), List.take_of_length_le (by rw [hl'.out]; omega)] at h1
        simp [h1]
  · have hne' : ¬ (n : Int) = n' := by omega
    go_enter Try.func19, Try.ntmps19
    go_wp2
    go_ret
    refine ⟨ret_b ?_, 0, rfl⟩
    symm
    simp only [decide_eq_false_iff_not]
    rintro rfl
    exact hne (hl.out.symm.trans hl'.out)
/-- How many integers the first k slices hold. -/
def psum (X : List (List Int)) (k : Nat) : Nat := ((X.take k).map List.length).sum
theorem psum_succ (X : List (List Int)) (k : Nat) (h : k < X.length) : psum X (k + 1) = psum X k + X[k].length := by
  unfold psum
  rw [List.take_succ_eq_append_getElem h, List.map_append, List.sum_append]; simp
theorem psum_zero (X : List (List Int)) : psum X 0 = 0 := rfl
theorem psum_mono (X : List (List Int)) : ∀ (j k : Nat), j ≤ k → psum X j ≤ psum X k := by
  intro j k h
  induction k with
  | zero => have : j = 0 := by omega
            subst this; exact Nat.le_refl _
  | succ k ih =>
    rcases Nat.lt_or_ge k X.length with hk | hk
    · rcases Nat.lt_or_ge j (k + 1) with hj | hj
      · have := ih (by omega); rw [psum_succ X k hk]; omega
      · have : j = k + 1 := by omega
        subst this; exact Nat.le_refl _
    · rcases Nat.lt_or_ge j (k + 1) with hj | hj
      · have := ih (by omega)
        have e : psum X (k + 1) = psum X k := by unfold psum; rw [List.take_of_length_le (by omega), List.take_of_length_le (by omega)]
        omega
      · have : j = k + 1 := by omega
        subst this; exact Nat.le_refl _
theorem psum_mem (X : List (List Int)) (x : List Int) (hx : x ∈ X) : x.length ≤ psum X X.length := by
  obtain ⟨i, hi⟩ := List.getElem?_of_mem hx
  obtain ⟨h1, h2⟩ := List.getElem?_eq_some_iff.1 hi
  have := psum_succ X i h1
  have h3 := psum_mono X (i + 1) X.length h1
  rw [h2] at this
  omega
/-- What markIntSS writes. -/
def smks (q : Int) (X : List (List Int)) : List (List Int) := (List.range X.length).map fun (i : Nat) => imks (q + (psum X i : Int)) (X.getD i []).length
theorem smks_len (q : Int) (X : List (List Int)) : (smks q X).length = X.length := by simp [smks]
theorem smks_get (q : Int) (X : List (List Int)) (k : Nat) (h : k < X.length) : (smks q X)[k]? = some (imks (q + (psum X k : Int)) X[k].length) := by
  simp [smks, h, List.getD]
theorem smks_mem (q : Int) (X : List (List Int)) {B : Nat} (h : ∀ x ∈ X, x.length ≤ B) : ∀ x ∈ smks q X, x.length ≤ B := by
  intro x hx
  obtain ⟨i, hi⟩ := List.getElem?_of_mem hx
  have hil : i < X.length := by rw [← smks_len q X]; exact (List.getElem?_eq_some_iff.1 hi).1
  rw [smks_get q X i hil] at hi
  injection hi with hi
  rw [← hi, imks_len]
  exact h _ (List.getElem_mem _)
def MarkedSS (q : Int) (lo hi : Nat) (v : Value) (X : List (List Int)) (w : World) (e : Ending) (w' : World) : Prop :=
  e = .returned (.int .i64 q) ∧ OwnSS w' lo hi v X ∧ Out lo hi w w'
end Go.Proofs.Ythkigilegnjglaa

/- Contracts of the smallest functions of chapter 1 (InRange, Min, Max, CeilDiv, Mod) and of their models: each returns the integer or truth value that a plain Lean function names, for every input. No conditions. -/
namespace Go.Proofs.Ythkigilegnjglaa
open Go.ChangeShapes Go.WideShapes Go.ChangeAt Go.RowKit
def mn (a b : Int) : Int := if b < a then b else a
def mx (a b : Int) : Int := if b > a then b else a
theorem mn_t {a b : Int} (h : b < a) : mn a b = b := if_pos h
theorem mn_f {a b : Int} (h : ¬ b < a) : mn a b = a := if_neg h
theorem mx_t {a b : Int} (h : b < a) : mx a b = a := if_neg (by omega)
theorem mx_f {a b : Int} (h : ¬ b < a) : mx a b = b := by unfold mx; split <;> omega
theorem extreme_min (a b : Int) (w : World) (B : Nat) (hc : w.cell? ⟨B, 0, none⟩ = some (.int .i64 b)) :
    Calls Try.prog 129 #[.bool true, .int .i64 a, .slice (some ⟨B, 0, none⟩) 1 1] w fun e w' => e = .returned (.int .i64 (mn a b)) ∧ w = w' := by
  by_cases h : b < a
  all_goals
    first | (have hd : decide (b < a) = true := by simpa using h) | (have hd : decide (b < a) = false := by simpa using h)
    first | (have H := mn_t h) | (have H := mn_f h)
    have HH := Lib.hid H
    clear H
    go_enter Try.func129, Try.ntmps129
    go_wp2
    refine wp_loop_rounds 2 ?_
    rw [rounds_succ]
    go_wp2
    rw [rounds_succ]
    go_wp2
    go_ret
    exact ⟨ret_i (HH.out).symm, rfl⟩
theorem extreme_max (a b : Int) (w : World) (B : Nat) (hc : w.cell? ⟨B, 0, none⟩ = some (.int .i64 b)) :
    Calls Try.prog 129 #[.bool false, .int .i64 a, .slice (some ⟨B, 0, none⟩) 1 1] w fun e w' => e = .returned (.int .i64 (mx a b)) ∧ w = w' := by
  by_cases h : b < a
  all_goals
    first | (have hd : decide (b < a) = true := by simpa using h) | (have hd : decide (b < a) = false := by simpa using h)
    first | (have H := mx_t h) | (have H := mx_f h)
    have HH := Lib.hid H
    clear H
    go_enter Try.func129, Try.ntmps129
    go_wp2
    refine wp_loop_rounds 2 ?_
    rw [rounds_succ]
    go_wp2
    rw [rounds_succ]
    go_wp2
    go_ret
    exact ⟨ret_i (HH.out).symm, rfl⟩
theorem max_any (a b : Int) (w : World) :
    Calls Try.prog 100 #[.int .i64 a, .int .i64 b] w fun e w' => e = .returned (.int .i64 (mx a b)) ∧ w.alloc (Obj.cells #[Value.int IntKind.i64 b] 3) = w' := by
  go_enter Try.func100, Try.ntmps100
  go_wp2_with (go_at_call 129; refine (extreme_max a b _ w.heap.size (by simp)).mono ?_; rintro e w' ⟨rfl, rfl⟩)
  go_ret
  exact ⟨rfl, rfl⟩
theorem smax_any (a b : Int) (w : World) :
    Calls Try.prog 99 #[.int .i64 a, .int .i64 b] w fun e w' => e = .returned (.int .i64 (mx a b)) ∧ w = w' := by
  rcases Int.lt_trichotomy a b with h | h | h
  all_goals
    first | (have H : mx a b = a := by unfold mx; split <;> omega) | (have H : mx a b = b := by unfold mx; split <;> omega)
    have HH := Lib.hid H
    clear H
    have h1 : a < b ∨ b ≤ a := by omega
    clear h
    rcases h1 with h1 | h1
    all_goals
      go_enter Try.func99, Try.ntmps99
      go_wp2
      go_ret
      exact ⟨ret_i (by have := HH.out; unfold mx at this ⊢; split <;> omega), rfl⟩
def inr (n lo hi : Int) : Bool := decide (lo ≤ n) && decide (n ≤ hi)
theorem inr_t {n lo hi : Int} (h1 : lo ≤ n) (h2 : n ≤ hi) : inr n lo hi = true := by simp [inr, h1, h2]
theorem inr_f {n lo hi : Int} (h : n < lo ∨ hi < n) : inr n lo hi = false := by
  rcases h with h | h <;> simp [inr] <;> omega
theorem inRange_any (n lo hi : Int) (w : World) :
    Calls Try.prog 89 #[.int .i64 n, .int .i64 lo, .int .i64 hi] w fun e w' => e = .returned (.bool (inr n lo hi)) ∧ w = w' := by
  by_cases h1 : lo ≤ n
  · have d1 : decide (lo ≤ n) = true := by simpa using h1
    go_enter Try.func89, Try.ntmps89
    go_wp2
    all_goals go_ret
    all_goals exact ⟨ret_b (by simp [inr, h1]), rfl⟩
  · have d1 : decide (lo ≤ n) = false := by simpa using h1
    go_enter Try.func89, Try.ntmps89
    go_wp2
    all_goals go_ret
    all_goals exact ⟨ret_b (by simp [inr]; omega), rfl⟩
theorem l1In_any (n lo hi : Int) (w : World) :
    Calls Try.prog 71 #[.int .i64 n, .int .i64 lo, .int .i64 hi] w fun e w' => e = .returned (.bool (inr n lo hi)) ∧ w = w' := by
  by_cases h1 : lo ≤ n
  · have d1 : decide (lo ≤ n) = true := by simpa using h1
    go_enter Try.func71, Try.ntmps71
    go_wp2
    all_goals go_ret
    all_goals exact ⟨ret_b (by simp [inr, h1]), rfl⟩
  · have d1 : decide (lo ≤ n) = false := by simpa using h1
    go_enter Try.func71, Try.ntmps71
    go_wp2
    all_goals go_ret
    all_goals exact ⟨ret_b (by simp [inr]; omega), rfl⟩
def cdiv (a b : Int) : Int := if inr a 0 1000000000000 && inr b 1 1000000000000 then (a + b - 1) / b else 0
def md (p q : Int) : Int := if inr q 1 1000000000000 then p % q else 0
theorem tmod_fix {p q : Int} (hq : 0 < q) : (p.tmod q < 0 → p.tmod q + q = p % q) ∧ (0 ≤ p.tmod q → p.tmod q = p % q) := by
  have h1 := Int.emod_nonneg p (show q ≠ 0 by omega)
  have h2 := Int.emod_lt_of_pos p hq
  rw [Int.tmod_eq_emod]
  split <;> constructor <;> intro h <;> omega
theorem smod_eq {p q : Int} (e2 : inr q 1 1000000000000 = true) (hq : 0 < q) : (p.tmod q + q) % q = md p q := by
  obtain ⟨f1, f2⟩ := tmod_fix (p := p) hq
  rw [Int.add_emod_right]
  simp only [md, e2, if_true]
  by_cases h : p.tmod q < 0
  · rw [← f1 h, ← Int.add_emod_right (p.tmod q) q]
    have := f1 h
    rw [this, Int.emod_emod]
  · rw [f2 (by omega), Int.emod_emod]
end Go.Proofs.Ythkigilegnjglaa
