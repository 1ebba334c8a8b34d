/- Making, storing into and appending to rows whose elements own memory (the words of XDeep), over any program. No conditions but the machine's bound on bytes. -/
import Derived.Test.YteffhbboeacogaaDeep
namespace Go.Proofs.Yteffhbboeacogaa
open Go.ChangeShapes Go.WideShapes Go.ChangeAt Go.RowKit
section
variable {X : Type} {R : World → List Nat → List Value → X → Prop} {e : TypeId} {size : Nat} {w w' : World} {F F' : List Nat} {cs : List Value} {l : List X}
theorem RowsR.nil_ : RowsR e size R w [] [.slice none 0 0] [] :=
  ⟨_, [], rfl, rfl, by simpa using World.ownsRow_nil w 0 e size, rfl, by simp, by simp, by simp⟩
theorem rep_flat2 (n : Nat) (z : Value) : (List.replicate n (([] : List Nat), [z])).flatMap (·.2) = List.replicate n z := by
  induction n with
  | zero => rfl
  | succ n ih => simp only [List.replicate_succ, List.flatMap_cons, ih]; rfl
theorem rep_flat1 (n : Nat) (z : Value) : (List.replicate n (([] : List Nat), [z])).flatMap (·.1) = [] := by
  induction n with
  | zero => rfl
  | succ n ih => simp only [List.replicate_succ, List.flatMap_cons, ih]; rfl
theorem RowsR.made1 {base g n : Nat} {z : Value} {x0 : X} (h : w.ownsRow base e 1 (.slice (some ⟨g, 0, none⟩) n n) n (List.replicate n z)) (hz : R w [] [z] x0) :
    RowsR e 1 R w [g] [.slice (some ⟨g, 0, none⟩) n n] (List.replicate n x0) := by
  have e1 := rep_flat2 n z
  refine ⟨_, List.replicate n ([], [z]), rfl, by simp, ?_, ?_, by simp, ?_, ?_⟩
  · rw [e1, List.length_replicate]
    refine ⟨h.1, ?_⟩
    rcases h.2 with hn | ⟨g', cap, cur, h1, hb, rest⟩
    · exact .inl hn
    · exact .inr ⟨g', cap, cur, h1, Nat.zero_le _, rest⟩
  · rw [rep_flat1]; rfl
  · intro p hp
    rw [(List.mem_replicate.1 hp).2]; rfl
  · intro i p x hp hx
    rw [List.getElem?_replicate] at hp hx
    split at hp
    · injection hp with hp
      rename_i hlt
      rw [if_pos hlt] at hx
      injection hx with hx
      rw [← hp, ← hx]; exact hz
    · cases hp
theorem flat1_set {es : List (List Nat × List Value)} (h : ∀ p ∈ es, p.2.length = 1) (i : Nat) (F' : List Nat) (u : Value) : (es.set i (F', [u])).flatMap (·.2) = (es.flatMap (·.2)).set i u := by
  induction es generalizing i with
  | nil => simp
  | cons q es ih =>
    have h1 := h q (by simp)
    obtain ⟨a, ha⟩ : ∃ a, q.2 = [a] := List.length_eq_one_iff.1 h1
    cases i with
    | zero => simp [ha]
    | succ i =>
      have := ih (fun q hq => h q (List.mem_cons_of_mem _ hq)) i
      simp [ha, this]
theorem mem_set_flat {es : List (List Nat × List Value)} {i : Nat} {p : List Nat × List Value} {b : Nat} (h : b ∈ (es.set i p).flatMap (·.1)) : b ∈ es.flatMap (·.1) ∨ b ∈ p.1 := by
  obtain ⟨q, hq, hb⟩ := List.mem_flatMap.1 h
  rcases List.mem_or_eq_of_mem_set hq with hq | rfl
  · exact .inl (List.mem_flatMap.2 ⟨q, hq, hb⟩)
  · exact .inr hb
theorem nodup_set : ∀ {es : List (List Nat × List Value)} {i : Nat} {p : List Nat × List Value}, (es.flatMap (·.1)).Nodup → p.1.Nodup → (∀ b ∈ p.1, b ∉ es.flatMap (·.1)) → ((es.set i p).flatMap (·.1)).Nodup
  | [], i, p, _, _, _ => by simp
  | q :: es, 0, p, h, hp, hd => by
    rw [List.set_cons_zero, List.flatMap_cons]
    rw [List.flatMap_cons] at h
    refine List.nodup_append.2 ⟨hp, (List.nodup_append.1 h).2.1, fun a ha b hb hab => ?_⟩
    subst hab
    exact hd a ha (by rw [List.flatMap_cons]; exact List.mem_append_right _ hb)
  | q :: es, i + 1, p, h, hp, hd => by
    rw [List.set_cons_succ, List.flatMap_cons]
    rw [List.flatMap_cons] at h
    obtain ⟨h1, h2, h3⟩ := List.nodup_append.1 h
    refine List.nodup_append.2 ⟨h1, nodup_set h2 hp (fun b hb hin => hd b hb (by rw [List.flatMap_cons]; exact List.mem_append_right _ hin)), fun a ha b hb hab => ?_⟩
    subst hab
    rcases mem_set_flat hb with hb | hb
    · exact h3 a ha a hb rfl
    · exact hd a hb (by rw [List.flatMap_cons]; exact List.mem_append_left _ ha)
theorem RowsR.store1 (hR : Frames R) (h : RowsR e 1 R w F cs l) {i : Nat} (hi : i < l.length) {u : Value} {x : X} (hx : R w F' [u] x) (hd : ∀ b ∈ F', b ∉ F) (hn : F'.Nodup) {g cap : Nat} (hv : cs = [.slice (some ⟨g, 0, none⟩) l.length cap]) :
    ∃ F2, RowsR e 1 R (w.setCell ⟨g, i, none⟩ u) F2 cs (l.set i x) ∧ (F2.Nodup ∧ ∀ b ∈ F2, b ∈ F ∨ b ∈ F') := by
  obtain ⟨v, es, h1, h2, h3, h4, h5, h6, h7⟩ := h
  have hvv : v = .slice (some ⟨g, 0, none⟩) l.length cap := by rw [h1] at hv; simpa using hv
  subst hvv
  have hown : (Value.slice (some ⟨g, 0, none⟩) l.length cap).ownBlock.toList = [g] := rfl
  rw [hown] at h4
  have hgF : g ∈ F := by rw [h4]; simp
  rw [h4] at h5
  obtain ⟨n1, n2, n3⟩ := List.nodup_append.1 h5
  have hF2 : ([g] ++ (es.set i (F', [u])).flatMap (·.1)).Nodup := by
    refine List.nodup_append.2 ⟨n1, nodup_set n2 hn (fun b hb hin => hd b hb (by rw [h4]; exact List.mem_append_right _ hin)), fun a ha b hb hab => ?_⟩
    subst hab
    have hag : a = g := by simpa using ha
    subst hag
    rcases mem_set_flat hb with hb | hb
    · exact n3 a (by simp) a hb rfl
    · exact hd a hb hgF
  have hfar : ∀ b, b ≠ g → (w.setCell ⟨g, i, none⟩ u).heap[b]? = w.heap[b]? := fun b hb => heap_setCell_other w ⟨g, i, none⟩ b u hb
  refine ⟨[g] ++ (es.set i (F', [u])).flatMap (·.1), ⟨_, es.set i (F', [u]), h1, by simp [h2], ?_, rfl, hF2, fun p hp => ?_, fun k p y hkp hky => ?_⟩, hF2, fun b hb => ?_⟩
  · rw [flat1_set h6, List.length_set]
    exact (h3.stored i u).1
  · rcases List.mem_or_eq_of_mem_set hp with hp | rfl
    · exact h6 p hp
    · rfl
  · rcases Nat.decEq k i with hne | rfl
    · rw [List.getElem?_set_ne (by omega)] at hkp hky
      refine hR.keep (h7 k p y hkp hky) (fun b hb => hfar b (fun hbg => ?_))
      subst hbg
      exact n3 b (by simp) b (mem_flat1 hkp hb) rfl
    · rw [List.getElem?_set_self (by omega)] at hkp hky
      injection hkp with hkp
      injection hky with hky
      subst hkp
      subst hky
      exact hR.keep hx (fun b hb => hfar b (fun hbg => hd b hb (by rw [hbg]; exact hgF)))
  · rw [List.mem_append] at hb
    rcases hb with hb | hb
    · left; rw [h4]; exact List.mem_append_left _ hb
    · rcases mem_set_flat hb with hb | hb
      · left; rw [h4]; exact List.mem_append_right _ hb
      · exact .inr hb
variable {P : Program}
theorem run_appR (hR : Frames R) (t ty : TypeId) (i : TypeInfo) (z : Value) (bytes : Nat) (ht : P.underlying t = some (.slice e)) (hi : P.info? e = some i) (hz : i.zero = some z) (hsize : i.size = size) (hby : i.bytes = bytes) (hzs : z.cells.size = size) (hs0 : 0 < size)
    {L M M' B c : Nat} {v : Value} {us : List Value} {x : X} {ad : Addr} (h : Owns (RowsR e size R) w L M [v] l) (hx : Owns R w M M' us x) (hus : us.length = size) (hr : Rd w B (some ad) us) (h1 : ∀ u ∈ us, u.oneCell' = true)
    (hLM : L ≤ M) (h63 : l.length + 1 ≤ maxLen) (hbytes : (l.length + 1) * bytes ≤ 140737488355328) (hL : L ≤ w.heap.size) :
    ∃ v' w', (Builtin.append_ #[t, t] ty #[v, .slice (some ad) 1 c]).run P w = .ok v' w' ∧ Owns (RowsR e size R) w' L w'.heap.size [v'] (l ++ [x]) ∧ Below L w w' := by
  obtain ⟨F, hrow, hFn, hF⟩ := h
  obtain ⟨F', hx1, hFn', hF'⟩ := hx
  have hlt := (RowsR.frames hR (e := e) (size := size)).lt hrow
  have hlt' := hR.lt hx1
  obtain ⟨v0, es, a1, a2, a3, a4, a5, a6, a7⟩ := hrow
  have hvv : v = v0 := by simpa using a1
  subst hvv
  have hcells : ∀ j u, us[j]? = some u → w.cell? (ad.add j) = some u := fun j u hu => by
    obtain ⟨ad', e1, _, hc⟩ := hr j u hu
    injection e1 with e1
    subst e1
    exact hc
  obtain ⟨v', w', hrun, b1, b2, _, b4⟩ := run_append_own_at (P := P) w 0 t ty e i z size bytes ht hi hz hsize hby hzs hs0 v l.length _ a3 ad 1 c us (by rw [hus]; omega) hcells h1 h63 hbytes (Nat.zero_le _)
  have hne : ∀ b ∈ es.flatMap (·.1), v.ownBlock ≠ some b := fun b hb hv => by
    rw [a4, hv] at a5
    exact (List.nodup_append.1 a5).2.2 b (by simp) b hb rfl
  have hkeep : ∀ b, b < w.heap.size → v.ownBlock ≠ some b → w'.heap[b]? = w.heap[b]? := fun b hb hv => b2.block b hb (fun e => hv e.symm)
  have hFown : ∀ b ∈ v.ownBlock.toList, b ∈ F := fun b hb => by rw [a4]; exact List.mem_append_left _ hb
  have hv'lt : ∀ b ∈ v'.ownBlock.toList, L ≤ b ∧ b < w'.heap.size := fun b hb => by
    refine ⟨?_, own_lt b1 b hb⟩
    rcases b4 with b4 | b4
    · rw [b4] at hb; exact (hF b (hFown b hb)).1
    · rw [b4] at hb; simp at hb; omega
  have hv'no : ∀ b ∈ v'.ownBlock.toList, b ∉ es.flatMap (·.1) ∧ b ∉ F' := fun b hb => by
    rcases b4 with b4 | b4
    · rw [b4] at hb
      refine ⟨fun hin => ?_, fun hin => ?_⟩
      · refine hne b hin ?_
        cases hv : v.ownBlock with
        | none => rw [hv] at hb; simp at hb
        | some g => rw [hv] at hb; simp at hb; rw [hb]
      · have k1 := (hF b (hFown b hb)).2
        have k2 := (hF' b hin).1
        omega
    · rw [b4] at hb
      have hbs : b = w.heap.size := by simpa using hb
      refine ⟨fun hin => ?_, fun hin => ?_⟩
      · have := hlt b (by rw [a4]; exact List.mem_append_right _ hin); omega
      · have := hlt' b hin; omega
  have hsub : ∀ b ∈ es.flatMap (·.1), b ∈ F := fun b hb => by rw [a4]; exact List.mem_append_right _ hb
  have hnd : (v'.ownBlock.toList ++ (es ++ [(F', us)]).flatMap (·.1)).Nodup := by
    rw [List.flatMap_append, List.flatMap_singleton]
    refine List.nodup_append.2 ⟨by cases v'.ownBlock <;> simp, List.nodup_append.2 ⟨(List.nodup_append.1 (a4 ▸ a5)).2.1, hFn', fun a ha b hb hab => ?_⟩, fun a ha b hb hab => ?_⟩
    · subst hab
      have k1 := (hF a (hsub a ha)).2
      have k2 := (hF' a hb).1
      omega
    · subst hab
      rw [List.mem_append] at hb
      rcases hb with hb | hb
      · exact (hv'no a ha).1 hb
      · exact (hv'no a ha).2 hb
  refine ⟨v', w', hrun, ⟨v'.ownBlock.toList ++ (es ++ [(F', us)]).flatMap (·.1), ⟨v', es ++ [(F', us)], rfl, by simp [a2], ?_, rfl, hnd, fun p hp => ?_, fun k p y hkp hky => ?_⟩, hnd, fun b hb => ?_⟩, ⟨b2.os, b2.tape, b2.output, b2.size, fun b hb => hkeep b (by omega) (fun hv => ?_)⟩⟩
  · rw [List.flatMap_append, List.flatMap_singleton, List.length_append, List.length_singleton]; exact b1
  · rw [List.mem_append, List.mem_singleton] at hp
    rcases hp with hp | rfl
    · exact a6 p hp
    · exact hus
  · rcases Nat.lt_or_ge k es.length with hk | hk
    · rw [List.getElem?_append_left hk] at hkp
      rw [List.getElem?_append_left (by omega)] at hky
      exact hR.keep (a7 k p y hkp hky) (fun b hb => hkeep b (hlt b (hsub b (mem_flat1 hkp hb))) (hne b (mem_flat1 hkp hb)))
    · rw [List.getElem?_append_right hk] at hkp
      rw [List.getElem?_append_right (by omega)] at hky
      have hk0 : k - es.length = 0 := by
        rcases Nat.eq_zero_or_pos (k - es.length) with h0 | h0
        · exact h0
        · rw [List.getElem?_eq_none (by simp; omega)] at hkp; cases hkp
      have hk1 : k - l.length = 0 := by omega
      rw [hk0] at hkp
      rw [hk1] at hky
      simp at hkp hky
      subst hkp
      subst hky
      refine hR.keep hx1 (fun b hb => hkeep b (hlt' b hb) (fun hv => ?_))
      have k1 := (hF b (hFown b (by rw [hv]; simp))).2
      have k2 := (hF' b hb).1
      omega
  · rw [List.mem_append] at hb
    rcases hb with hb | hb
    · exact hv'lt b hb
    · rw [List.flatMap_append, List.flatMap_singleton, List.mem_append] at hb
      have hsz := b2.size
      rcases hb with hb | hb
      · have k1 := hF b (hsub b hb)
        have k2 := hlt b (hsub b hb)
        omega
      · have k1 := hF' b hb
        have k2 := hlt' b hb
        omega
  · have k1 := (hF b (hFown b (by rw [hv]; simp))).1
    omega
theorem wpList_appR {ops : Array Oper} {rest : List Oper} {o : Oper} {a : Act} {Q : Exit → Act → World → Prop} (hgd : o.guard = none) (s y : Operand) (t : TypeId)
    (ho : o.op = .call { callee := .builtin .append, args := #[s, y], argTypes := #[t, t] }) (hR : Frames R)
    (i : TypeInfo) (z : Value) (bytes : Nat) (ht : P.underlying t = some (.slice e)) (hi : P.info? e = some i) (hz : i.zero = some z) (hsize : i.size = size) (hby : i.bytes = bytes) (hzs : z.cells.size = size) (hs0 : 0 < size)
    {L M M' B c : Nat} {v : Value} {us : List Value} {x : X} {ad : Addr} (hs : a.eval s = v) (hy : a.eval y = .slice (some ad) 1 c) (h : Owns (RowsR e size R) w L M [v] l) (hx : Owns R w M M' us x) (hus : us.length = size) (hr : Rd w B (some ad) us) (h1 : ∀ u ∈ us, u.oneCell' = true)
    (hLM : L ≤ M) (h63 : l.length + 1 ≤ maxLen) (hbytes : (l.length + 1) * bytes ≤ 140737488355328) (hL : L ≤ w.heap.size)
    (K : ∀ v' w', Owns (RowsR e size R) w' L w'.heap.size [v'] (l ++ [x]) → Below L w w' → wpList P ops Q rest (a.put o.dst v') w') : wpList P ops Q (o :: rest) a w := by
  obtain ⟨v', w', hrun, h2, h3⟩ := run_appR (P := P) hR t o.type i z bytes ht hi hz hsize hby hzs hs0 (c := c) h hx hus hr h1 hLM h63 hbytes hL
  refine wpList_plain hgd fun K' hK' => ?_
  unfold Oper.wp
  simp [execOp, ho, resolve, invoke, builtin, hs, hy, hrun, Result.andThen]
  exact hK' _ _ (K v' w' h2 h3)
end
end Go.Proofs.Yteffhbboeacogaa
