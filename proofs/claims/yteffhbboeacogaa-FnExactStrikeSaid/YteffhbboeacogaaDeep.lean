/- Words for rows whose elements own memory too, over any program: RowsR (the value owns its row and all that its elements own, block by block), Owns (where all of it lies), RdRows (what is only read). No conditions. -/
import Derived.Test.YteffhbboeacogaaAppend
namespace Go.Proofs.Yteffhbboeacogaa
open Go.ChangeShapes Go.WideShapes Go.ChangeAt Go.RowKit
section
variable {X Y : Type}
theorem flat_len {es : List (List Nat × List Value)} {size : Nat} (h : ∀ p ∈ es, p.2.length = size) : (es.flatMap (·.2)).length = es.length * size := by
  induction es with
  | nil => simp
  | cons p es ih =>
    have h1 := h p (by simp)
    have h2 := ih (fun q hq => h q (List.mem_cons_of_mem _ hq))
    rw [List.flatMap_cons, List.length_append, h1, h2, List.length_cons, Nat.succ_mul]; omega
theorem flat_at {es : List (List Nat × List Value)} {size : Nat} (h : ∀ p ∈ es, p.2.length = size) (i j : Nat) (hj : j < size) {p : List Nat × List Value} (hp : es[i]? = some p) :
    (es.flatMap (·.2))[i * size + j]? = p.2[j]? := by
  induction es generalizing i with
  | nil => simp at hp
  | cons q es ih =>
    have h1 := h q (by simp)
    rw [List.flatMap_cons]
    cases i with
    | zero =>
      have : q = p := by simpa using hp
      subst this
      rw [List.getElem?_append_left (by omega)]; simp
    | succ i =>
      have := ih (fun q hq => h q (List.mem_cons_of_mem _ hq)) i (by simpa using hp)
      rw [List.getElem?_append_right (by rw [h1, Nat.succ_mul]; omega), ← this]
      congr 1
      rw [h1, Nat.succ_mul]; omega
theorem nodup_flat : ∀ {es : List (List Nat × List Value)}, (es.flatMap (·.1)).Nodup → ∀ {i k : Nat} {p q : List Nat × List Value}, es[i]? = some p → es[k]? = some q → i ≠ k → ∀ {b : Nat}, b ∈ p.1 → b ∈ q.1 → False
  | [], _, _, _, _, _, hp, _, _, _, _, _ => by simp at hp
  | r :: es, h, i, k, p, q, hp, hq, hne, b, hb, hc => by
    rw [List.flatMap_cons] at h
    obtain ⟨_, h2, h3⟩ := List.nodup_append.1 h
    cases i with
    | zero =>
      cases k with
      | zero => exact hne rfl
      | succ k =>
        have : r = p := by simpa using hp
        subst this
        exact h3 b hb b (List.mem_flatMap.2 ⟨q, List.mem_of_getElem? (show es[k]? = some q by simpa using hq), hc⟩) rfl
    | succ i =>
      cases k with
      | zero =>
        have : r = q := by simpa using hq
        subst this
        exact h3 b hc b (List.mem_flatMap.2 ⟨p, List.mem_of_getElem? (show es[i]? = some p by simpa using hp), hb⟩) rfl
      | succ k => exact nodup_flat h2 (i := i) (k := k) (by simpa using hp) (by simpa using hq) (by omega) hb hc
/-- The value owns its row (of element type e, size cells each) and what its elements own; F lists the blocks. -/
def RowsR (e : TypeId) (size : Nat) (R : World → List Nat → List Value → X → Prop) (w : World) (F : List Nat) (cs : List Value) (l : List X) : Prop :=
  ∃ (v : Value) (es : List (List Nat × List Value)), cs = [v] ∧ es.length = l.length ∧ w.ownsRow 0 e size v l.length (es.flatMap (·.2)) ∧ F = v.ownBlock.toList ++ es.flatMap (·.1) ∧ F.Nodup ∧
    (∀ p ∈ es, p.2.length = size) ∧ ∀ (i : Nat) (p : List Nat × List Value) (x : X), es[i]? = some p → l[i]? = some x → R w p.1 p.2 x
/-- What a relation between memory and a datum keeps: it hangs on the blocks of F alone, and they are there. -/
structure Frames (R : World → List Nat → List Value → X → Prop) : Prop where
  keep : ∀ {w w' : World} {F : List Nat} {cs : List Value} {x : X}, R w F cs x → (∀ b ∈ F, w'.heap[b]? = w.heap[b]?) → R w' F cs x
  lt : ∀ {w : World} {F : List Nat} {cs : List Value} {x : X}, R w F cs x → ∀ b ∈ F, b < w.heap.size
variable {R : World → List Nat → List Value → X → Prop} {e : TypeId} {size : Nat} {w w' : World} {F : List Nat} {cs : List Value} {l : List X}
theorem mem_flat1 {es : List (List Nat × List Value)} {i : Nat} {p : List Nat × List Value} (hp : es[i]? = some p) {b : Nat} (hb : b ∈ p.1) : b ∈ es.flatMap (·.1) :=
  List.mem_flatMap.2 ⟨p, List.mem_of_getElem? hp, hb⟩
theorem ownsRow_keep {base n : Nat} {v : Value} {xs : List Value} (h : w.ownsRow base e size v n xs) (hk : ∀ b, v.ownBlock = some b → w'.heap[b]? = w.heap[b]?) : w'.ownsRow base e size v n xs := by
  refine ⟨h.1, ?_⟩
  rcases h.2 with hn | ⟨g, cap, cur, rfl, hb, hgg, rest⟩
  · exact .inl hn
  · exact .inr ⟨g, cap, cur, rfl, hb, (hk g rfl).trans hgg, rest⟩
theorem RowsR.frames (hR : Frames R) : Frames (RowsR e size R) where
  keep := by
    rintro w w' F cs l ⟨v, es, h1, h2, h3, h4, h5, h6, h7⟩ hk
    refine ⟨v, es, h1, h2, ownsRow_keep h3 (fun b hb => hk b (by rw [h4, hb]; simp)), h4, h5, h6, fun i p x hp hx => hR.keep (h7 i p x hp hx) (fun b hb => hk b ?_)⟩
    rw [h4]
    exact List.mem_append_right _ (mem_flat1 hp hb)
  lt := by
    rintro w F cs l ⟨v, es, h1, h2, h3, h4, h5, h6, h7⟩ b hb
    rw [h4, List.mem_append] at hb
    rcases hb with hb | hb
    · cases hv : v.ownBlock with
      | none => rw [hv] at hb; simp at hb
      | some g =>
        rw [hv] at hb
        simp at hb
        subst hb
        exact (h3.lt b hv).2
    · obtain ⟨p, hp, hbp⟩ := List.mem_flatMap.1 hb
      obtain ⟨i, hi⟩ := List.getElem?_of_mem hp
      have hil : i < l.length := by rw [← h2]; exact (List.getElem?_eq_some_iff.1 hi).1
      exact hR.lt (h7 i p l[i] hi (List.getElem?_eq_getElem hil)) b hbp
/-- What one element is, and what becomes of the row when it alone is turned in place. -/
theorem RowsR.elem (h : RowsR e size R w F cs l) {i : Nat} (hi : i < l.length) :
    ∃ (v : Value) (p : List Nat × List Value), cs = [v] ∧ p.2.length = size ∧ R w p.1 p.2 l[i] ∧ (∀ b ∈ p.1, b ∈ F) ∧ (∀ j u, p.2[j]? = some u → ∃ g cap, v = .slice (some ⟨g, 0, none⟩) l.length cap ∧ g ∈ F ∧ g ∉ p.1 ∧ w.cell? ⟨g, i * size + j, none⟩ = some u ∧ w.frozen? ⟨g, i * size + j, none⟩ = false) ∧
      ∀ (w' : World) (x : X), Frames R → (∀ b ∈ F, b ∉ p.1 → w'.heap[b]? = w.heap[b]?) → R w' p.1 p.2 x → RowsR e size R w' F cs (l.set i x) := by
  obtain ⟨v, es, h1, h2, h3, h4, h5, h6, h7⟩ := h
  have hie : i < es.length := by omega
  have hp : es[i]? = some es[i] := List.getElem?_eq_getElem hie
  refine ⟨v, es[i], h1, h6 _ (List.getElem_mem _), h7 i _ _ hp (List.getElem?_eq_getElem hi), fun b hb => by rw [h4]; exact List.mem_append_right _ (mem_flat1 hp hb), fun j u hu => ?_, fun w' x hR hk hx => ?_⟩
  · have hj : j < size := by rw [← h6 _ (List.getElem_mem hie)]; exact (List.getElem?_eq_some_iff.1 hu).1
    obtain ⟨g, cap, hv, _, _⟩ := h3.form (by omega)
    have hgb : v.ownBlock = some g := by rw [hv]; rfl
    have hgF : g ∈ F := by rw [h4, hgb]; simp
    have hil : i * size + j < l.length * size := by
      have : (i + 1) * size ≤ l.length * size := Nat.mul_le_mul_right _ hi
      rw [Nat.succ_mul] at this
      omega
    have h3' := h3
    rw [hv] at h3'
    refine ⟨g, cap, hv, hgF, fun hin => ?_, ?_, h3'.frozenAt _⟩
    · rw [h4, hgb] at h5
      have := (List.nodup_append.1 h5).2.2 g (by simp) g (mem_flat1 hp hin)
      exact this rfl
    · rw [h3'.cellAt _ hil, flat_at h6 i j hj hp]; exact hu
  · refine ⟨v, es, h1, by simpa using h2, ?_, h4, h5, h6, fun k p y hkp hky => ?_⟩
    · rw [List.length_set]
      refine ownsRow_keep h3 (fun b hb => hk b (by rw [h4, hb]; simp) (fun hin => ?_))
      rw [h4, hb] at h5
      exact (List.nodup_append.1 h5).2.2 b (by simp) b (mem_flat1 hp hin) rfl
    · rcases Nat.decEq k i with hne | rfl
      · rw [List.getElem?_set_ne (by omega)] at hky
        refine hR.keep (h7 k p y hkp hky) (fun b hb => hk b (by rw [h4]; exact List.mem_append_right _ (mem_flat1 hkp hb)) (fun hin => ?_))
        have h8 := (List.nodup_append.1 (h4 ▸ h5)).2.1
        exact nodup_flat h8 hkp hp hne hb hin
      · rw [hp] at hkp
        injection hkp with hkp
        subst hkp
        rw [List.getElem?_set_self hi] at hky
        injection hky with hky
        subst hky
        exact hx
/-- A slice of integers that owns its row. -/
def IntsR (k : IntKind) (e : TypeId) (w : World) (F : List Nat) (cs : List Value) (zs : List Int) : Prop :=
  ∃ v : Value, cs = [v] ∧ w.ownsRow 0 e 1 v zs.length (zs.map (Value.int k)) ∧ F = v.ownBlock.toList
theorem own_lt {base n : Nat} {v : Value} {xs : List Value} (h : w.ownsRow base e size v n xs) : ∀ b ∈ v.ownBlock.toList, b < w.heap.size := by
  intro b hb
  cases hv : v.ownBlock with
  | none => rw [hv] at hb; simp at hb
  | some g =>
    rw [hv] at hb
    simp at hb
    subst hb
    exact (h.lt b hv).2
theorem IntsR.frames (k : IntKind) (e : TypeId) : Frames (IntsR k e) where
  keep := by
    rintro w w' F cs zs ⟨v, h1, h2, rfl⟩ hk
    exact ⟨v, h1, ownsRow_keep h2 (fun b hb => hk b (by rw [hb]; simp)), rfl⟩
  lt := by
    rintro w F cs zs ⟨v, h1, h2, rfl⟩ b hb
    exact own_lt h2 b hb
/-- All that the value owns lies in the blocks lo to hi, each block once. -/
def Owns (R : World → List Nat → List Value → X → Prop) (w : World) (lo hi : Nat) (cs : List Value) (x : X) : Prop := ∃ F, R w F cs x ∧ F.Nodup ∧ ∀ b ∈ F, lo ≤ b ∧ b < hi
section
variable {lo hi lo' hi' B : Nat} {x : X}
theorem Owns.keep (h : Owns R w lo hi cs x) (hR : Frames R) (hk : ∀ b, lo ≤ b → b < hi → b < w.heap.size → w'.heap[b]? = w.heap[b]?) : Owns R w' lo hi cs x := by
  obtain ⟨F, h1, h2, h3⟩ := h
  exact ⟨F, hR.keep h1 (fun b hb => hk b (h3 b hb).1 (h3 b hb).2 (hR.lt h1 b hb)), h2, h3⟩
theorem Owns.new (h : Owns R w lo hi cs x) (hR : Frames R) (hb : Below w.heap.size w w') : Owns R w' lo hi cs x := h.keep hR fun b _ _ h3 => hb.block b h3
theorem Owns.below (h : Owns R w lo hi cs x) (hR : Frames R) (hb : Below B w w') (hB : hi ≤ B) : Owns R w' lo hi cs x := h.keep hR fun b _ h2 _ => hb.block b (by omega)
theorem Owns.out (h : Owns R w lo hi cs x) (hR : Frames R) (o : Out lo' hi' w w') (hd : hi ≤ lo' ∨ hi' ≤ lo) : Owns R w' lo hi cs x := h.keep hR fun b h1 h2 h3 => o.block b h3 (by omega)
theorem Owns.wide (h : Owns R w lo hi cs x) (h1 : lo' ≤ lo) (h2 : hi ≤ hi') : Owns R w lo' hi' cs x := by
  obtain ⟨F, a, b, c⟩ := h
  exact ⟨F, a, b, fun d hd => ⟨by have := (c d hd).1; omega, by have := (c d hd).2; omega⟩⟩
theorem Row.owns {k : IntKind} {v : Value} {zs : List Int} (h : Row w lo hi e v (zs.map (Value.int k))) : Owns (IntsR k e) w lo hi [v] zs := by
  have h1 := h.1
  rw [List.length_map] at h1
  refine ⟨v.ownBlock.toList, ⟨v, rfl, ⟨h1.1, ?_⟩, rfl⟩, by cases v.ownBlock <;> simp, fun b hb => ?_⟩
  · rcases h1.2 with hn | ⟨g, cap, cur, e1, hb, rest⟩
    · exact .inl hn
    · exact .inr ⟨g, cap, cur, e1, Nat.zero_le _, rest⟩
  · cases hv : v.ownBlock with
    | none => rw [hv] at hb; simp at hb
    | some g =>
      rw [hv] at hb
      simp at hb
      subst hb
      exact ⟨(h1.lt b hv).1, h.2 b hv⟩
theorem Owns.row {k : IntKind} {v : Value} {zs : List Int} (h : Owns (IntsR k e) w lo hi [v] zs) : Row w lo hi e v (zs.map (Value.int k)) := by
  obtain ⟨F, ⟨v', h1, h2, rfl⟩, _, h4⟩ := h
  have : v = v' := by simpa using h1
  subst this
  refine ⟨⟨by simp, ?_⟩, fun g hg => (h4 g (by rw [hg]; simp)).2⟩
  have h2' := h2.2
  rw [List.length_map]
  rcases h2' with hn | ⟨g, cap, cur, e1, hb, rest⟩
  · exact .inl hn
  · exact .inr ⟨g, cap, cur, e1, (h4 g (by rw [e1]; simp [Value.ownBlock])).1, rest⟩
end
/-- What is only read: a slice whose elements read as l, below block B. -/
def RdRows (size : Nat) (Q : World → Nat → List Value → X → Prop) (w : World) (B : Nat) (cs : List Value) (l : List X) : Prop :=
  ∃ (A : Option Addr) (c : Nat), cs = [.slice A l.length c] ∧ l.length ≤ c ∧ c ≤ maxLen ∧ ∀ (i : Nat) (x : X), l[i]? = some x →
    ∃ (ad : Addr) (us : List Value), A = some ad ∧ ad.block < B ∧ us.length = size ∧ (∀ j u, us[j]? = some u → w.cell? (ad.add (i * size + j)) = some u) ∧ Q w B us x
def RdInts (k : IntKind) (w : World) (B : Nat) (cs : List Value) (zs : List Int) : Prop := ∃ (A : Option Addr) (c : Nat), cs = [.slice A zs.length c] ∧ zs.length ≤ c ∧ c ≤ maxLen ∧ Rd w B A (zs.map (Value.int k))
structure RFrames (Q : World → Nat → List Value → X → Prop) : Prop where
  keep : ∀ {w w' : World} {B : Nat} {cs : List Value} {x : X}, Q w B cs x → (∀ b, b < B → w'.heap[b]? = w.heap[b]?) → Q w' B cs x
  more : ∀ {w : World} {B B' : Nat} {cs : List Value} {x : X}, Q w B cs x → B ≤ B' → Q w B' cs x
theorem RdInts.frames (k : IntKind) : RFrames (RdInts k) where
  keep := by
    rintro w w' B cs zs ⟨A, c, h1, h2, h3, h4⟩ hk
    exact ⟨A, c, h1, h2, h3, h4.keep hk⟩
  more := by
    rintro w B B' cs zs ⟨A, c, h1, h2, h3, h4⟩ hB
    exact ⟨A, c, h1, h2, h3, h4.more hB⟩
theorem RdRows.frames {Q : World → Nat → List Value → X → Prop} (hQ : RFrames Q) : RFrames (RdRows size Q) where
  keep := by
    rintro w w' B cs l ⟨A, c, h1, h2, h3, h4⟩ hk
    refine ⟨A, c, h1, h2, h3, fun i x hx => ?_⟩
    obtain ⟨ad, us, a1, a2, a3, a4, a5⟩ := h4 i x hx
    exact ⟨ad, us, a1, a2, a3, fun j u hu => (World.cell?_of_block (hk _ (by rw [add_blk]; exact a2))).trans (a4 j u hu), hQ.keep a5 hk⟩
  more := by
    rintro w B B' cs l ⟨A, c, h1, h2, h3, h4⟩ hB
    refine ⟨A, c, h1, h2, h3, fun i x hx => ?_⟩
    obtain ⟨ad, us, a1, a2, a3, a4, a5⟩ := h4 i x hx
    exact ⟨ad, us, a1, by omega, a3, a4, hQ.more a5 hB⟩
theorem ownsRow_form {base n : Nat} {v : Value} {xs : List Value} (h : w.ownsRow base e size v n xs) : ∃ A c, v = .slice A n c ∧ n ≤ c ∧ c ≤ maxLen := by
  rcases h.2 with ⟨rfl, rfl⟩ | ⟨g, cap, cur, rfl, _, _, h1, h2, _⟩
  · exact ⟨none, 0, rfl, Nat.le_refl _, Nat.zero_le _⟩
  · exact ⟨_, cap, rfl, h1, h2⟩
theorem IntsR.rd {k : IntKind} {zs : List Int} {B : Nat} (h : IntsR k e w F cs zs) (hB : ∀ b ∈ F, b < B) : RdInts k w B cs zs := by
  obtain ⟨v, rfl, h2, rfl⟩ := h
  have hrow : Row w 0 B e v (zs.map (Value.int k)) := ⟨by rw [List.length_map]; exact h2, fun g hg => hB g (by rw [hg]; simp)⟩
  obtain ⟨A, c, rfl, h4, h5, h6⟩ := hrow.rd (n := zs.length) (by simp)
  exact ⟨A, c, rfl, h5, h6, h4⟩
theorem addr_lit (g k : Nat) : (⟨g, 0, none⟩ : Addr).add k = ⟨g, k, none⟩ := by
  unfold Addr.add; split <;> simp_all
theorem RowsR.rd {Q : World → Nat → List Value → X → Prop} {B : Nat} (hRQ : ∀ {F : List Nat} {cs : List Value} {x : X}, R w F cs x → (∀ b ∈ F, b < B) → Q w B cs x) (h : RowsR e size R w F cs l) (hs : 0 < size) (hB : ∀ b ∈ F, b < B) : RdRows size Q w B cs l := by
  have h0 := h
  obtain ⟨v, es, h1, h2, h3, h4, h5, h6, h7⟩ := h
  obtain ⟨A, c, hv, hc1, hc2⟩ := ownsRow_form h3
  refine ⟨A, c, by rw [h1, hv], hc1, hc2, fun i x hx => ?_⟩
  have hi : i < l.length := (List.getElem?_eq_some_iff.1 hx).1
  have hxe : l[i] = x := (List.getElem?_eq_some_iff.1 hx).2
  obtain ⟨v', p, a1, a2, a3, a4, a5, _⟩ := h0.elem hi
  have hvv : v = v' := by rw [h1] at a1; simpa using a1
  subst hvv
  have hp0 : 0 < p.2.length := by omega
  obtain ⟨g, cap, b1, b2, _, _, _⟩ := a5 0 _ (List.getElem?_eq_getElem hp0)
  have hA : A = some ⟨g, 0, none⟩ := by rw [hv] at b1; injection b1
  refine ⟨⟨g, 0, none⟩, p.2, hA, hB g b2, a2, fun j u hu => ?_, ?_⟩
  · obtain ⟨g', cap', c1, _, _, c4, _⟩ := a5 j u hu
    have : g' = g := by rw [b1] at c1; injection c1 with c1; injection c1 with c1; injection c1 with c1; exact c1.symm
    subst this
    rw [addr_lit]; exact c4
  · rw [hxe] at a3
    exact hRQ a3 (fun b hb => hB b (a4 b hb))
theorem Owns.rd {Q : World → Nat → List Value → X → Prop} {B lo hi : Nat} {x : X} (hRQ : ∀ {F : List Nat}, R w F cs x → (∀ b ∈ F, b < B) → Q w B cs x) (h : Owns R w lo hi cs x) (hB : hi ≤ B) : Q w B cs x := by
  obtain ⟨F, h1, _, h3⟩ := h
  exact hRQ h1 (fun b hb => by have := (h3 b hb).2; omega)
end
end Go.Proofs.Yteffhbboeacogaa
