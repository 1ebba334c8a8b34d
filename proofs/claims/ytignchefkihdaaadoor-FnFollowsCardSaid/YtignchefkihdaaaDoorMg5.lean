/- Words for rows whose elements own memory too, over any program: RowsR (the value owns its row and all that its elements own, block by block), Owns (where all of it lies), RdRows (what is only read). No conditions. -/
import Derived.Test.YtignchefkihdaaaDoorMg2
import Derived.Test.YtignchefkihdaaaDoorMg4
namespace Go.Proofs.YtignchefkihdaaaDoor
open Go.ChangeShapes Go.WideShapes Go.ChangeAt Go.RowKit
section
variable {X Y : Type}
theorem flat_len {es : List (List Nat × List Value)} {size : Nat} (h : ∀ p ∈ es, p.2.length = size) : (es.flatMap (·.2)).length = es.length * size := by
  induction es with
  | nil => simp
  | cons p es ih =>
    have h1 := h p (by simp)
    have h2 := ih (fun q hq => h q (List.mem_cons_of_mem _ hq))
    rw [List.flatMap_cons, List.length_append, h1, h2, List.length_cons, Nat.succ_mul]; omega
theorem flat_at {es : List (List Nat × List Value)} {size : Nat} (h : ∀ p ∈ es, p.2.length = size) (i j : Nat) (hj : j < size) {p : List Nat × List Value} (hp : es[i]? = some p) :
    (es.flatMap (·.2))[i * size + j]? = p.2[j]? := by
  induction es generalizing i with
  | nil => simp at hp
  | cons q es ih =>
    have h1 := h q (by simp)
    rw [List.flatMap_cons]
    cases i with
    | zero =>
      have : q = p := by simpa using hp
      subst this
      rw [List.getElem?_append_left (by omega)]; simp
    | succ i =>
      have := ih (fun q hq => h q (List.mem_cons_of_mem _ hq)) i (by simpa using hp)
      rw [List.getElem?_append_right (by rw [h1, Nat.succ_mul]; omega), ← this]
      congr 1
      rw [h1, Nat.succ_mul]; omega
theorem nodup_flat : ∀ {es : List (List Nat × List Value)}, (es.flatMap (·.1)).Nodup → ∀ {i k : Nat} {p q : List Nat × List Value}, es[i]? = some p → es[k]? = some q → i ≠ k → ∀ {b : Nat}, b ∈ p.1 → b ∈ q.1 → False
  | [], _, _, _, _, _, hp, _, _, _, _, _ => by simp at hp
  | r :: es, h, i, k, p, q, hp, hq, hne, b, hb, hc => by
    rw [List.flatMap_cons] at h
    obtain ⟨_, h2, h3⟩ := List.nodup_append.1 h
    cases i with
    | zero =>
      cases k with
      | zero => exact hne rfl
      | succ k =>
        have : r = p := by simpa using hp
        subst this
        exact h3 b hb b (List.mem_flatMap.2 ⟨q, List.mem_of_getElem? (show es[k]? = some q by simpa using hq), hc⟩) rfl
    | succ i =>
      cases k with
      | zero =>
        have : r = q := by simpa using hq
        subst this
        exact h3 b hc b (List.mem_flatMap.2 ⟨p, List.mem_of_getElem? (show es[i]? = some p by simpa using hp), hb⟩) rfl
      | succ k => exact nodup_flat h2 (i := i) (k := k) (by simpa using hp) (by simpa using hq) (by omega) hb hc
/-- The value owns its row (of element type e, size cells each) and what its elements own; F lists the blocks. -/
def RowsR (e : TypeId) (size : Nat) (R : World → List Nat → List Value → X → Prop) (w : World) (F : List Nat) (cs : List Value) (l : List X) : Prop :=
  ∃ (v : Value) (es : List (List Nat × List Value)), cs = [v] ∧ es.length = l.length ∧ w.ownsRow 0 e size v l.length (es.flatMap (·.2)) ∧ F = v.ownBlock.toList ++ es.flatMap (·.1) ∧ F.Nodup ∧
    (∀ p ∈ es, p.2.length = size) ∧ ∀ (i : Nat) (p : List Nat × List Value) (x : X), es[i]? = some p → l[i]? = some x → R w p.1 p.2 x
/-- What a relation between memory and a datum keeps: it hangs on the blocks of F alone, and they are there. -/
structure Frames (R : World → List Nat → List Value → X → Prop) : Prop where
  keep : ∀ {w w' : World} {F : List Nat} {cs : List Value} {x : X}, R w F cs x → (∀ b ∈ F, w'.heap[b]? = w.heap[b]?) → R w' F cs x
  lt : ∀ {w : World} {F : List Nat} {cs : List Value} {x : X}, R w F cs x → ∀ b ∈ F, b < w.heap.size
variable {R : World → List Nat → List Value → X → Prop} {e : TypeId} {size : Nat} {w w' : World} {F : List Nat} {cs : List Value} {l : List X}
theorem mem_flat1 {es : List (List Nat × List Value)} {i : Nat} {p : List Nat × List Value} (hp : es[i]? = some p) {b : Nat} (hb : b ∈ p.1) : b ∈ es.flatMap (·.1) :=
  List.mem_flatMap.2 ⟨p, List.mem_of_getElem? hp, hb⟩
theorem ownsRow_keep {base n : Nat} {v : Value} {xs : List Value} (h : w.ownsRow base e size v n xs) (hk : ∀ b, v.ownBlock = some b → w'.heap[b]? = w.heap[b]?) : w'.ownsRow base e size v n xs := by
  refine ⟨h.1, ?_⟩
  rcases h.2 with hn | ⟨g, cap, cur, rfl, hb, hgg, rest⟩
  · exact .inl hn
  · exact .inr ⟨g, cap, cur, rfl, hb, (hk g rfl).trans hgg, rest⟩
theorem RowsR.frames (hR : Frames R) : Frames (RowsR e size R) where
  keep := by
    rintro w w' F cs l ⟨v, es, h1, h2, h3, h4, h5, h6, h7⟩ hk
    refine ⟨v, es, h1, h2, ownsRow_keep h3 (fun b hb => hk b (by rw [h4, hb]; simp)), h4, h5, h6, fun i p x hp hx => hR.keep (h7 i p x hp hx) (fun b hb => hk b ?_)⟩
    rw [h4]
    exact List.mem_append_right _ (mem_flat1 hp hb)
  lt := by
    rintro w F cs l ⟨v, es, h1, h2, h3, h4, h5, h6, h7⟩ b hb
    rw [h4, List.mem_append] at hb
    rcases hb with hb | hb
    · cases hv : v.ownBlock with
      | none => rw [hv] at hb; simp at hb
      | some g =>
        rw [hv] at hb
        simp at hb
        subst hb
        exact (h3.lt b hv).2
    · obtain ⟨p, hp, hbp⟩ := List.mem_flatMap.1 hb
      obtain ⟨i, hi⟩ := List.getElem?_of_mem hp
      have hil : i < l.length := by rw [← h2]; exact (List.getElem?_eq_some_iff.1 hi).1
      exact hR.lt (h7 i p l[i] hi (List.getElem?_eq_getElem hil)) b hbp
/-- What one element is, and what becomes of the row when it alone is turned in place. -/
theorem RowsR.elem (h : RowsR e size R w F cs l) {i : Nat} (hi : i < l.length) :
    ∃ (v : Value) (p : List Nat × List Value), cs = [v] ∧ p.2.length = size ∧ R w p.1 p.2 l[i] ∧ (∀ b ∈ p.1, b ∈ F) ∧ (∀ j u, p.2[j]? = some u → ∃ g cap, v = .slice (some ⟨g, 0, none⟩) l.length cap ∧ g ∈ F ∧ g ∉ p.1 ∧ w.cell? ⟨g, i * size + j, none⟩ = some u ∧ w.frozen? ⟨g, i * size + j, none⟩ = false) ∧
      ∀ (w' : World) (x : X), Frames R → (∀ b ∈ F, b ∉ p.1 → w'.heap[b]? = w.heap[b]?) → R w' p.1 p.2 x → RowsR e size R w' F cs (l.set i x) := by
  obtain ⟨v, es, h1, h2, h3, h4, h5, h6, h7⟩ := h
  have hie : i < es.length := by omega
  have hp : es[i]? = some es[i] := List.getElem?_eq_getElem hie
  refine ⟨v, es[i], h1, h6 _ (List.getElem_mem _), h7 i _ _ hp (List.getElem?_eq_getElem hi), fun b hb => by rw [h4]; exact List.mem_append_right _ (mem_flat1 hp hb), fun j u hu => ?_, fun w' x hR hk hx => ?_⟩
  · have hj : j < size := by rw [← h6 _ (List.getElem_mem hie)]; exact (List.getElem?_eq_some_iff.1 hu).1
    obtain ⟨g, cap, hv, _, _⟩ := h3.form (by omega)
    have hgb : v.ownBlock = some g := by rw [hv]; rfl
    have hgF : g ∈ F := by rw [h4, hgb]; simp
    have hil : i * size + j < l.length * size := by
      have : (i + 1) * size ≤ l.length * size := Nat.mul_le_mul_right _ hi
      rw [Nat.succ_mul] at this
      omega
    have h3' := h3
    rw [hv] at h3'
    refine ⟨g, cap, hv, hgF, fun hin => ?_, ?_, h3'.frozenAt _⟩
    · rw [h4, hgb] at h5
      have := (List.nodup_append.1 h5).2.2 g (by simp) g (mem_flat1 hp hin)
      exact this rfl
    · rw [h3'.cellAt _ hil, flat_at h6 i j hj hp]; exact hu
  · refine ⟨v, es, h1, by simpa using h2, ?_, h4, h5, h6, fun k p y hkp hky => ?_⟩
    · rw [List.length_set]
      refine ownsRow_keep h3 (fun b hb => hk b (by rw [h4, hb]; simp) (fun hin => ?_))
      rw [h4, hb] at h5
      exact (List.nodup_append.1 h5).2.2 b (by simp) b (mem_flat1 hp hin) rfl
    · rcases Nat.decEq k i with hne | rfl
      · rw [List.getElem?_set_ne (by omega)] at hky
        refine hR.keep (h7 k p y hkp hky) (fun b hb => hk b (by rw [h4]; exact List.mem_append_right _ (mem_flat1 hkp hb)) (fun hin => ?_))
        have h8 := (List.nodup_append.1 (h4 ▸ h5)).2.1
        exact nodup_flat h8 hkp hp hne hb hin
      · rw [hp] at hkp
        injection hkp with hkp
        subst hkp
        rw [List.getElem?_set_self hi] at hky
        injection hky with hky
        subst hky
        exact hx
/-- A slice of integers that owns its row. -/
def IntsR (k : IntKind) (e : TypeId) (w : World) (F : List Nat) (cs : List Value) (zs : List Int) : Prop :=
  ∃ v : Value, cs = [v] ∧ w.ownsRow 0 e 1 v zs.length (zs.map (Value.int k)) ∧ F = v.ownBlock.toList
theorem own_lt {base n : Nat} {v : Value} {xs : List Value} (h : w.ownsRow base e size v n xs) : ∀ b ∈ v.ownBlock.toList, b < w.heap.size := by
  intro b hb
  cases hv : v.ownBlock with
  | none => rw [hv] at hb; simp at hb
  | some g =>
    rw [hv] at hb
    simp at hb
    subst hb
    exact (h.lt b hv).2
theorem IntsR.frames (k : IntKind) (e : TypeId) : Frames (IntsR k e) where
  keep := by
    rintro w w' F cs zs ⟨v, h1, h2, rfl⟩ hk
    exact ⟨v, h1, ownsRow_keep h2 (fun b hb => hk b (by rw [hb]; simp)), rfl⟩
  lt := by
    rintro w F cs zs ⟨v, h1, h2, rfl⟩ b hb
    exact own_lt h2 b hb
/-- All that the value owns lies in the blocks lo to hi, each block once. -/
def Owns (R : World → List Nat → List Value → X → Prop) (w : World) (lo hi : Nat) (cs : List Value) (x : X) : Prop := ∃ F, R w F cs x ∧ F.Nodup ∧ ∀ b ∈ F, lo ≤ b ∧ b < hi
section
variable {lo hi lo' hi' B : Nat} {x : X}
theorem Owns.keep (h : Owns R w lo hi cs x) (hR : Frames R) (hk : ∀ b, lo ≤ b → b < hi → b < w.heap.size → w'.heap[b]? = w.heap[b]?) : Owns R w' lo hi cs x := by
  obtain ⟨F, h1, h2, h3⟩ := h
  exact ⟨F, hR.keep h1 (fun b hb => hk b (h3 b hb).1 (h3 b hb).2 (hR.lt h1 b hb)), h2, h3⟩
theorem Owns.new (h : Owns R w lo hi cs x) (hR : Frames R) (hb : Below w.heap.size w w') : Owns R w' lo hi cs x := h.keep hR fun b _ _ h3 => hb.block b h3
theorem Owns.below (h : Owns R w lo hi cs x) (hR : Frames R) (hb : Below B w w') (hB : hi ≤ B) : Owns R w' lo hi cs x := h.keep hR fun b _ h2 _ => hb.block b (by omega)
theorem Owns.out (h : Owns R w lo hi cs x) (hR : Frames R) (o : Out lo' hi' w w') (hd : hi ≤ lo' ∨ hi' ≤ lo) : Owns R w' lo hi cs x := h.keep hR fun b h1 h2 h3 => o.block b h3 (by omega)
theorem Owns.wide (h : Owns R w lo hi cs x) (h1 : lo' ≤ lo) (h2 : hi ≤ hi') : Owns R w lo' hi' cs x := by
  obtain ⟨F, a, b, c⟩ := h
  exact ⟨F, a, b, fun d hd => ⟨by have := (c d hd).1; omega, by have := (c d hd).2; omega⟩⟩
theorem Row.owns {k : IntKind} {v : Value} {zs : List Int} (h : Row w lo hi e v (zs.map (Value.int k))) : Owns (IntsR k e) w lo hi [v] zs := by
  have h1 := h.1
  rw [List.length_map] at h1
  refine ⟨v.ownBlock.toList, ⟨v, rfl, ⟨h1.1, ?_⟩, rfl⟩, by cases v.ownBlock <;> simp, fun b hb => ?_⟩
  · rcases h1.2 with hn | ⟨g, cap, cur, e1, hb, rest⟩
    · exact .inl hn
    · exact .inr ⟨g, cap, cur, e1, Nat.zero_le _, rest⟩
  · cases hv : v.ownBlock with
    | none => rw [hv] at hb; simp at hb
    | some g =>
      rw [hv] at hb
      simp at hb
      subst hb
      exact ⟨(h1.lt b hv).1, h.2 b hv⟩
theorem Owns.row {k : IntKind} {v : Value} {zs : List Int} (h : Owns (IntsR k e) w lo hi [v] zs) : Row w lo hi e v (zs.map (Value.int k)) := by
  obtain ⟨F, ⟨v', h1, h2, rfl⟩, _, h4⟩ := h
  have : v = v' := by simpa using h1
  subst this
  refine ⟨⟨by simp, ?_⟩, fun g hg => (h4 g (by rw [hg]; simp)).2⟩
  have h2' := h2.2
  rw [List.length_map]
  rcases h2' with hn | ⟨g, cap, cur, e1, hb, rest⟩
  · exact .inl hn
  · exact .inr ⟨g, cap, cur, e1, (h4 g (by rw [e1]; simp [Value.ownBlock])).1, rest⟩
end
/-- What is only read: a slice whose elements read as l, below block B. -/
def RdRows (size : Nat) (Q : World → Nat → List Value → X → Prop) (w : World) (B : Nat) (cs : List Value) (l : List X) : Prop :=
  ∃ (A : Option Addr) (c : Nat), cs = [.slice A l.length c] ∧ l.length ≤ c ∧ c ≤ maxLen ∧ ∀ (i : Nat) (x : X), l[i]? = some x →
    ∃ (ad : Addr) (us : List Value), A = some ad ∧ ad.block < B ∧ us.length = size ∧ (∀ j u, us[j]? = some u → w.cell? (ad.add (i * size + j)) = some u) ∧ Q w B us x
def RdInts (k : IntKind) (w : World) (B : Nat) (cs : List Value) (zs : List Int) : Prop := ∃ (A : Option Addr) (c : Nat), cs = [.slice A zs.length c] ∧ zs.length ≤ c ∧ c ≤ maxLen ∧ Rd w B A (zs.map (Value.int k))
structure RFrames (Q : World → Nat → List Value → X → Prop) : Prop where
  keep : ∀ {w w' : World} {B : Nat} {cs : List Value} {x : X}, Q w B cs x → (∀ b, b < B → w'.heap[b]? = w.heap[b]?) → Q w' B cs x
  more : ∀ {w : World} {B B' : Nat} {cs : List Value} {x : X}, Q w B cs x → B ≤ B' → Q w B' cs x
theorem RdInts.frames (k : IntKind) : RFrames (RdInts k) where
  keep := by
    rintro w w' B cs zs ⟨A, c, h1, h2, h3, h4⟩ hk
    exact ⟨A, c, h1, h2, h3, h4.keep hk⟩
  more := by
    rintro w B B' cs zs ⟨A, c, h1, h2, h3, h4⟩ hB
    exact ⟨A, c, h1, h2, h3, h4.more hB⟩
theorem RdRows.frames {Q : World → Nat → List Value → X → Prop} (hQ : RFrames Q) : RFrames (RdRows size Q) where
  keep := by
    rintro w w' B cs l ⟨A, c, h1, h2, h3, h4⟩ hk
    refine ⟨A, c, h1, h2, h3, fun i x hx => ?_⟩
    obtain ⟨ad, us, a1, a2, a3, a4, a5⟩ := h4 i x hx
    exact ⟨ad, us, a1, a2, a3, fun j u hu => (World.cell?_of_block (hk _ (by rw [add_blk]; exact a2))).trans (a4 j u hu), hQ.keep a5 hk⟩
  more := by
    rintro w B B' cs l ⟨A, c, h1, h2, h3, h4⟩ hB
    refine ⟨A, c, h1, h2, h3, fun i x hx => ?_⟩
    obtain ⟨ad, us, a1, a2, a3, a4, a5⟩ := h4 i x hx
    exact ⟨ad, us, a1, by omega, a3, a4, hQ.more a5 hB⟩
theorem ownsRow_form {base n : Nat} {v : Value} {xs : List Value} (h : w.ownsRow base e size v n xs) : ∃ A c, v = .slice A n c ∧ n ≤ c ∧ c ≤ maxLen := by
  rcases h.2 with ⟨rfl, rfl⟩ | ⟨g, cap, cur, rfl, _, _, h1, h2, _⟩
  · exact ⟨none, 0, rfl, Nat.le_refl _, Nat.zero_le _⟩
  · exact ⟨_, cap, rfl, h1, h2⟩
theorem IntsR.rd {k : IntKind} {zs : List Int} {B : Nat} (h : IntsR k e w F cs zs) (hB : ∀ b ∈ F, b < B) : RdInts k w B cs zs := by
  obtain ⟨v, rfl, h2, rfl⟩ := h
  have hrow : Row w 0 B e v (zs.map (Value.int k)) := ⟨by rw [List.length_map]; exact h2, fun g hg => hB g (by rw [hg]; simp)⟩
  obtain ⟨A, c, rfl, h4, h5, h6⟩ := hrow.rd (n := zs.length) (by simp)
  exact ⟨A, c, rfl, h5, h6, h4⟩
theorem addr_lit (g k : Nat) : (⟨g, 0, none⟩ : Addr).add k = ⟨g, k, none⟩ := by
  unfold Addr.add; split <;> simp_all
theorem RowsR.rd {Q : World → Nat → List Value → X → Prop} {B : Nat} (hRQ : ∀ {F : List Nat} {cs : List Value} {x : X}, R w F cs x → (∀ b ∈ F, b < B) → Q w B cs x) (h : RowsR e size R w F cs l) (hs : 0 < size) (hB : ∀ b ∈ F, b < B) : RdRows size Q w B cs l := by
  have h0 := h
  obtain ⟨v, es, h1, h2, h3, h4, h5, h6, h7⟩ := h
  obtain ⟨A, c, hv, hc1, hc2⟩ := ownsRow_form h3
  refine ⟨A, c, by rw [h1, hv], hc1, hc2, fun i x hx => ?_⟩
  have hi : i < l.length := (List.getElem?_eq_some_iff.1 hx).1
  have hxe : l[i] = x := (List.getElem?_eq_some_iff.1 hx).2
  obtain ⟨v', p, a1, a2, a3, a4, a5, _⟩ := h0.elem hi
  have hvv : v = v' := by rw [h1] at a1; simpa using a1
  subst hvv
  have hp0 : 0 < p.2.length := by omega
  obtain ⟨g, cap, b1, b2, _, _, _⟩ := a5 0 _ (List.getElem?_eq_getElem hp0)
  have hA : A = some ⟨g, 0, none⟩ := by rw [hv] at b1; injection b1
  refine ⟨⟨g, 0, none⟩, p.2, hA, hB g b2, a2, fun j u hu => ?_, ?_⟩
  · obtain ⟨g', cap', c1, _, _, c4, _⟩ := a5 j u hu
    have : g' = g := by rw [b1] at c1; injection c1 with c1; injection c1 with c1; injection c1 with c1; exact c1.symm
    subst this
    rw [addr_lit]; exact c4
  · rw [hxe] at a3
    exact hRQ a3 (fun b hb => hB b (a4 b hb))
theorem Owns.rd {Q : World → Nat → List Value → X → Prop} {B lo hi : Nat} {x : X} (hRQ : ∀ {F : List Nat}, R w F cs x → (∀ b ∈ F, b < B) → Q w B cs x) (h : Owns R w lo hi cs x) (hB : hi ≤ B) : Q w B cs x := by
  obtain ⟨F, h1, _, h3⟩ := h
  exact hRQ h1 (fun b hb => by have := (h3 b hb).2; omega)
end
end Go.Proofs.YtignchefkihdaaaDoor

/- Making, storing into and appending to rows whose elements own memory (the words of XDeep), over any program. No conditions but the machine's bound on bytes. -/
namespace Go.Proofs.YtignchefkihdaaaDoor
open Go.ChangeShapes Go.WideShapes Go.ChangeAt Go.RowKit
section
variable {X : Type} {R : World → List Nat → List Value → X → Prop} {e : TypeId} {size : Nat} {w w' : World} {F F' : List Nat} {cs : List Value} {l : List X}
theorem RowsR.nil_ : RowsR e size R w [] [.slice none 0 0] [] :=
  ⟨_, [], rfl, rfl, by simpa using World.ownsRow_nil w 0 e size, rfl, by simp, by simp, by simp⟩
theorem rep_flat2 (n : Nat) (z : Value) : (List.replicate n (([] : List Nat), [z])).flatMap (·.2) = List.replicate n z := by
  induction n with
  | zero => rfl
  | succ n ih => simp only [List.replicate_succ, List.flatMap_cons, ih]; rfl
theorem rep_flat1 (n : Nat) (z : Value) : (List.replicate n (([] : List Nat), [z])).flatMap (·.1) = [] := by
  induction n with
  | zero => rfl
  | succ n ih => simp only [List.replicate_succ, List.flatMap_cons, ih]; rfl
theorem RowsR.made1 {base g n : Nat} {z : Value} {x0 : X} (h : w.ownsRow base e 1 (.slice (some ⟨g, 0, none⟩) n n) n (List.replicate n z)) (hz : R w [] [z] x0) :
    RowsR e 1 R w [g] [.slice (some ⟨g, 0, none⟩) n n] (List.replicate n x0) := by
  have e1 := rep_flat2 n z
  refine ⟨_, List.replicate n ([], [z]), rfl, by simp, ?_, ?_, by simp, ?_, ?_⟩
  · rw [e1, List.length_replicate]
    refine ⟨h.1, ?_⟩
    rcases h.2 with hn | ⟨g', cap, cur, h1, hb, rest⟩
    · exact .inl hn
    · exact .inr ⟨g', cap, cur, h1, Nat.zero_le _, rest⟩
  · rw [rep_flat1]; rfl
  · intro p hp
    rw [(List.mem_replicate.1 hp).2]; rfl
  · intro i p x hp hx
    rw [List.getElem?_replicate] at hp hx
    split at hp
    · injection hp with hp
      rename_i hlt
      rw [if_pos hlt] at hx
      injection hx with hx
      rw [← hp, ← hx]; exact hz
    · cases hp
theorem flat1_set {es : List (List Nat × List Value)} (h : ∀ p ∈ es, p.2.length = 1) (i : Nat) (F' : List Nat) (u : Value) : (es.set i (F', [u])).flatMap (·.2) = (es.flatMap (·.2)).set i u := by
  induction es generalizing i with
  | nil => simp
  | cons q es ih =>
    have h1 := h q (by simp)
    obtain ⟨a, ha⟩ : ∃ a, q.2 = [a] := List.length_eq_one_iff.1 h1
    cases i with
    | zero => simp [ha]
    | succ i =>
      have := ih (fun q hq => h q (List.mem_cons_of_mem _ hq)) i
      simp [ha, this]
theorem mem_set_flat {es : List (List Nat × List Value)} {i : Nat} {p : List Nat × List Value} {b : Nat} (h : b ∈ (es.set i p).flatMap (·.1)) : b ∈ es.flatMap (·.1) ∨ b ∈ p.1 := by
  obtain ⟨q, hq, hb⟩ := List.mem_flatMap.1 h
  rcases List.mem_or_eq_of_mem_set hq with hq | rfl
  · exact .inl (List.mem_flatMap.2 ⟨q, hq, hb⟩)
  · exact .inr hb
theorem nodup_set : ∀ {es : List (List Nat × List Value)} {i : Nat} {p : List Nat × List Value}, (es.flatMap (·.1)).Nodup → p.1.Nodup → (∀ b ∈ p.1, b ∉ es.flatMap (·.1)) → ((es.set i p).flatMap (·.1)).Nodup
  | [], i, p, _, _, _ => by simp
  | q :: es, 0, p, h, hp, hd => by
    rw [List.set_cons_zero, List.flatMap_cons]
    rw [List.flatMap_cons] at h
    refine List.nodup_append.2 ⟨hp, (List.nodup_append.1 h).2.1, fun a ha b hb hab => ?_⟩
    subst hab
    exact hd a ha (by rw [List.flatMap_cons]; exact List.mem_append_right _ hb)
  | q :: es, i + 1, p, h, hp, hd => by
    rw [List.set_cons_succ, List.flatMap_cons]
    rw [List.flatMap_cons] at h
    obtain ⟨h1, h2, h3⟩ := List.nodup_append.1 h
    refine List.nodup_append.2 ⟨h1, nodup_set h2 hp (fun b hb hin => hd b hb (by rw [List.flatMap_cons]; exact List.mem_append_right _ hin)), fun a ha b hb hab => ?_⟩
    subst hab
    rcases mem_set_flat hb with hb | hb
    · exact h3 a ha a hb rfl
    · exact hd a hb (by rw [List.flatMap_cons]; exact List.mem_append_left _ ha)
theorem RowsR.store1 (hR : Frames R) (h : RowsR e 1 R w F cs l) {i : Nat} (hi : i < l.length) {u : Value} {x : X} (hx : R w F' [u] x) (hd : ∀ b ∈ F', b ∉ F) (hn : F'.Nodup) {g cap : Nat} (hv : cs = [.slice (some ⟨g, 0, none⟩) l.length cap]) :
    ∃ F2, RowsR e 1 R (w.setCell ⟨g, i, none⟩ u) F2 cs (l.set i x) ∧ (F2.Nodup ∧ ∀ b ∈ F2, b ∈ F ∨ b ∈ F') := by
  obtain ⟨v, es, h1, h2, h3, h4, h5, h6, h7⟩ := h
  have hvv : v = .slice (some ⟨g, 0, none⟩) l.length cap := by rw [h1] at hv; simpa using hv
  subst hvv
  have hown : (Value.slice (some ⟨g, 0, none⟩) l.length cap).ownBlock.toList = [g] := rfl
  rw [hown] at h4
  have hgF : g ∈ F := by rw [h4]; simp
  rw [h4] at h5
  obtain ⟨n1, n2, n3⟩ := List.nodup_append.1 h5
  have hF2 : ([g] ++ (es.set i (F', [u])).flatMap (·.1)).Nodup := by
    refine List.nodup_append.2 ⟨n1, nodup_set n2 hn (fun b hb hin => hd b hb (by rw [h4]; exact List.mem_append_right _ hin)), fun a ha b hb hab => ?_⟩
    subst hab
    have hag : a = g := by simpa using ha
    subst hag
    rcases mem_set_flat hb with hb | hb
    · exact n3 a (by simp) a hb rfl
    · exact hd a hb hgF
  have hfar : ∀ b, b ≠ g → (w.setCell ⟨g, i, none⟩ u).heap[b]? = w.heap[b]? := fun b hb => heap_setCell_other w ⟨g, i, none⟩ b u hb
  refine ⟨[g] ++ (es.set i (F', [u])).flatMap (·.1), ⟨_, es.set i (F', [u]), h1, by simp [h2], ?_, rfl, hF2, fun p hp => ?_, fun k p y hkp hky => ?_⟩, hF2, fun b hb => ?_⟩
  · rw [flat1_set h6, List.length_set]
    exact (h3.stored i u).1
  · rcases List.mem_or_eq_of_mem_set hp with hp | rfl
    · exact h6 p hp
    · rfl
  · rcases Nat.decEq k i with hne | rfl
    · rw [List.getElem?_set_ne (by omega)] at hkp hky
      refine hR.keep (h7 k p y hkp hky) (fun b hb => hfar b (fun hbg => ?_))
      subst hbg
      exact n3 b (by simp) b (mem_flat1 hkp hb) rfl
    · rw [List.getElem?_set_self (by omega)] at hkp hky
      injection hkp with hkp
      injection hky with hky
      subst hkp
      subst hky
      exact hR.keep hx (fun b hb => hfar b (fun hbg => hd b hb (by rw [hbg]; exact hgF)))
  · rw [List.mem_append] at hb
    rcases hb with hb | hb
    · left; rw [h4]; exact List.mem_append_left _ hb
    · rcases mem_set_flat hb with hb | hb
      · left; rw [h4]; exact List.mem_append_right _ hb
      · exact .inr hb
variable {P : Program}
theorem run_appR (hR : Frames R) (t ty : TypeId) (i : TypeInfo) (z : Value) (bytes : Nat) (ht : P.underlying t = some (.slice e)) (hi : P.info? e = some i) (hz : i.zero = some z) (hsize : i.size = size) (hby : i.bytes = bytes) (hzs : z.cells.size = size) (hs0 : 0 < size)
    {L M M' B c : Nat} {v : Value} {us : List Value} {x : X} {ad : Addr} (h : Owns (RowsR e size R) w L M [v] l) (hx : Owns R w M M' us x) (hus : us.length = size) (hr : Rd w B (some ad) us) (h1 : ∀ u ∈ us, u.oneCell' = true)
    (hLM : L ≤ M) (h63 : l.length + 1 ≤ maxLen) (hbytes : (l.length + 1) * bytes ≤ 140737488355328) (hL : L ≤ w.heap.size) :
    ∃ v' w', (Builtin.append_ #[t, t] ty #[v, .slice (some ad) 1 c]).run P w = .ok v' w' ∧ Owns (RowsR e size R) w' L w'.heap.size [v'] (l ++ [x]) ∧ Below L w w' := by
  obtain ⟨F, hrow, hFn, hF⟩ := h
  obtain ⟨F', hx1, hFn', hF'⟩ := hx
  have hlt := (RowsR.frames hR (e := e) (size := size)).lt hrow
  have hlt' := hR.lt hx1
  obtain ⟨v0, es, a1, a2, a3, a4, a5, a6, a7⟩ := hrow
  have hvv : v = v0 := by simpa using a1
  subst hvv
  have hcells : ∀ j u, us[j]? = some u → w.cell? (ad.add j) = some u := fun j u hu => by
    obtain ⟨ad', e1, _, hc⟩ := hr j u hu
    injection e1 with e1
    subst e1
    exact hc
  obtain ⟨v', w', hrun, b1, b2, _, b4⟩ := run_append_own_at (P := P) w 0 t ty e i z size bytes ht hi hz hsize hby hzs hs0 v l.length _ a3 ad 1 c us (by rw [hus]; omega) hcells h1 h63 hbytes (Nat.zero_le _)
  have hne : ∀ b ∈ es.flatMap (·.1), v.ownBlock ≠ some b := fun b hb hv => by
    rw [a4, hv] at a5
    exact (List.nodup_append.1 a5).2.2 b (by simp) b hb rfl
  have hkeep : ∀ b, b < w.heap.size → v.ownBlock ≠ some b → w'.heap[b]? = w.heap[b]? := fun b hb hv => b2.block b hb (fun e => hv e.symm)
  have hFown : ∀ b ∈ v.ownBlock.toList, b ∈ F := fun b hb => by rw [a4]; exact List.mem_append_left _ hb
  have hv'lt : ∀ b ∈ v'.ownBlock.toList, L ≤ b ∧ b < w'.heap.size := fun b hb => by
    refine ⟨?_, own_lt b1 b hb⟩
    rcases b4 with b4 | b4
    · rw [b4] at hb; exact (hF b (hFown b hb)).1
    · rw [b4] at hb; simp at hb; omega
  have hv'no : ∀ b ∈ v'.ownBlock.toList, b ∉ es.flatMap (·.1) ∧ b ∉ F' := fun b hb => by
    rcases b4 with b4 | b4
    · rw [b4] at hb
      refine ⟨fun hin => ?_, fun hin => ?_⟩
      · refine hne b hin ?_
        cases hv : v.ownBlock with
        | none => rw [hv] at hb; simp at hb
        | some g => rw [hv] at hb; simp at hb; rw [hb]
      · have k1 := (hF b (hFown b hb)).2
        have k2 := (hF' b hin).1
        omega
    · rw [b4] at hb
      have hbs : b = w.heap.size := by simpa using hb
      refine ⟨fun hin => ?_, fun hin => ?_⟩
      · have := hlt b (by rw [a4]; exact List.mem_append_right _ hin); omega
      · have := hlt' b hin; omega
  have hsub : ∀ b ∈ es.flatMap (·.1), b ∈ F := fun b hb => by rw [a4]; exact List.mem_append_right _ hb
  have hnd : (v'.ownBlock.toList ++ (es ++ [(F', us)]).flatMap (·.1)).Nodup := by
    rw [List.flatMap_append, List.flatMap_singleton]
    refine List.nodup_append.2 ⟨by cases v'.ownBlock <;> simp, List.nodup_append.2 ⟨(List.nodup_append.1 (a4 ▸ a5)).2.1, hFn', fun a ha b hb hab => ?_⟩, fun a ha b hb hab => ?_⟩
    · subst hab
      have k1 := (hF a (hsub a ha)).2
      have k2 := (hF' a hb).1
      omega
    · subst hab
      rw [List.mem_append] at hb
      rcases hb with hb | hb
      · exact (hv'no a ha).1 hb
      · exact (hv'no a ha).2 hb
  refine ⟨v', w', hrun, ⟨v'.ownBlock.toList ++ (es ++ [(F', us)]).flatMap (·.1), ⟨v', es ++ [(F', us)], rfl, by simp [a2], ?_, rfl, hnd, fun p hp => ?_, fun k p y hkp hky => ?_⟩, hnd, fun b hb => ?_⟩, ⟨b2.os, b2.tape, b2.output, b2.size, fun b hb => hkeep b (by omega) (fun hv => ?_)⟩⟩
  · rw [List.flatMap_append, List.flatMap_singleton, List.length_append, List.length_singleton]; exact b1
  · rw [List.mem_append, List.mem_singleton] at hp
    rcases hp with hp | rfl
    · exact a6 p hp
    · exact hus
  · rcases Nat.lt_or_ge k es.length with hk | hk
    · rw [List.getElem?_append_left hk] at hkp
      rw [List.getElem?_append_left (by omega)] at hky
      exact hR.keep (a7 k p y hkp hky) (fun b hb => hkeep b (hlt b (hsub b (mem_flat1 hkp hb))) (hne b (mem_flat1 hkp hb)))
    · rw [List.getElem?_append_right hk] at hkp
      rw [List.getElem?_append_right (by omega)] at hky
      have hk0 : k - es.length = 0 := by
        rcases Nat.eq_zero_or_pos (k - es.length) with h0 | h0
        · exact h0
        · rw [List.getElem?_eq_none (by simp; omega)] at hkp; cases hkp
      have hk1 : k - l.length = 0 := by omega
      rw [hk0] at hkp
      rw [hk1] at hky
      simp at hkp hky
      subst hkp
      subst hky
      refine hR.keep hx1 (fun b hb => hkeep b (hlt' b hb) (fun hv => ?_))
      have k1 := (hF b (hFown b (by rw [hv]; simp))).2
      have k2 := (hF' b hb).1
      omega
  · rw [List.mem_append] at hb
    rcases hb with hb | hb
    · exact hv'lt b hb
    · rw [List.flatMap_append, List.flatMap_singleton, List.mem_append] at hb
      have hsz := b2.size
      rcases hb with hb | hb
      · have k1 := hF b (hsub b hb)
        have k2 := hlt b (hsub b hb)
        omega
      · have k1 := hF' b hb
        have k2 := hlt' b hb
        omega
  · have k1 := (hF b (hFown b (by rw [hv]; simp))).1
    omega
theorem wpList_appR {ops : Array Oper} {rest : List Oper} {o : Oper} {a : Act} {Q : Exit → Act → World → Prop} (hgd : o.guard = none) (s y : Operand) (t : TypeId)
    (ho : o.op = .call { callee := .builtin .append, args := #[s, y], argTypes := #[t, t] }) (hR : Frames R)
    (i : TypeInfo) (z : Value) (bytes : Nat) (ht : P.underlying t = some (.slice e)) (hi : P.info? e = some i) (hz : i.zero = some z) (hsize : i.size = size) (hby : i.bytes = bytes) (hzs : z.cells.size = size) (hs0 : 0 < size)
    {L M M' B c : Nat} {v : Value} {us : List Value} {x : X} {ad : Addr} (hs : a.eval s = v) (hy : a.eval y = .slice (some ad) 1 c) (h : Owns (RowsR e size R) w L M [v] l) (hx : Owns R w M M' us x) (hus : us.length = size) (hr : Rd w B (some ad) us) (h1 : ∀ u ∈ us, u.oneCell' = true)
    (hLM : L ≤ M) (h63 : l.length + 1 ≤ maxLen) (hbytes : (l.length + 1) * bytes ≤ 140737488355328) (hL : L ≤ w.heap.size)
    (K : ∀ v' w', Owns (RowsR e size R) w' L w'.heap.size [v'] (l ++ [x]) → Below L w w' → wpList P ops Q rest (a.put o.dst v') w') : wpList P ops Q (o :: rest) a w := by
  obtain ⟨v', w', hrun, h2, h3⟩ := run_appR (P := P) hR t o.type i z bytes ht hi hz hsize hby hzs hs0 (c := c) h hx hus hr h1 hLM h63 hbytes hL
  refine wpList_plain hgd fun K' hK' => ?_
  unfold Oper.wp
  simp [execOp, ho, resolve, invoke, builtin, hs, hy, hrun, Result.andThen]
  exact hK' _ _ (K v' w' h2 h3)
end
end Go.Proofs.YtignchefkihdaaaDoor

/- Contracts of the laws' own helpers over [][]int: toIntSS copies all, eqIntSS compares, markIntSS writes k, k+1, .. into each integer, heldIntSS asks for them, szIntSS counts. For every slice of at most 2^40 elements, each of at most 2^40; no other condition. -/
namespace Go.Proofs.YtignchefkihdaaaDoor
open Go.ChangeShapes Go.WideShapes Go.ChangeAt Go.RowKit
theorem IntSS_info : (Tryd.prog.info? 25).map (fun i => (i.zero, i.size, i.bytes)) = some (some (.slice none 0 0), 1, 24) := by kernel_rfl
abbrev SSR : World → List Nat → List Value → List (List Int) → Prop := RowsR 25 1 (IntsR .i64 3)
theorem SSR_frames : Frames SSR := RowsR.frames (IntsR.frames _ _)
def OwnSS (w : World) (lo hi : Nat) (v : Value) (X : List (List Int)) : Prop := Owns SSR w lo hi [v] X
/-- What is only read. -/
def RdSS (w : World) (B : Nat) (A : Option Addr) (X : List (List Int)) : Prop :=
  ∀ (k : Nat) (x : List Int), X[k]? = some x → ∃ (ad : Addr) (Aj : Option Addr) (cj : Nat), A = some ad ∧ ad.block < B ∧ w.cell? (ad.add k) = some (.slice Aj x.length cj) ∧ x.length ≤ cj ∧ cj ≤ maxLen ∧ Rd w B Aj (ivs x)
section
variable {w w' : World} {B B' lo hi lo' hi' : Nat} {A : Option Addr} {X : List (List Int)} {v : Value}
theorem RdSS.keep (h : RdSS w B A X) (hk : ∀ b, b < B → w'.heap[b]? = w.heap[b]?) : RdSS w' B A X := fun k x hx => by
  obtain ⟨ad, Aj, cj, a1, a2, a3, a4, a5, a6⟩ := h k x hx
  exact ⟨ad, Aj, cj, a1, a2, (World.cell?_of_block (hk _ (by rw [add_blk]; exact a2))).trans a3, a4, a5, a6.keep hk⟩
theorem RdSS.below (h : RdSS w B A X) (hb : Below B w w') : RdSS w' B A X := h.keep hb.block
theorem RdSS.more (h : RdSS w B A X) (hB : B ≤ B') : RdSS w B' A X := fun k x hx => by
  obtain ⟨ad, Aj, cj, a1, a2, a3, a4, a5, a6⟩ := h k x hx
  exact ⟨ad, Aj, cj, a1, by omega, a3, a4, a5, a6.more hB⟩
theorem RdSS.drewN (h : RdSS w B A X) (n : Nat) : RdSS (w.drewN n) B A X := h
theorem RdSS.at_ (h : RdSS w B A X) {k : Nat} (hk : k < X.length) : ∃ (ad : Addr) (Aj : Option Addr) (cj : Nat), A = some ad ∧ ad.block < B ∧ w.cell? (ad.add k) = some (.slice Aj X[k].length cj) ∧ X[k].length ≤ cj ∧ cj ≤ maxLen ∧ Rd w B Aj (ivs X[k]) :=
  h k _ (List.getElem?_eq_getElem hk)
theorem RdSS.of_rows {c : Nat} (h : RdRows 1 (RdInts .i64) w B [.slice A X.length c] X) : RdSS w B A X := fun k x hx => by
  obtain ⟨A', c', h1, h2, h3, h4⟩ := h
  obtain ⟨ad, us, a1, a2, a3, a4, ⟨Aj, cj, b1, b2, b3, b4⟩⟩ := h4 k x hx
  have hA : A = A' := by have := List.head_eq_of_cons_eq h1; injection this
  subst hA
  subst b1
  exact ⟨ad, Aj, cj, a1, a2, by have := a4 0 _ rfl; simpa using this, b2, b3, b4⟩
theorem OwnSS.rd (h : OwnSS w lo hi v X) {n : Nat} (hn : X.length = n) : ∃ A c, v = .slice A n c ∧ RdSS w hi A X ∧ n ≤ c ∧ c ≤ maxLen := by
  subst hn
  have h2 : RdRows 1 (RdInts .i64) w hi [v] X := Owns.rd (fun hF hB => RowsR.rd (fun hI hB => hI.rd hB) hF (by omega) hB) h (Nat.le_refl _)
  obtain ⟨A, c, h1, h3, h4, h5⟩ := h2
  have : v = .slice A X.length c := by simpa using h1
  subst this
  exact ⟨A, c, rfl, RdSS.of_rows ⟨A, c, rfl, h3, h4, h5⟩, h3, h4⟩
theorem OwnSS.rd' {n c : Nat} (h : OwnSS w lo hi (.slice A n c) X) : RdSS w hi A X := by
  obtain ⟨A', c', h1, h2, _, _⟩ := h.rd (n := X.length) rfl
  injection h1 with e1 e2 e3
  subst e1
  exact h2
theorem OwnSS.new (h : OwnSS w lo hi v X) (hb : Below w.heap.size w w') : OwnSS w' lo hi v X := Owns.new h SSR_frames hb
theorem OwnSS.below (h : OwnSS w lo hi v X) (hb : Below B w w') (hB : hi ≤ B) : OwnSS w' lo hi v X := Owns.below h SSR_frames hb hB
theorem OwnSS.out (h : OwnSS w lo hi v X) (o : Out lo' hi' w w') (hd : hi ≤ lo' ∨ hi' ≤ lo) : OwnSS w' lo hi v X := Owns.out h SSR_frames o hd
theorem OwnSS.wide (h : OwnSS w lo hi v X) (h1 : lo' ≤ lo) (h2 : hi ≤ hi') : OwnSS w lo' hi' v X := Owns.wide h h1 h2
theorem OwnSS.nil : OwnSS w lo hi (.slice none 0 0) [] := ⟨[], RowsR.nil_, by simp, by simp⟩
theorem IntsR.row {F : List Nat} {u : Value} {zs : List Int} (h : IntsR .i64 3 w F [u] zs) : ∃ a b, Row w a b 3 u (ivs zs) ∧ (∀ x, a ≤ x → x < b → x ∈ F) ∧ (∀ (w' : World) (ys : List Int), Row w' a b 3 u (ivs ys) → IntsR .i64 3 w' F [u] ys) := by
  obtain ⟨u', h1, h2, h3⟩ := h
  have : u = u' := by simpa using h1
  subst this
  have back : ∀ (a b : Nat) (w' : World) (ys : List Int), Row w' a b 3 u (ivs ys) → IntsR .i64 3 w' F [u] ys := fun a b w' ys hr => by
    obtain ⟨F2, ⟨u2, k1, k2, k3⟩, _, _⟩ := Row.owns hr
    have : u = u2 := by simpa using k1
    subst this
    exact ⟨u, rfl, k2, h3⟩
  have hlen : (ivs zs).length = zs.length := ivs_len zs
  rcases h2.2 with ⟨rfl, hn⟩ | ⟨g, cap, cur, rfl, hb, hgg, rest⟩
  · have hz : zs = [] := List.eq_nil_of_length_eq_zero hn
    subst hz
    exact ⟨0, 0, Row.nil, fun x _ h => absurd h (by omega), back 0 0⟩
  · refine ⟨g, g + 1, ⟨⟨by simp, .inr ⟨g, cap, cur, by rw [hlen], Nat.le_refl _, hgg, by rw [hlen]; exact rest⟩⟩, fun x hx => ?_⟩, fun x h1 h2 => ?_, back g (g + 1)⟩
    · simp [Value.ownBlock] at hx; omega
    · have : x = g := by omega
      subst this
      rw [h3]; simp [Value.ownBlock]
/-- One of the slices, and what becomes of all when it alone is turned in place. -/
theorem OwnSS.elem (h : OwnSS w lo hi v X) {k : Nat} (hk : k < X.length) : ∃ (g cap : Nat) (u : Value) (a b : Nat), v = .slice (some ⟨g, 0, none⟩) X.length cap ∧ w.cell? ⟨g, k, none⟩ = some u ∧ w.frozen? ⟨g, k, none⟩ = false ∧ lo ≤ g ∧ g < hi ∧ Row w a b 3 u (ivs X[k]) ∧
    ∀ (w' : World) (x : List Int), Out a b w w' → Row w' a b 3 u (ivs x) → OwnSS w' lo hi v (X.set k x) ∧ Out lo hi w w' := by
  obtain ⟨F, h1, h2, h3⟩ := h
  have hlt := SSR_frames.lt h1
  obtain ⟨v', p, a1, a2, a3, a4, a5, a6⟩ := RowsR.elem h1 hk
  have hvv : v = v' := by simpa using a1
  subst hvv
  obtain ⟨u, hu⟩ : ∃ u, p.2 = [u] := List.length_eq_one_iff.1 a2
  rw [hu] at a3 a5
  obtain ⟨g, cap, b1, b2, b3, b4, b5⟩ := a5 0 u rfl
  rw [show k * 1 + 0 = k by omega] at b4 b5
  obtain ⟨a, b, c1, c2, c3⟩ := a3.row
  refine ⟨g, cap, u, a, b, b1, b4, b5, (h3 g b2).1, (h3 g b2).2, c1, fun w' x ho hr => ⟨⟨F, a6 w' x (IntsR.frames _ _) (fun y hy hne => ?_) (hu ▸ c3 w' x hr), h2, h3⟩, ?_⟩⟩
  · refine ho.block y (hlt y hy) ?_
    rcases Nat.lt_or_ge y a with h' | h'
    · exact .inl h'
    · rcases Nat.lt_or_ge y b with h'' | h''
      · exact absurd (c2 y h' h'') hne
      · exact .inr h''
  · refine ⟨ho.os, ho.tape, ho.output, ho.size, fun y hy hne => ho.block y hy ?_⟩
    rcases Nat.lt_or_ge y a with h' | h'
    · exact .inl h'
    · rcases Nat.lt_or_ge y b with h'' | h''
      · have := h3 y (a4 y (c2 y h' h'')); omega
      · exact .inr h''
/-- A new slice is stored at k. -/
theorem OwnSS.store {g cap M M' : Nat} {u : Value} {x : List Int} (h : OwnSS w lo hi (.slice (some ⟨g, 0, none⟩) X.length cap) X) {k : Nat} (hk : k < X.length) (hr : Row w M M' 3 u (ivs x)) (hM : hi ≤ M) (hM' : M ≤ M') (hlo : lo ≤ hi) :
    OwnSS (w.setCell ⟨g, k, none⟩ u) lo M' (.slice (some ⟨g, 0, none⟩) X.length cap) (X.set k x) := by
  obtain ⟨F, h1, h2, h3⟩ := h
  obtain ⟨F', k1, k2, k3⟩ := Row.owns hr
  obtain ⟨F2, c1, c2, c3⟩ := RowsR.store1 (IntsR.frames _ _) h1 hk k1 (fun b hb hin => by have := (h3 b hin).2; have := (k3 b hb).1; omega) k2 rfl
  refine ⟨F2, c1, c2, fun b hb => ?_⟩
  rcases c3 b hb with hb | hb
  · have := h3 b hb; omega
  · have := k3 b hb; omega
end
theorem set_mixG {α : Type} (xs ys : List α) (k : Nat) (u : α) (hk : k < xs.length) (hl : ys.length = xs.length) (hu : xs[k]? = some u) :
    (xs.take k ++ ys.drop k).set k u = xs.take (k + 1) ++ ys.drop (k + 1) := by
  have h1 : (xs.take k).length = k := by simp; omega
  rw [List.set_append, h1, if_neg (by omega), Nat.sub_self, List.drop_eq_getElem_cons (show k < ys.length by omega)]
  rw [List.getElem?_eq_getElem hk] at hu
  injection hu with hu
  rw [List.set_cons_zero, List.take_succ_eq_append_getElem hk, hu, List.append_assoc]; rfl
theorem mix_len {α : Type} (xs ys : List α) (k : Nat) (hl : ys.length = xs.length) : (xs.take k ++ ys.drop k).length = xs.length := by simp; omega
theorem mix_at {α : Type} (xs ys : List α) (k : Nat) (hk : k < ys.length) (hx : k ≤ xs.length) (h : k < (xs.take k ++ ys.drop k).length) : (xs.take k ++ ys.drop k)[k] = ys[k] := by
  have h1 : (xs.take k).length = k := by simp; omega
  rw [List.getElem_append_right (by omega)]
  simp [h1]
def FreshSS (X : List (List Int)) (w : World) (e : Ending) (w' : World) : Prop :=
  ∃ v, e = .returned v ∧ OwnSS w' w.heap.size w'.heap.size v X ∧ Below w.heap.size w w'
theorem quiet_addQ {P : Program} {f : FuncId} {args : Array Value} {w : World} {a n : Nat} {v : Value} (h : ∀ m, Calls P f args (w.drewN m) fun e w' => e = .returned v ∧ ∃ m', w' = (w.drewN m).drewN m') :
    Calls P f args (w.drewN (a + n)) fun e w'' => e = .returned v ∧ ∃ m, w'' = w.drewN (a + m) :=
  (h (a + n)).mono fun _ _ ⟨he, m, hm⟩ => ⟨he, n + m, by rw [hm, World.drewN_drewN, Nat.add_assoc]⟩
theorem quiet_Q {P : Program} {f : FuncId} {args : Array Value} {w : World} {n : Nat} {v : Value} (h : ∀ m, Calls P f args (w.drewN m) fun e w' => e = .returned v ∧ ∃ m', w' = (w.drewN m).drewN m') :
    Calls P f args (w.drewN n) fun e w'' => e = .returned v ∧ ∃ m, w'' = w.drewN m :=
  (h n).mono fun _ _ ⟨he, m, hm⟩ => ⟨he, n + m, by rw [hm, World.drewN_drewN]⟩
/-- How many integers the first k slices hold. -/
def psum (X : List (List Int)) (k : Nat) : Nat := ((X.take k).map List.length).sum
theorem psum_succ (X : List (List Int)) (k : Nat) (h : k < X.length) : psum X (k + 1) = psum X k + X[k].length := by
  unfold psum
  rw [List.take_succ_eq_append_getElem h, List.map_append, List.sum_append]; simp
theorem psum_zero (X : List (List Int)) : psum X 0 = 0 := rfl
theorem psum_mono (X : List (List Int)) : ∀ (j k : Nat), j ≤ k → psum X j ≤ psum X k := by
  intro j k h
  induction k with
  | zero => have : j = 0 := by omega
            subst this; exact Nat.le_refl _
  | succ k ih =>
    rcases Nat.lt_or_ge k X.length with hk | hk
    · rcases Nat.lt_or_ge j (k + 1) with hj | hj
      · have := ih (by omega); rw [psum_succ X k hk]; omega
      · have : j = k + 1 := by omega
        subst this; exact Nat.le_refl _
    · rcases Nat.lt_or_ge j (k + 1) with hj | hj
      · have := ih (by omega)
        have e : psum X (k + 1) = psum X k := by unfold psum; rw [List.take_of_length_le (by omega), List.take_of_length_le (by omega)]
        omega
      · have : j = k + 1 := by omega
        subst this; exact Nat.le_refl _
theorem psum_mem (X : List (List Int)) (x : List Int) (hx : x ∈ X) : x.length ≤ psum X X.length := by
  obtain ⟨i, hi⟩ := List.getElem?_of_mem hx
  obtain ⟨h1, h2⟩ := List.getElem?_eq_some_iff.1 hi
  have := psum_succ X i h1
  have h3 := psum_mono X (i + 1) X.length h1
  rw [h2] at this
  omega
/-- What markIntSS writes. -/
def smks (q : Int) (X : List (List Int)) : List (List Int) := (List.range X.length).map fun (i : Nat) => imks (q + (psum X i : Int)) (X.getD i []).length
theorem smks_len (q : Int) (X : List (List Int)) : (smks q X).length = X.length := by simp [smks]
theorem smks_get (q : Int) (X : List (List Int)) (k : Nat) (h : k < X.length) : (smks q X)[k]? = some (imks (q + (psum X k : Int)) X[k].length) := by
  simp [smks, h, List.getD]
theorem smks_mem (q : Int) (X : List (List Int)) {B : Nat} (h : ∀ x ∈ X, x.length ≤ B) : ∀ x ∈ smks q X, x.length ≤ B := by
  intro x hx
  obtain ⟨i, hi⟩ := List.getElem?_of_mem hx
  have hil : i < X.length := by rw [← smks_len q X]; exact (List.getElem?_eq_some_iff.1 hi).1
  rw [smks_get q X i hil] at hi
  injection hi with hi
  rw [← hi, imks_len]
  exact h _ (List.getElem_mem _)
def MarkedSS (q : Int) (lo hi : Nat) (v : Value) (X : List (List Int)) (w : World) (e : Ending) (w' : World) : Prop :=
  e = .returned (.int .i64 q) ∧ OwnSS w' lo hi v X ∧ Out lo hi w w'
end Go.Proofs.YtignchefkihdaaaDoor
