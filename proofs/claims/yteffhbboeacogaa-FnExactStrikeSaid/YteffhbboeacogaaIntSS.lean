/- Contracts of the laws' own helpers over [][]int: toIntSS copies all, eqIntSS compares, markIntSS writes k, k+1, .. into each integer, heldIntSS asks for them, szIntSS counts. For every slice of at most 2^40 elements, each of at most 2^40; no other condition. -/
import Derived.Test.YteffhbboeacogaaIntS
import Derived.Test.YteffhbboeacogaaDeep2
namespace Go.Proofs.Yteffhbboeacogaa
open Go.ChangeShapes Go.WideShapes Go.ChangeAt Go.RowKit
theorem IntSS_info : (Try.prog.info? 24).map (fun i => (i.zero, i.size, i.bytes)) = some (some (.slice none 0 0), 1, 24) := by kernel_rfl
abbrev SSR : World → List Nat → List Value → List (List Int) → Prop := RowsR 24 1 (IntsR .i64 3)
theorem SSR_frames : Frames SSR := RowsR.frames (IntsR.frames _ _)
def OwnSS (w : World) (lo hi : Nat) (v : Value) (X : List (List Int)) : Prop := Owns SSR w lo hi [v] X
/-- What is only read. -/
def RdSS (w : World) (B : Nat) (A : Option Addr) (X : List (List Int)) : Prop :=
  ∀ (k : Nat) (x : List Int), X[k]? = some x → ∃ (ad : Addr) (Aj : Option Addr) (cj : Nat), A = some ad ∧ ad.block < B ∧ w.cell? (ad.add k) = some (.slice Aj x.length cj) ∧ x.length ≤ cj ∧ cj ≤ maxLen ∧ Rd w B Aj (ivs x)
section
variable {w w' : World} {B B' lo hi lo' hi' : Nat} {A : Option Addr} {X : List (List Int)} {v : Value}
theorem RdSS.keep (h : RdSS w B A X) (hk : ∀ b, b < B → w'.heap[b]? = w.heap[b]?) : RdSS w' B A X := fun k x hx => by
  obtain ⟨ad, Aj, cj, a1, a2, a3, a4, a5, a6⟩ := h k x hx
  exact ⟨ad, Aj, cj, a1, a2, (World.cell?_of_block (hk _ (by rw [add_blk]; exact a2))).trans a3, a4, a5, a6.keep hk⟩
theorem RdSS.below (h : RdSS w B A X) (hb : Below B w w') : RdSS w' B A X := h.keep hb.block
theorem RdSS.more (h : RdSS w B A X) (hB : B ≤ B') : RdSS w B' A X := fun k x hx => by
  obtain ⟨ad, Aj, cj, a1, a2, a3, a4, a5, a6⟩ := h k x hx
  exact ⟨ad, Aj, cj, a1, by omega, a3, a4, a5, a6.more hB⟩
theorem RdSS.drewN (h : RdSS w B A X) (n : Nat) : RdSS (w.drewN n) B A X := h
theorem RdSS.at_ (h : RdSS w B A X) {k : Nat} (hk : k < X.length) : ∃ (ad : Addr) (Aj : Option Addr) (cj : Nat), A = some ad ∧ ad.block < B ∧ w.cell? (ad.add k) = some (.slice Aj X[k].length cj) ∧ X[k].length ≤ cj ∧ cj ≤ maxLen ∧ Rd w B Aj (ivs X[k]) :=
  h k _ (List.getElem?_eq_getElem hk)
theorem RdSS.of_rows {c : Nat} (h : RdRows 1 (RdInts .i64) w B [.slice A X.length c] X) : RdSS w B A X := fun k x hx => by
  obtain ⟨A', c', h1, h2, h3, h4⟩ := h
  obtain ⟨ad, us, a1, a2, a3, a4, ⟨Aj, cj, b1, b2, b3, b4⟩⟩ := h4 k x hx
  have hA : A = A' := by have := List.head_eq_of_cons_eq h1; injection this
  subst hA
  subst b1
  exact ⟨ad, Aj, cj, a1, a2, by have := a4 0 _ rfl; simpa using this, b2, b3, b4⟩
theorem OwnSS.rd (h : OwnSS w lo hi v X) {n : Nat} (hn : X.length = n) : ∃ A c, v = .slice A n c ∧ RdSS w hi A X ∧ n ≤ c ∧ c ≤ maxLen := by
  subst hn
  have h2 : RdRows 1 (RdInts .i64) w hi [v] X := Owns.rd (fun hF hB => RowsR.rd (fun hI hB => hI.rd hB) hF (by omega) hB) h (Nat.le_refl _)
  obtain ⟨A, c, h1, h3, h4, h5⟩ := h2
  have : v = .slice A X.length c := by simpa using h1
  subst this
  exact ⟨A, c, rfl, RdSS.of_rows ⟨A, c, rfl, h3, h4, h5⟩, h3, h4⟩
theorem OwnSS.rd' {n c : Nat} (h : OwnSS w lo hi (.slice A n c) X) : RdSS w hi A X := by
  obtain ⟨A', c', h1, h2, _, _⟩ := h.rd (n := X.length) rfl
  injection h1 with e1 e2 e3
  subst e1
  exact h2
theorem OwnSS.new (h : OwnSS w lo hi v X) (hb : Below w.heap.size w w') : OwnSS w' lo hi v X := Owns.new h SSR_frames hb
theorem OwnSS.below (h : OwnSS w lo hi v X) (hb : Below B w w') (hB : hi ≤ B) : OwnSS w' lo hi v X := Owns.below h SSR_frames hb hB
theorem OwnSS.out (h : OwnSS w lo hi v X) (o : Out lo' hi' w w') (hd : hi ≤ lo' ∨ hi' ≤ lo) : OwnSS w' lo hi v X := Owns.out h SSR_frames o hd
theorem OwnSS.wide (h : OwnSS w lo hi v X) (h1 : lo' ≤ lo) (h2 : hi ≤ hi') : OwnSS w lo' hi' v X := Owns.wide h h1 h2
theorem OwnSS.nil : OwnSS w lo hi (.slice none 0 0) [] := ⟨[], RowsR.nil_, by simp, by simp⟩
theorem IntsR.row {F : List Nat} {u : Value} {zs : List Int} (h : IntsR .i64 3 w F [u] zs) : ∃ a b, Row w a b 3 u (ivs zs) ∧ (∀ x, a ≤ x → x < b → x ∈ F) ∧ (∀ (w' : World) (ys : List Int), Row w' a b 3 u (ivs ys) → IntsR .i64 3 w' F [u] ys) := by
  obtain ⟨u', h1, h2, h3⟩ := h
  have : u = u' := by simpa using h1
  subst this
  have back : ∀ (a b : Nat) (w' : World) (ys : List Int), Row w' a b 3 u (ivs ys) → IntsR .i64 3 w' F [u] ys := fun a b w' ys hr => by
    obtain ⟨F2, ⟨u2, k1, k2, k3⟩, _, _⟩ := Row.owns hr
    have : u = u2 := by simpa using k1
    subst this
    exact ⟨u, rfl, k2, h3⟩
  have hlen : (ivs zs).length = zs.length := ivs_len zs
  rcases h2.2 with ⟨rfl, hn⟩ | ⟨g, cap, cur, rfl, hb, hgg, rest⟩
  · have hz : zs = [] := List.eq_nil_of_length_eq_zero hn
    subst hz
    exact ⟨0, 0, Row.nil, fun x _ h => absurd h (by omega), back 0 0⟩
  · refine ⟨g, g + 1, ⟨⟨by simp, .inr ⟨g, cap, cur, by rw [hlen], Nat.le_refl _, hgg, by rw [hlen]; exact rest⟩⟩, fun x hx => ?_⟩, fun x h1 h2 => ?_, back g (g + 1)⟩
    · simp [Value.ownBlock] at hx; omega
    · have : x = g := by omega
      subst this
      rw [h3]; simp [Value.ownBlock]
/-- One of the slices, and what becomes of all when it alone is turned in place. -/
theorem OwnSS.elem (h : OwnSS w lo hi v X) {k : Nat} (hk : k < X.length) : ∃ (g cap : Nat) (u : Value) (a b : Nat), v = .slice (some ⟨g, 0, none⟩) X.length cap ∧ w.cell? ⟨g, k, none⟩ = some u ∧ w.frozen? ⟨g, k, none⟩ = false ∧ lo ≤ g ∧ g < hi ∧ Row w a b 3 u (ivs X[k]) ∧
    ∀ (w' : World) (x : List Int), Out a b w w' → Row w' a b 3 u (ivs x) → OwnSS w' lo hi v (X.set k x) ∧ Out lo hi w w' := by
  obtain ⟨F, h1, h2, h3⟩ := h
  have hlt := SSR_frames.lt h1
  obtain ⟨v', p, a1, a2, a3, a4, a5, a6⟩ := RowsR.elem h1 hk
  have hvv : v = v' := by simpa using a1
  subst hvv
  obtain ⟨u, hu⟩ : ∃ u, p.2 = [u] := List.length_eq_one_iff.1 a2
  rw [hu] at a3 a5
  obtain ⟨g, cap, b1, b2, b3, b4, b5⟩ := a5 0 u rfl
  rw [show k * 1 + 0 = k by omega] at b4 b5
  obtain ⟨a, b, c1, c2, c3⟩ := a3.row
  refine ⟨g, cap, u, a, b, b1, b4, b5, (h3 g b2).1, (h3 g b2).2, c1, fun w' x ho hr => ⟨⟨F, a6 w' x (IntsR.frames _ _) (fun y hy hne => ?_) (hu ▸ c3 w' x hr), h2, h3⟩, ?_⟩⟩
  · refine ho.block y (hlt y hy) ?_
    rcases Nat.lt_or_ge y a with h' | h'
    · exact .inl h'
    · rcases Nat.lt_or_ge y b with h'' | h''
      · exact absurd (c2 y h' h'') hne
      · exact .inr h''
  · refine ⟨ho.os, ho.tape, ho.output, ho.size, fun y hy hne => ho.block y hy ?_⟩
    rcases Nat.lt_or_ge y a with h' | h'
    · exact .inl h'
    · rcases Nat.lt_or_ge y b with h'' | h''
      · have := h3 y (a4 y (c2 y h' h'')); omega
      · exact .inr h''
/-- A new slice is stored at k. -/
theorem OwnSS.store {g cap M M' : Nat} {u : Value} {x : List Int} (h : OwnSS w lo hi (.slice (some ⟨g, 0, none⟩) X.length cap) X) {k : Nat} (hk : k < X.length) (hr : Row w M M' 3 u (ivs x)) (hM : hi ≤ M) (hM' : M ≤ M') (hlo : lo ≤ hi) :
    OwnSS (w.setCell ⟨g, k, none⟩ u) lo M' (.slice (some ⟨g, 0, none⟩) X.length cap) (X.set k x) := by
  obtain ⟨F, h1, h2, h3⟩ := h
  obtain ⟨F', k1, k2, k3⟩ := Row.owns hr
  obtain ⟨F2, c1, c2, c3⟩ := RowsR.store1 (IntsR.frames _ _) h1 hk k1 (fun b hb hin => by have := (h3 b hin).2; have := (k3 b hb).1; omega) k2 rfl
  refine ⟨F2, c1, c2, fun b hb => ?_⟩
  rcases c3 b hb with hb | hb
  · have := h3 b hb; omega
  · have := k3 b hb; omega
end
theorem set_mixG {α : Type} (xs ys : List α) (k : Nat) (u : α) (hk : k < xs.length) (hl : ys.length = xs.length) (hu : xs[k]? = some u) :
    (xs.take k ++ ys.drop k).set k u = xs.take (k + 1) ++ ys.drop (k + 1) := by
  have h1 : (xs.take k).length = k := by simp; omega
  rw [List.set_append, h1, if_neg (by omega), Nat.sub_self, List.drop_eq_getElem_cons (show k < ys.length by omega)]
  rw [List.getElem?_eq_getElem hk] at hu
  injection hu with hu
  rw [List.set_cons_zero, List.take_succ_eq_append_getElem hk, hu, List.append_assoc]; rfl
theorem mix_len {α : Type} (xs ys : List α) (k : Nat) (hl : ys.length = xs.length) : (xs.take k ++ ys.drop k).length = xs.length := by simp; omega
theorem mix_at {α : Type} (xs ys : List α) (k : Nat) (hk : k < ys.length) (hx : k ≤ xs.length) (h : k < (xs.take k ++ ys.drop k).length) : (xs.take k ++ ys.drop k)[k] = ys[k] := by
  have h1 : (xs.take k).length = k := by simp; omega
  rw [List.getElem_append_right (by omega)]
  simp [h1]
def FreshSS (X : List (List Int)) (w : World) (e : Ending) (w' : World) : Prop :=
  ∃ v, e = .returned v ∧ OwnSS w' w.heap.size w'.heap.size v X ∧ Below w.heap.size w w'
theorem quiet_addQ {P : Program} {f : FuncId} {args : Array Value} {w : World} {a n : Nat} {v : Value} (h : ∀ m, Calls P f args (w.drewN m) fun e w' => e = .returned v ∧ ∃ m', w' = (w.drewN m).drewN m') :
    Calls P f args (w.drewN (a + n)) fun e w'' => e = .returned v ∧ ∃ m, w'' = w.drewN (a + m) :=
  (h (a + n)).mono fun _ _ ⟨he, m, hm⟩ => ⟨he, n + m, by rw [hm, World.drewN_drewN, Nat.add_assoc]⟩
theorem quiet_Q {P : Program} {f : FuncId} {args : Array Value} {w : World} {n : Nat} {v : Value} (h : ∀ m, Calls P f args (w.drewN m) fun e w' => e = .returned v ∧ ∃ m', w' = (w.drewN m).drewN m') :
    Calls P f args (w.drewN n) fun e w'' => e = .returned v ∧ ∃ m, w'' = w.drewN m :=
  (h n).mono fun _ _ ⟨he, m, hm⟩ => ⟨he, n + m, by rw [hm, World.drewN_drewN]⟩
/-- How many integers the first k slices hold. -/
def psum (X : List (List Int)) (k : Nat) : Nat := ((X.take k).map List.length).sum
theorem psum_succ (X : List (List Int)) (k : Nat) (h : k < X.length) : psum X (k + 1) = psum X k + X[k].length := by
  unfold psum
  rw [List.take_succ_eq_append_getElem h, List.map_append, List.sum_append]; simp
theorem psum_zero (X : List (List Int)) : psum X 0 = 0 := rfl
theorem psum_mono (X : List (List Int)) : ∀ (j k : Nat), j ≤ k → psum X j ≤ psum X k := by
  intro j k h
  induction k with
  | zero => have : j = 0 := by omega
            subst this; exact Nat.le_refl _
  | succ k ih =>
    rcases Nat.lt_or_ge k X.length with hk | hk
    · rcases Nat.lt_or_ge j (k + 1) with hj | hj
      · have := ih (by omega); rw [psum_succ X k hk]; omega
      · have : j = k + 1 := by omega
        subst this; exact Nat.le_refl _
    · rcases Nat.lt_or_ge j (k + 1) with hj | hj
      · have := ih (by omega)
        have e : psum X (k + 1) = psum X k := by unfold psum; rw [List.take_of_length_le (by omega), List.take_of_length_le (by omega)]
        omega
      · have : j = k + 1 := by omega
        subst this; exact Nat.le_refl _
theorem psum_mem (X : List (List Int)) (x : List Int) (hx : x ∈ X) : x.length ≤ psum X X.length := by
  obtain ⟨i, hi⟩ := List.getElem?_of_mem hx
  obtain ⟨h1, h2⟩ := List.getElem?_eq_some_iff.1 hi
  have := psum_succ X i h1
  have h3 := psum_mono X (i + 1) X.length h1
  rw [h2] at this
  omega
/-- What markIntSS writes. -/
def smks (q : Int) (X : List (List Int)) : List (List Int) := (List.range X.length).map fun (i : Nat) => imks (q + (psum X i : Int)) (X.getD i []).length
theorem smks_len (q : Int) (X : List (List Int)) : (smks q X).length = X.length := by simp [smks]
theorem smks_get (q : Int) (X : List (List Int)) (k : Nat) (h : k < X.length) : (smks q X)[k]? = some (imks (q + (psum X k : Int)) X[k].length) := by
  simp [smks, h, List.getD]
theorem smks_mem (q : Int) (X : List (List Int)) {B : Nat} (h : ∀ x ∈ X, x.length ≤ B) : ∀ x ∈ smks q X, x.length ≤ B := by
  intro x hx
  obtain ⟨i, hi⟩ := List.getElem?_of_mem hx
  have hil : i < X.length := by rw [← smks_len q X]; exact (List.getElem?_eq_some_iff.1 hi).1
  rw [smks_get q X i hil] at hi
  injection hi with hi
  rw [← hi, imks_len]
  exact h _ (List.getElem_mem _)
def MarkedSS (q : Int) (lo hi : Nat) (v : Value) (X : List (List Int)) (w : World) (e : Ending) (w' : World) : Prop :=
  e = .returned (.int .i64 q) ∧ OwnSS w' lo hi v X ∧ Out lo hi w w'
end Go.Proofs.Yteffhbboeacogaa
