/- A team of the call's own whose slice is appended to: what the row of teams then is (OwnT.grow). No conditions. -/
import Derived.Test.YthkigilegnjglaaMg4
import Derived.Test.YthkigilegnjglaaMg6
import Derived.Test.YthkigilegnjglaaMg1
import Derived.Lib.SliceRun
import Derived.Maps.Own
import Derived.Maps.Views
import Derived.Maps.OwnSet
namespace Go.Proofs.Ythkigilegnjglaa
open Go.ChangeShapes Go.WideShapes Go.ChangeAt Go.RowKit
set_option maxRecDepth 100000
/-- One cell of one element is stored anew behind a call that turned only what that element owns. -/
theorem Owns.grow1 {X : Type} {R : World → List Nat → List Value → X → Prop} {e : TypeId} {size lo hi hi' g cap i j : Nat} {w w' : World} {l : List X} {u : Value} {x' : X} (hR : Frames R) (h : Owns (RowsR e size R) w lo hi [.slice (some ⟨g, 0, none⟩) l.length cap] l) (hi_ : i < l.length) (hj : j < size)
    (hx : ∀ F us, us.length = size → R w F us l[i] → F.Nodup → (∀ b ∈ F, lo ≤ b ∧ b < hi) → g ∉ F → (∀ jj v, us[jj]? = some v → w.cell? ⟨g, i * size + jj, none⟩ = some v) → (∀ b, b < w.heap.size → b ∉ F → w'.heap[b]? = w.heap[b]?) ∧ ∃ Fn, R w' Fn (us.set j u) x' ∧ Fn.Nodup ∧ ∀ b ∈ Fn, b ∈ F ∨ (hi ≤ b ∧ b < hi')) (hh : hi ≤ hi') (hlo : lo ≤ hi) :
    Owns (RowsR e size R) (w'.setCell ⟨g, i * size + j, none⟩ u) lo hi' [.slice (some ⟨g, 0, none⟩) l.length cap] (l.set i x') := by
  obtain ⟨F, hrr, hFn, hF⟩ := h
  have hall0 : ∀ b ∈ F, b < w.heap.size := (RowsR.frames hR).lt hrr
  obtain ⟨v, es, h1, h2, h3, h4, h5, h6, h7⟩ := hrr
  have hvv : v = .slice (some ⟨g, 0, none⟩) l.length cap := by simpa using h1.symm
  subst hvv
  have hown : (Value.slice (some ⟨g, 0, none⟩) l.length cap).ownBlock.toList = [g] := rfl
  rw [hown] at h4
  have hgF : g ∈ F := by rw [h4]; simp
  rw [h4] at h5
  obtain ⟨n1, n2, n3⟩ := List.nodup_append.1 h5
  have hie : i < es.length := by omega
  have hq : es[i]? = some es[i] := List.getElem?_eq_getElem hie
  have hqx := h7 i _ _ hq (List.getElem?_eq_getElem hi_)
  have hsub : ∀ b ∈ es[i].1, b ∈ es.flatMap (·.1) := fun b hb => mem_flat1 hq hb
  have hFm : ∀ b ∈ es.flatMap (·.1), b ∈ F := fun b hb => by rw [h4]; exact List.mem_append_right _ hb
  have hgi : g ∉ es[i].1 := fun hg => n3 g (by simp) g (hsub g hg) rfl
  have hall : ∀ (es : List (List Nat × List Value)) (i : Nat) (hi : i < es.length), (es.flatMap (·.1)).Nodup → es[i].1.Nodup ∧ ∀ k (hk : k < es.length), k ≠ i → ∀ b ∈ es[k].1, b ∉ es[i].1 := by
    intro es
    induction es with
    | nil => intro i hi; exact absurd hi (Nat.not_lt_zero _)
    | cons r es ih =>
      intro i hi hn
      rw [List.flatMap_cons] at hn
      obtain ⟨m1, m2, m3⟩ := List.nodup_append.1 hn
      cases i with
      | zero =>
        refine ⟨m1, fun k hk hne b hb hb2 => ?_⟩
        cases k with
        | zero => exact absurd rfl hne
        | succ k => exact m3 b hb2 b (mem_flat1 (List.getElem?_eq_getElem (show k < es.length by simpa using hk)) hb) rfl
      | succ i =>
        have hi' : i < es.length := by simpa using hi
        refine ⟨(ih i hi' m2).1, fun k hk hne b hb hb2 => ?_⟩
        cases k with
        | zero => exact m3 b hb b (mem_flat1 (List.getElem?_eq_getElem hi') hb2) rfl
        | succ k => exact (ih i hi' m2).2 k (by simpa using hk) (by omega) b hb hb2
  obtain ⟨hqn, hdis⟩ := hall es i hie n2
  have hcells : ∀ jj v, es[i].2[jj]? = some v → w.cell? ⟨g, i * size + jj, none⟩ = some v := fun jj v hjv => by
    have hjl : jj < size := by rw [← h6 _ (List.getElem_mem hie)]; exact (List.getElem?_eq_some_iff.1 hjv).1
    have hil : i * size + jj < l.length * size := by
      have : (i + 1) * size ≤ l.length * size := Nat.mul_le_mul_right _ hi_
      rw [Nat.succ_mul] at this
      omega
    rw [h3.cellAt _ hil, flat_at h6 i jj hjl hq]; exact hjv
  obtain ⟨hkeep, Fn, k1, k2, k3⟩ := hx es[i].1 es[i].2 (h6 _ (List.getElem_mem _)) hqx hqn (fun b hb => hF b (hFm b (hsub b hb))) hgi hcells
  have hnew : ∀ b ∈ Fn, b ∈ es[i].1 ∨ b ∉ es.flatMap (·.1) := fun b hb => (k3 b hb).imp id fun hr hin => by have := (hF b (hFm b hin)).2; omega
  have hgn : ∀ b ∈ Fn, b ≠ g := fun b hb hbg => by
    subst hbg
    rcases k3 b hb with hr | hr
    · exact hgi hr
    · have := (hF b hgF).2; omega
  have hnd : ([g] ++ (es.set i (Fn, es[i].2.set j u)).flatMap (·.1)).Nodup := by
    refine List.nodup_append.2 ⟨n1, nodup_set2 n2 k2 hq hnew, fun a ha b hb hab => ?_⟩
    subst hab
    have hag : a = g := by simpa using ha
    subst hag
    rcases mem_set_flat hb with hb | hb
    · exact n3 a (by simp) a hb rfl
    · exact hgn a hb rfl
  have hfar : ∀ b, b ≠ g → (w'.setCell ⟨g, i * size + j, none⟩ u).heap[b]? = w'.heap[b]? := fun b hb => heap_setCell_other w' ⟨g, i * size + j, none⟩ b u hb
  have hg' : w'.heap[g]? = w.heap[g]? := hkeep g (hall0 g hgF) hgi
  have h3' : w'.ownsRow 0 e size (.slice (some ⟨g, 0, none⟩) l.length cap) l.length (es.flatMap (·.2)) := ownsRow_keep h3 (fun b hb => by
    have : g = b := by simpa [Value.ownBlock] using hb
    subst this
    exact hg')
  refine ⟨[g] ++ (es.set i (Fn, es[i].2.set j u)).flatMap (·.1), ⟨_, es.set i (Fn, es[i].2.set j u), rfl, by simp [h2], ?_, rfl, hnd, fun p hp => ?_, fun k p y hkp hky => ?_⟩, hnd, fun b hb => ?_⟩
  · rw [flatK_set h6 hq hj, List.length_set]
    exact (h3'.stored (i * size + j) u).1
  · rcases List.mem_or_eq_of_mem_set hp with hp | rfl
    · exact h6 p hp
    · rw [List.length_set]; exact h6 _ (List.getElem_mem _)
  · rcases Nat.decEq k i with hne | rfl
    · rw [List.getElem?_set_ne (by omega)] at hkp hky
      refine hR.keep (h7 k p y hkp hky) (fun b hb => ?_)
      have hbm := mem_flat1 hkp hb
      rw [hfar b (fun hbg => by subst hbg; exact n3 b (by simp) b hbm rfl)]
      obtain ⟨hkl, rfl⟩ := List.getElem?_eq_some_iff.1 hkp
      exact hkeep b (hall0 b (hFm b hbm)) (hdis k hkl hne b hb)
    · rw [List.getElem?_set_self (by omega)] at hkp hky
      injection hkp with hkp
      injection hky with hky
      subst hkp
      subst hky
      exact hR.keep k1 (fun b hb => hfar b (hgn b hb))
  · rw [List.mem_append] at hb
    rcases hb with hb | hb
    · have : b = g := by simpa using hb
      subst this
      have := hF b hgF; omega
    · rcases mem_set_flat hb with hb | hb
      · have := hF b (hFm b hb); omega
      · rcases k3 b hb with hr | hr
        · have := hF b (hFm b (hsub b hr)); omega
        · omega
section
variable {w w' : World} {lo hi hi' g n c k : Nat} {X : List Tm} {u u' : Value} {ys : List Int} {a b : Nat}
/-- The slice of the team at k, as a row of the call's own. -/
theorem OwnT.cell5 (h : OwnT w lo hi (.slice (some ⟨g, 0, none⟩) n c) X) (hn : X.length = n) (hk : k < X.length) : ∃ u : Value, w.cell? ⟨g, k * 6 + 5, none⟩ = some u ∧ Row w lo hi 3 u (ivs X[k].met) ∧ u.ownBlock ≠ some g := by
  subst hn
  obtain ⟨F, h1, h2, h3⟩ := h
  obtain ⟨v', p, a1, a2, a3, a4, a5, a6⟩ := RowsR.elem h1 hk
  obtain ⟨u, hu, q⟩ := a3
  rw [hu] at a5
  obtain ⟨g', cap, b1, b2, b3, b4, b5⟩ := a5 5 u rfl
  have hvv : Value.slice (some ⟨g, 0, none⟩) X.length c = v' := by simpa using a1
  rw [← hvv] at b1
  injection b1 with e1 _ _
  injection e1 with e1
  injection e1 with e1
  subst e1
  obtain ⟨u2, q1, q2, q3⟩ := q
  have : u = u2 := by simpa using q1
  subst this
  refine ⟨u, b4, ⟨?_, ?_⟩, fun e => b3 (by rw [q3, e]; simp)⟩
  · rw [ivs_len]
    refine ⟨q2.1, ?_⟩
    rcases q2.2 with hn | ⟨g2, cap2, cur2, rfl, hb2, rest⟩
    · exact .inl hn
    · exact .inr ⟨g2, cap2, cur2, rfl, (h3 g2 (a4 g2 (by rw [q3]; simp [Value.ownBlock]))).1, rest⟩
  · intro b hb
    exact (h3 b (a4 b (by rw [q3, hb]; simp))).2
theorem OwnT.grow (h : OwnT w lo hi (.slice (some ⟨g, 0, none⟩) n c) X) (hn : X.length = n) (hk : k < X.length) (hlo : lo ≤ hi) (hhi : hi ≤ w.heap.size) (hc : w.cell? ⟨g, k * 6 + 5, none⟩ = some u) (hr : Row w' a b 3 u' (ivs ys)) (hb : b ≤ hi') (hh : hi ≤ hi')
    (hk1 : ∀ x, x < w.heap.size → u.ownBlock ≠ some x → w'.heap[x]? = w.heap[x]?) (hk2 : ∀ x, u'.ownBlock = some x → u.ownBlock = some x ∨ w.heap.size ≤ x) :
    OwnT (w'.setCell ⟨g, k * 6 + 5, none⟩ u') lo hi' (.slice (some ⟨g, 0, none⟩) n c) (X.set k {X[k] with met := ys}) := by
  subst hn
  refine Owns.grow1 (j := 5) TeamR.frames h hk (by omega) (fun F us hus hx hF hFb hgF hcell => ?_) hh hlo
  obtain ⟨v, rfl, v2, q1, q2, q3⟩ := hx
  have e2 : v = v2 := by simpa using q1
  subst e2
  have e3 : v = u := by
    have := hcell 5 v rfl
    rw [hc] at this
    injection this with this
    exact this.symm
  subst e3
  refine ⟨fun x hx hxF => hk1 x hx (fun e => hxF (by rw [q3, e]; simp)), ?_⟩
  obtain ⟨Fn, k1, k2, k3⟩ := Row.owns hr
  obtain ⟨v3, k4, k5, k6⟩ := k1
  have e4 : u' = v3 := by simpa using k4
  subst e4
  refine ⟨Fn, ⟨u', rfl, u', rfl, k5, k6⟩, k2, fun x hx => ?_⟩
  have hxo : u'.ownBlock = some x := by
    rw [k6] at hx
    simpa using hx
  rcases hk2 x hxo with e | e
  · exact .inl (by rw [q3, e]; simp)
  · exact .inr ⟨by omega, by have := (k3 x hx).2; omega⟩
end
end Go.Proofs.Ythkigilegnjglaa

/- Contract of slices.Clone. Condition: the slice has at most 2^40 elements. -/
namespace Go.Proofs.Ythkigilegnjglaa
open Go.ChangeShapes Go.WideShapes Go.ChangeAt Go.RowKit
set_option maxRecDepth 100000
theorem clone_any {w : World} {A : Option Addr} {n c : Nat} {xs : List Int} (hl : Hid (xs.length = n)) (hn : n ≤ 1099511627776) (hr : Rd w w.heap.size A (ivs xs)) :
    Calls Try.prog 123 #[.slice A n c] w (Fresh 3 (ivs xs) w) := by
  obtain ⟨i0, hi, hz0, hz1, hz2⟩ := info_parts IntS_info
  have q22 : ∀ (w : World) (a : Option Addr) (n c n' c' : Nat), (binOp .eql 45 (.slice a n c) (.slice none n' c')).run Try.prog w = .ok (.bool a.isNone) w := fun w a n c n' c' => Lib.run_eql_slice_nil w _ _ a n c n' c' Try.underlying45
  cases A with
  | none =>
    have hx : xs = [] := by
      cases xs with
      | nil => rfl
      | cons x xs =>
        obtain ⟨ad, e, _⟩ := ivs_at hr (k := 0) (by simp)
        cases e
    subst hx
    go_enter Try.func123, Try.ntmps123
    go_wp2
    go_ret
    exact ⟨_, rfl, Row.nil, Below.refl _ _⟩
  | some ad =>
    have hrow0 := Row.made (w := w) w.heap.size #[] 0 3 (Nat.le_refl _) rfl (Nat.zero_le _)
    have hb0 : Below w.heap.size w (w.alloc (Obj.cells #[] 3)) := (Below.refl _ _).alloc (Nat.le_refl _) _
    have hr1 := hr.below hb0
    have L : ([] : List Value).length + n ≤ maxLen ∧ (([] : List Value).length + n) * 8 ≤ 140737488355328 := by unfold maxLen; simp; omega
    have L1 := Lib.hid L
    have HLn := Lib.hid (show (ivs xs).length = n by rw [ivs_len, hl.out])
    clear L
    go_enter Try.func123, Try.ntmps123
    go_wp2_with (at_builtin; refine wpList_app rfl (.tmp 5) (.tmp 6) 45 rfl 3 i0 _ 8 Try.underlying45 hi hz0 hz1 hz2 rfl rfl rfl hrow0 HLn.out hr1 int_one L1.out.1 L1.out.2 (by simp) ?_; intro v1 w1 hrow1 ho1)
    go_ret
    exact ⟨v1, rfl, by simpa using hrow1, hb0.trans (ho1.below (Nat.le_refl _) (by simp))⟩
end Go.Proofs.Ythkigilegnjglaa

/- Maps from integers to integers that a call made, told by a function (f: what a key has) and the list of its keys. Conditions: keys and values of 64 bits. -/
namespace Go.Proofs.Ythkigilegnjglaa
open Go.ChangeShapes Go.WideShapes Go.ChangeAt Go.RowKit
set_option maxRecDepth 100000
theorem im_law : Maps.Keyed Try.prog 3 := Maps.int_keyed Try.underlying3
theorem im_zero (w : World) : (zeroValue 3).run Try.prog w = .ok (.int .i64 0) w := by kernel_rfl
theorem i6_wf {a : Int} (h : I6 a) : (Lit.int .i64 a).wf = true := by
  unfold I6 at h
  simp only [Lit.wf, Bool.and_eq_true, decide_eq_true_eq]
  exact h
theorem i6_of {a : Int} (h : (Lit.int .i64 a).wf = true) : I6 a := by simpa [Lit.wf, I6] using h
theorem i6_key {a : Int} (h : I6 a) : keyOf Try.prog 3 (.int .i64 a) = some (.int .i64 a) := Maps.keyOf_int_mk Try.underlying3 (i6_wf h)
theorem i6_small {a : Int} (h1 : -9000000000000000000 ≤ a) (h2 : a ≤ 9000000000000000000) : I6 a := by
  unfold I6
  have e1 : IntKind.i64.min = -9223372036854775808 := rfl
  have e2 : IntKind.i64.max = 9223372036854775807 := rfl
  omega
/-- Block B is a map with at most n entries, the keys K; key a has f a. -/
def IM (f : Int → Option Int) (K : List Int) (B n : Nat) (w : World) : Prop := ∃ D : DataW Unit, w.ownsMap Try.prog 3 (plainElem (H := Unit) Try.prog 3) B n D ∧ Maps.Tidy D ∧ (∀ a, D.atKey (.int .i64 a) (.lit (.int .i64 0)) = .lit (.int .i64 ((f a).getD 0))) ∧ (∀ a, Maps.has D (.int .i64 a) = (f a).isSome) ∧ Maps.size D = K.length ∧ K.Nodup ∧ (∀ a, a ∈ K ↔ (f a).isSome = true)
def putF (f : Int → Option Int) (a v : Int) : Int → Option Int := fun b => if b = a then some v else f b
def delF (f : Int → Option Int) (a : Int) : Int → Option Int := fun b => if b = a then none else f b
def putK (f : Int → Option Int) (K : List Int) (a : Int) : List Int := if (f a).isSome then K else K ++ [a]
section
variable {f : Int → Option Int} {K : List Int} {B n : Nat} {w w' : World} {a v : Int} {t : TypeId}
theorem IM.lt (h : IM f K B n w) : B < w.heap.size := by
  obtain ⟨D, ho, _⟩ := h
  exact ho.lt
theorem IM.kept (h : IM f K B n w) (hb : w'.heap[B]? = w.heap[B]?) : IM f K B n w' := by
  obtain ⟨D, ⟨es, clock, h1, h2⟩, h3⟩ := h
  exact ⟨D, ⟨es, clock, hb.trans h1, h2⟩, h3⟩
theorem IM.new (h : IM f K B n w) (hb : Below w.heap.size w w') : IM f K B n w' := h.kept (hb.block B h.lt)
theorem IM.out {lo hi : Nat} (h : IM f K B n w) (o : Out lo hi w w') (hd : B < lo ∨ hi ≤ B) : IM f K B n w' := h.kept (o.block B h.lt hd)
theorem IM.more {n' : Nat} (h : IM f K B n w) (hn : n ≤ n') : IM f K B n' w := by
  obtain ⟨D, ho, h2⟩ := h
  exact ⟨D, ho.mono hn, h2⟩
theorem IM.made (w : World) : IM (fun _ => none) [] w.heap.size 0 (w.alloc (.map #[] 0)) := ⟨.map [], World.ownsMap_made w _ _ _, Maps.tidy_empty, fun _ => rfl, fun _ => rfl, rfl, List.nodup_nil, by simp⟩
theorem IM.size (h : IM f K B n w) (ht : Try.prog.underlying t = some (.map 3 3)) (ty : TypeId) : (Builtin.len_ #[t] ty #[.map (some B)]).run Try.prog w = .ok (.int .i64 (K.length : Nat)) w := by
  obtain ⟨D, ⟨es, clock, hb, _, _, hD⟩, _, _, _, h1, _⟩ := h
  have e : Maps.size D = es.size := by
    rw [hD, Maps.size_eq, length_sorted]
    simp
  rw [e] at h1
  rw [← h1]
  simp [Builtin.len_, run_underlying ht, MapKept.run_getObj_map hb, goInt]
theorem IM.get (h : IM f K B n w) (ht : Try.prog.underlying t = some (.map 3 3)) (ha : I6 a) : (Instr.lookup t (.map (some B)) (.int .i64 a) false).run Try.prog w = .ok (.int .i64 ((f a).getD 0)) w := by
  obtain ⟨D, ho, hm, hat, _⟩ := h
  obtain ⟨u, ps, hrun, hv⟩ := ho.lookup im_law ht (im_zero w) (plainElem_int Try.underlying3 (by decide)) (i6_key ha)
  rw [hat a] at hv
  rw [hrun]
  obtain ⟨x, rfl, hx, _⟩ := plainElem_int_inv Try.underlying3 hv
  simp at hx
  rw [hx.1]
theorem IM.put (h : IM f K B n w) (ht : Try.prog.underlying t = some (.map 3 3)) (hn : n < 1099511627776) (ha : I6 a) (hv : I6 v) :
    ∃ w', (Instr.mapUpdate t (.map (some B)) (.int .i64 a) (.int .i64 v)).run Try.prog w = .ok () w' ∧ IM (putF f a v) (putK f K a) B (n + 1) w' ∧ Out B (B + 1) w w' := by
  obtain ⟨D, ho, htd, hat, hhas, hsz, hnd, hk⟩ := h
  have hm := htd.isMap
  have hkl : WideAt.IsKeyLit (.int .i64 a) := trivial
  obtain ⟨w', hrun, ho', hg⟩ := ho.update im_law ht (by unfold maxLen; omega) (i6_key ha) (plainElem_int Try.underlying3 (i6_wf hv))
  refine ⟨w', hrun, ⟨_, ho', htd.put hkl _, fun b => ?_, fun b => ?_, ?_, ?_, fun b => ?_⟩, ⟨hg.os, hg.tape, hg.output, hg.size, fun k hk hd => hg.block k hk (by simp; omega)⟩⟩
  · unfold putF
    by_cases e : b = a
    · subst e
      rw [Maps.atKey_put_same hm (show WideAt.IsKeyLit (.int .i64 b) from trivial)]
      simp
    · rw [Maps.atKey_put_other (by simpa using e), hat b, if_neg e]
  · unfold putF
    by_cases e : b = a
    · subst e
      rw [Maps.has_put_same hm hkl]
      simp
    · rw [Maps.has_put_other (by simpa using e), hhas b, if_neg e]
  · rw [Maps.size_put htd, hhas a]
    unfold putK
    split <;> simp_all
  · unfold putK
    split
    · exact hnd
    · rename_i hc
      exact List.nodup_append.2 ⟨hnd, by simp, fun x hx y hy e => by
        have : y = a := by simpa using hy
        subst this
        subst e
        exact hc ((hk x).1 hx)⟩
  · unfold putK putF
    by_cases e : b = a
    · subst e
      simp only [if_true, Option.isSome_some, iff_true]
      split
      · rename_i hc
        exact (hk b).2 hc
      · simp
    · rw [if_neg e]
      split
      · exact hk b
      · simp only [List.mem_append, List.mem_singleton, e, or_false]
        exact hk b
theorem IM.ok (h : IM f K B n w) (ht : Try.prog.underlying t = some (.map 3 3)) (ha : I6 a) : (Instr.lookup t (.map (some B)) (.int .i64 a) true).run Try.prog w = .ok (.tuple #[.int .i64 ((f a).getD 0), .bool (f a).isSome]) w := by
  obtain ⟨D, ho, hm, hat, hhas, _⟩ := h
  obtain ⟨u, ps, hrun, hv⟩ := ho.look_ok im_law ht (im_zero w) (plainElem_int Try.underlying3 (by decide)) (i6_key ha)
  rw [hat a] at hv
  rw [hrun, hhas a]
  obtain ⟨x, rfl, hx, _⟩ := plainElem_int_inv Try.underlying3 hv
  simp at hx
  rw [hx.1]
def delK (K : List Int) (a : Int) : List Int := K.filter fun b => decide (b ≠ a)
theorem IM.del (h : IM f K B n w) (ht : Try.prog.underlying t = some (.map 3 3)) (ha : I6 a) (ty : TypeId) :
    ∃ w', (Builtin.delete_ #[t, 3] ty #[.map (some B), .int .i64 a]).run Try.prog w = .ok (.tuple #[]) w' ∧ IM (delF f a) (delK K a) B n w' ∧ Out B (B + 1) w w' := by
  obtain ⟨D, ho, htd, hat, hhas, hsz, hnd, hk⟩ := h
  obtain ⟨w', hrun, ho', hg⟩ := ho.drop im_law ht (i6_key ha) ty
  refine ⟨w', hrun, ⟨_, ho', htd.del _, fun b => ?_, fun b => ?_, ?_, ?_, fun b => ?_⟩, ⟨hg.grown.os, hg.grown.tape, hg.grown.output, hg.grown.size, fun k hk hd => hg.grown.block k hk (by simp; omega)⟩⟩
  · unfold delF
    by_cases e : b = a
    · subst e
      rw [Maps.atKey_del_same]
      simp
    · rw [Maps.atKey_del_other (by simpa using e), hat b, if_neg e]
  · unfold delF
    by_cases e : b = a
    · subst e
      rw [Maps.has_del_same]
      simp
    · rw [Maps.has_del_other (by simpa using e), hhas b, if_neg e]
  · have h1 := Maps.size_del (k := .int .i64 a) htd
    rw [hhas a] at h1
    have h2 : (delK K a).length + (if (f a).isSome then 1 else 0) = K.length := by
      unfold delK
      by_cases hc : a ∈ K
      · rw [if_pos ((hk a).1 hc)]
        have := hnd.erase_eq_filter a
        rw [show K.filter (fun b => decide (b ≠ a)) = K.erase a by rw [this]; congr 1; funext b; by_cases e : b = a <;> simp [e]]
        rw [List.length_erase_of_mem hc]
        have := List.length_pos_of_mem hc
        omega
      · rw [if_neg (fun h => hc ((hk a).2 h))]
        rw [List.filter_eq_self.2 (fun b hb => by simp; rintro rfl; exact hc hb)]
        rfl
    omega
  · exact hnd.filter _
  · unfold delK delF
    rw [List.mem_filter]
    by_cases e : b = a
    · subst e
      simp
    · rw [if_neg e]
      simp [e, hk b]
end
end Go.Proofs.Ythkigilegnjglaa
