/- Contracts of the code's teamPlacesOf, has, FindTeam, HaveMet. Conditions: Ids of 64 bits; at most 2^40 teams. -/
import Derived.Test.YthkigilegnjglaaMg12
import Derived.Test.YthkigilegnjglaaMg15
namespace Go.Proofs.Ythkigilegnjglaa
open Go.ChangeShapes Go.WideShapes Go.ChangeAt Go.RowKit Go.Shelf
attribute [local go_sem] Oper.semAt_some
set_option maxRecDepth 100000
theorem boxed_new {W W' : World} {g : Nat} {t : TypeId} {v : Value} (h : Boxed W g t v) (hb : Below W.heap.size W W') : Boxed W' g t v := (hb.block g (Array.getElem?_eq_some_iff.1 h).1).trans h
theorem tp_under : Try.prog.underlying 94 = some (.map 3 3) := Try.underlying94
set_option maxHeartbeats 4000000 in
theorem teamPlacesOf_any {w : World} {A : Option Addr} {N c : Nat} {X : List Tm} (hl : Hid (X.length = N)) (hN : N ≤ 1000000000000) (hok : Hid (∀ x ∈ X, I6 x.id)) (hr : RdT w w.heap.size A X) :
    Calls Try.prog 87 #[.slice A N c] w (fun e w' => ∃ K, e = .returned (.map (some w.heap.size)) ∧ IM (fndO X) K w.heap.size N w' ∧ Below w.heap.size w w') := by
  obtain ⟨V, hrc⟩ := hr.vals
  refine (callsIn_wide (n := 3)).1 ?_
  have h1 : 1 ≤ 3 := by omega
  -- the boxes ahead of the loop
  have m1 := IM.made w
  have b1 : Below w.heap.size w (w.alloc (.map #[] 0)) := (Below.refl _ _).alloc (Nat.le_refl _) _
  obtain ⟨W1, hW1⟩ : ∃ u : World, w.alloc (.map #[] 0) = u := ⟨_, rfl⟩
  have hs1 : W1.heap.size = w.heap.size + 1 := by rw [← hW1]; simp
  rw [hW1] at b1 m1
  have b2 : Below W1.heap.size W1 (W1.alloc (Obj.cells #[.map (some w.heap.size)] 94)) := (Below.refl _ _).alloc (Nat.le_refl _) _
  have c2 := Bx.made W1 94 #[.map (some w.heap.size)]
  obtain ⟨W2, hW2⟩ : ∃ u : World, W1.alloc (Obj.cells #[.map (some w.heap.size)] 94) = u := ⟨_, rfl⟩
  have hs2 : W2.heap.size = w.heap.size + 1 + 1 := by rw [← hW2]; simp [hs1]
  rw [hW2] at b2 c2
  rw [hs1] at c2
  have b3 : Below W2.heap.size W2 (W2.alloc (Obj.cells #[.slice A N c] 30)) := (Below.refl _ _).alloc (Nat.le_refl _) _
  have c3 := Bx.made W2 30 #[.slice A N c]
  obtain ⟨W3, hW3⟩ : ∃ u : World, W2.alloc (Obj.cells #[.slice A N c] 30) = u := ⟨_, rfl⟩
  have hs3 : W3.heap.size = w.heap.size + 1 + 1 + 1 := by rw [← hW3]; simp [hs2]
  rw [hW3] at b3 c3
  rw [hs2] at c3
  have HW2 := Lib.hid (show (w.alloc (.map #[] 0)).alloc (Obj.cells #[.map (some w.heap.size)] 94) = W2 by rw [hW1, hW2])
  have HW3 := Lib.hid hW3
  have HS2 := Lib.hid hs2
  have k3 := (b1.trans (b2.mono b1.size)).trans (b3.mono (by omega))
  have k2 := b1.trans (b2.mono b1.size)
  have m3 := (m1.new b2).new b3
  have d2 := c2.new b3
  have e3 := c3.at_ (k := 0) rfl
  have HR := Lib.hid (hrc.below k3)
  clear hW1 hW2 hW3 m1 c2 c3 b1 b2 b3 hr hrc hs1 hs2
  have hmm := @run_makeMap Try.prog
  refine callsIn_of_wp_marks Try.func87 rfl trivial ?_ rfl
  simp only [Try.ntmps87, List.size_toArray, List.length_cons, List.length_nil, Nat.reduceAdd, Nat.reduceSub, Array.replicate_succ, Array.replicate_zero, List.push_toArray, List.append_toArray, List.nil_append, List.cons_append]
  gi_wp2_with fail
  refine ⟨trivial, ?_⟩
  rw [HW2.out]
  refine (callsIn_wide.2 backT_any).mono ?_
  rintro e w5 ⟨rfl, rfl⟩
  rw [HW3.out]
  rw [HS2.out]
  gi_wp2_with fail
  have hM : w.heap.size < w.heap.size + 1 + 1 + 1 := by omega
  refine wpIn_rangeFunc_ownH rfl h1 (gf := 136) (lb := #[.pointer (some ⟨w.heap.size + 1 + 1, 0, none⟩)]) rfl trivial (enters_of Try.func136 (by kernel_rfl) rfl)
    (backT_stops 2 (by omega) (w.heap.size + 1 + 1) w.heap.size (w.heap.size + 1 + 1 + 1) hl (by omega) e3 (by omega) (by omega) hM HR.out (by omega)) (fun h k => KeptBut.trans h k) (KeptBut.put (by omega)) (Below.refl _ _) (fun _ => rfl)
    (fun pre W => Boxed W (w.heap.size + 1) 94 (.map (some w.heap.size)) ∧ (∃ K, IM (plF X pre) K w.heap.size pre.length W) ∧ Below w.heap.size w W ∧ w.heap.size + 1 + 1 + 1 ≤ W.heap.size)
    (fun _ _ _ => False)
    (fun pre W W' row hs hg hr => ?own)
    (fun _ _ _ _ _ hs _ _ => hs)
    ⟨d2, ⟨_, m3⟩, k3, by omega⟩
    (fun x a' W => ∃ G, Bx W G 82 #[.int .i64 (X.getD x tmD).id, .int .i64 (X.getD x tmD).club, .int .i64 (X.getD x tmD).wins, .int .i64 (X.getD x tmD).pts, .int .i64 (X.getD x tmD).firsts, slV (X.getD x tmD) (V.getD x slD)] ∧ a' = { tmps := #[.slice A N c, undef, .map none, .pointer (some ⟨w.heap.size + 1, 0, none⟩), .int .i64 (plN X x : Int), .pointer (some ⟨G, 0, none⟩), .map (some w.heap.size), .slice A N c, .func (.func 136) #[] #[.pointer (some ⟨w.heap.size + 1 + 1, 0, none⟩)], .int .i64 (plN X x : Int), tmV (X.getD x tmD) (slV (X.getD x tmD) (V.getD x slD)), undef, undef, undef, undef, undef], defers := [] })
    (fun x a' _ W W' row hs hg hr => ?axown) ?assign ?body ?done ?stop
  case own =>
    obtain ⟨i1, ⟨K, i2⟩, i3, i4⟩ := hs
    have hne : ∀ r, row = some r → w.heap.size + 1 + 1 + 1 ≤ r := fun r e => by have := (hr r e).1; omega
    exact ⟨i1.kept hg (fun e => by have := hne _ e.symm; omega), ⟨K, i2.kept (hg.block _ i2.lt (fun e => by have := hne _ e.symm; omega))⟩, i3.grown hg i3.size (fun k e => by have := hne k e; omega), Nat.le_trans i4 hg.size⟩
  case axown =>
    obtain ⟨G, hb, e⟩ := hs
    refine ⟨G, (hg.block G hb.lt (fun e2 => ?_)).trans hb, e⟩
    obtain ⟨_, o, ho, hc⟩ := hr G e2.symm
    rw [show W.heap[G]? = _ from hb] at ho
    cases ho
    cases hc
  case assign =>
    rintro l pre x W K ⟨i1, ⟨K', i2⟩, i3, i4⟩ hK
    obtain ⟨y, hy⟩ : ∃ y, X.getD x tmD = y := ⟨_, rfl⟩
    obtain ⟨z, hz⟩ : ∃ z, V.getD x slD = z := ⟨_, rfl⟩
    obtain ⟨q, hq⟩ : ∃ q, plN X x = q := ⟨_, rfl⟩
    rw [hy, hz, hq] at hK
    simp only [encT, hy, hz, hq]
    have hbn : Below W.heap.size W (W.alloc (Obj.cells #[.int .i64 y.id, .int .i64 y.club, .int .i64 y.wins, .int .i64 y.pts, .int .i64 y.firsts, slV y z] 82)) := (Below.refl _ _).alloc (Nat.le_refl _) _
    have HK := Lib.hid (hK _ _ ⟨hbn.size, fun k o _ hk _ => (hbn.block k (Array.getElem?_eq_some_iff.1 hk).1).trans hk⟩ ⟨hbn.size, fun b hb _ => hbn.block b (by omega)⟩ ⟨boxed_new i1 hbn, ⟨K', i2.new hbn⟩, i3.trans (hbn.mono i3.size), Nat.le_trans i4 hbn.size⟩ ⟨_, Bx.made _ _ _, rfl⟩)
    clear hK hy hz hq
    gi_wp2_with fail
    exact HK.out
  case body =>
    rintro l pre x a' W _ _ ⟨i1, ⟨K', i2⟩, i3, i4⟩ ⟨G, hbx, rfl⟩ hlt
    have hid : I6 (X.getD x tmD).id := by
      by_cases hx : x < X.length
      · simp only [List.getD, List.getElem?_eq_getElem hx, Option.getD_some]
        exact hok.out _ (List.getElem_mem _)
      · rw [show X.getD x tmD = tmD by simp [List.getD, List.getElem?_eq_none (by omega : X.length ≤ x)]]
        exact i6_small (by decide) (by decide)
    have hpl := plN_le X x
    have hXl := hl.out
    obtain ⟨w9, hrun, hm9, ho9⟩ := i2.put tp_under (by omega) hid (i6_small (a := (plN X x : Int)) (by omega) (by omega))
    rw [← plF_snoc] at hm9
    have c0 := i1.cell
    have g0 : W.cell? ⟨G, 0, none⟩ = some (.int .i64 (X.getD x tmD).id) := by rw [cell_of_row _ _ _ _ _ _ hbx]; rfl
    have hlw := i3.size
    have HF := Lib.hid (show KeepsFrom (w.heap.size + 1 + 1 + 1) W w9 ∧ KeptBut w.heap.size (w.heap.size + 1 + 1 + 1) W w9 ∧ Boxed w9 (w.heap.size + 1) 94 (.map (some w.heap.size)) ∧ (∃ K, IM (plF X (pre ++ [x])) K w.heap.size (pre ++ [x]).length w9) ∧ Below w.heap.size w w9 ∧ w.heap.size + 1 + 1 + 1 ≤ w9.heap.size from
      ⟨⟨ho9.size, fun k o hk1 hk2 _ => (ho9.block k (Array.getElem?_eq_some_iff.1 hk2).1 (.inr (by omega))).trans hk2⟩, ⟨ho9.size, fun b hb hne => by
        rcases Nat.lt_or_ge b W.heap.size with h' | h'
        · exact ho9.block b h' (by omega)
        · omega⟩, (ho9.block _ i1.lt (.inr (by omega))).trans i1, ⟨_, by simpa using hm9⟩, i3.trans (ho9.below (Nat.le_refl _) hlw), Nat.le_trans i4 ho9.size⟩)
    obtain ⟨y, hy⟩ : ∃ y, X.getD x tmD = y := ⟨_, rfl⟩
    obtain ⟨q, hq⟩ : ∃ q, plN X x = q := ⟨_, rfl⟩
    obtain ⟨z, hz⟩ : ∃ z, V.getD x slD = z := ⟨_, rfl⟩
    rw [hy] at hrun g0
    rw [hq] at hrun
    rw [hy, hq, hz]
    clear hm9 ho9 hy hq hz i1 i2 hbx hid
    gi_wp2_with fail
    exact ⟨by rw [hs3]; exact HF.out.1, HF.out.2⟩
  case done =>
    rintro D ys W hD rfl ⟨i1, ⟨K', i2⟩, i3, i4⟩ hK
    have c0 := i1.cell
    rw [plF_all hl.out] at i2
    gi_wp2
    refine ⟨by simp, .inl ⟨_, _, rfl, run_takeDeferred hK, ?_⟩⟩
    refine ⟨_, results_tmp rfl _ _ _, K', rfl, ?_, i3.trans (belowK_b (w := w) (Nat.le_refl _) W D _ _ (by omega) hK rfl rfl)⟩
    refine (i2.kept (World.putObj_heap_other (by omega))).more ?_
    rw [dnL_len]; omega
  case stop =>
    rintro D c pre W _ _ h _
    exact h.elim
theorem plHas_any {w : World} {f : Int → Option Int} {K : List Int} {B n : Nat} {a : Int} (h : IM f K B n w) (ha : I6 a) :
    Calls Try.prog 88 #[.map (some B), .int .i64 a] w (fun e w' => e = .returned (.bool (f a).isSome) ∧ w = w') := by
  have hrun := h.ok tp_under ha
  go_enter Try.func88, Try.ntmps88
  go_wp2_with fail
  go_ret
  exact ⟨rfl, rfl⟩
end Go.Proofs.Ythkigilegnjglaa
