/- Contract of twoTeams, of MayMeet and TotalWins, the code's and the models'. Condition: integers of 64 bits; the slice has at most 2^20 elements, each team's at most 2^20. -/
import Derived.Test.YthkigilegnjglaaTeq
import Derived.Test.YthkigilegnjglaaAtC
import Derived.Test.YthkigilegnjglaaAtM
import Derived.Test.YthkigilegnjglaaTmC
import Derived.Test.YthkigilegnjglaaTmM
namespace Go.Proofs.Ythkigilegnjglaa
open Go.ChangeShapes Go.WideShapes Go.ChangeAt Go.RowKit
set_option maxRecDepth 100000
def twB (X : List Tm) (a b : Int) : Bool := atB X && (fndO X a).isSome && (fndO X b).isSome
theorem IM.get' {f : Int → Option Int} {K : List Int} {B n : Nat} {w : World} {a v : Int} {t : TypeId} (h : IM f K B n w) (ht : Try.prog.underlying t = some (.map 3 3)) (ha : I6 a) (hv : f a = some v) : (Instr.lookup t (.map (some B)) (.int .i64 a) false).run Try.prog w = .ok (.int .i64 v) w := by
  have := h.get ht ha
  rwa [hv] at this
set_option maxHeartbeats 8000000 in
theorem twoTeams_no {w : World} {A : Option Addr} {n c : Nat} {X : List Tm} {a b : Int} (hl : Hid (X.length = n)) (hn : n ≤ 1048576) (hs : Hid (∀ x ∈ X, x.met.length ≤ 1048576)) (hok : Hid (∀ x ∈ X, x.ok)) (ha : Hid (I6 a)) (hb : Hid (I6 b)) (hr : RdT w w.heap.size A X) (hno : Hid (twB X a b = false)) :
    Calls Try.prog 81 #[.slice A n c, .int .i64 a, .int .i64 b] w (fun e w' => e = .returned (.tuple #[.agg #[Value.int .i64 0, .int .i64 0, .int .i64 0, .int .i64 0, .int .i64 0, .slice none 0 0], .agg #[Value.int .i64 0, .int .i64 0, .int .i64 0, .int .i64 0, .int .i64 0, .slice none 0 0], .bool false]) ∧ Below w.heap.size w w') := by
  obtain ⟨W1, hW1, x1, b1, z1⟩ := box6 w 82 (.int .i64 0) (.int .i64 0) (.int .i64 0) (.int .i64 0) (.int .i64 0) (.slice none 0 0)
  obtain ⟨W2, hW2, x2, b2, z2⟩ := box6 W1 82 (.int .i64 0) (.int .i64 0) (.int .i64 0) (.int .i64 0) (.int .i64 0) (.slice none 0 0)
  have b12 := b1.trans (b2.mono b1.size)
  have y1 := x1.new b2
  rw [z1] at x2 z2
  have HW := Lib.hid (show (w.alloc (Obj.cells #[Value.int .i64 0, .int .i64 0, .int .i64 0, .int .i64 0, .int .i64 0, .slice none 0 0] 82)).alloc (Obj.cells #[Value.int .i64 0, .int .i64 0, .int .i64 0, .int .i64 0, .int .i64 0, .slice none 0 0] 82) = W2 by rw [hW1, hW2])
  have HZ := Lib.hid z2
  have HB := Lib.hid b12
  have HR := Lib.hid ((hr.below b12).more b12.size)
  have HX1 := Lib.hid y1
  have HX2 := Lib.hid x2
  clear hW1 hW2 x1 x2 b1 b2 z1 z2 b12 y1 hr

  cases hT : atB X with
  | false =>
    have HT := Lib.hid hT
    clear hT
    go_enter Try.func81, Try.ntmps81
    go_wp2_with fail
    rw [HW.out]
    try (go_wp2_with fail)
    refine (teamPlacesOf_any hl (by omega) (Lib.hid fun x hx => (hok.out x hx).1) HR.out).mono ?_
    rintro e W3 ⟨K, rfl, hm, b3⟩
    have HR3 := Lib.hid ((HR.out.below b3).more b3.size)
    have HM3 := Lib.hid hm
    have HB3 := Lib.hid b3
    clear hm b3
    go_wp2_with fail
    refine (impAreTeams_any hl hn hs hok HR3.out).mono ?_
    rintro e W4 ⟨rfl, b4⟩
    rw [HT.out]
    have HM4 := Lib.hid (HM3.out.new b4)
    have HB5 := Lib.hid (HB3.out.trans (b4.mono HB3.out.size))
    have HR4 := Lib.hid ((HR3.out.below b4).more b4.size)
    clear b4
    have x5 := HX1.out.new (HB5.out)
    have x6 := HX2.out.new (HB5.out)
    have hb9 := HB.out.trans (HB5.out.mono HB.out.size)
    obtain ⟨m0, m1, m2, m3, m4, m5⟩ := x5.c6 (Below.refl _ _)
    obtain ⟨n0, n1, n2, n3, n4, n5⟩ := x6.c6 (Below.refl _ _)
    have p0 := x5.free 0
    have p1 := x5.free 1
    have p2 := x5.free 2
    have p3 := x5.free 3
    have p4 := x5.free 4
    have p5 := x5.free 5
    have q0 := x6.free 0
    have q1 := x6.free 1
    have q2 := x6.free 2
    have q3 := x6.free 3
    have q4 := x6.free 4
    have q5 := x6.free 5
    have HF := Lib.hid (((x5.sets6 (.int .i64 0) (.int .i64 0) (.int .i64 0) (.int .i64 0) (.int .i64 0) (.slice none 0 0)).far6 (g' := w.heap.size + 1) (by omega) (.int .i64 0) (.int .i64 0) (.int .i64 0) (.int .i64 0) (.int .i64 0) (.slice none 0 0)).c6 (Below.refl _ _))
    have HG := Lib.hid (((x6.far6 (g' := w.heap.size) (by omega) (.int .i64 0) (.int .i64 0) (.int .i64 0) (.int .i64 0) (.int .i64 0) (.slice none 0 0)).sets6 (.int .i64 0) (.int .i64 0) (.int .i64 0) (.int .i64 0) (.int .i64 0) (.slice none 0 0)).c6 (Below.refl _ _))
    have HQ := Lib.hid (below_sets6 (g := w.heap.size + 1) (x := .int .i64 0) (y := .int .i64 0) (z := .int .i64 0) (u := .int .i64 0) (v := .int .i64 0) (s := .slice none 0 0) (below_sets6 (g := w.heap.size) (x := .int .i64 0) (y := .int .i64 0) (z := .int .i64 0) (u := .int .i64 0) (v := .int .i64 0) (s := .slice none 0 0) hb9 (by omega)) (by omega))
    clear x5 x6 hb9
    go_wp2_with fail
    refine bodyPost_ret (v := .tuple #[.agg #[Value.int .i64 0, .int .i64 0, .int .i64 0, .int .i64 0, .int .i64 0, .slice none 0 0], .agg #[Value.int .i64 0, .int .i64 0, .int .i64 0, .int .i64 0, .int .i64 0, .slice none 0 0], .bool false]) (by simp [results, Try.results81, go_sem, HF.out.1, HF.out.2.1, HF.out.2.2.1, HF.out.2.2.2.1, HF.out.2.2.2.2.1, HF.out.2.2.2.2.2, HG.out.1, HG.out.2.1, HG.out.2.2.1, HG.out.2.2.2.1, HG.out.2.2.2.2.1, HG.out.2.2.2.2.2]) rfl ⟨rfl, HQ.out⟩
  | true =>
    have HT := Lib.hid hT
    clear hT
    cases hA : (fndO X a).isSome with
    | false =>
      have HA := Lib.hid hA
      clear hA

      go_enter Try.func81, Try.ntmps81
      go_wp2_with fail
      rw [HW.out]
      try (go_wp2_with fail)
      refine (teamPlacesOf_any hl (by omega) (Lib.hid fun x hx => (hok.out x hx).1) HR.out).mono ?_
      rintro e W3 ⟨K, rfl, hm, b3⟩
      have HR3 := Lib.hid ((HR.out.below b3).more b3.size)
      have HM3 := Lib.hid hm
      have HB3 := Lib.hid b3
      clear hm b3
      go_wp2_with fail
      refine (impAreTeams_any hl hn hs hok HR3.out).mono ?_
      rintro e W4 ⟨rfl, b4⟩
      rw [HT.out]
      have HM4 := Lib.hid (HM3.out.new b4)
      have HB5 := Lib.hid (HB3.out.trans (b4.mono HB3.out.size))
      have HR4 := Lib.hid ((HR3.out.below b4).more b4.size)
      clear b4
      go_wp2_with fail
      refine (plHas_any HM4.out ha.out).mono ?_
      rintro e u ⟨rfl, rfl⟩
      rw [HA.out]
      have x5 := HX1.out.new (HB5.out)
      have x6 := HX2.out.new (HB5.out)
      have hb9 := HB.out.trans (HB5.out.mono HB.out.size)
      obtain ⟨m0, m1, m2, m3, m4, m5⟩ := x5.c6 (Below.refl _ _)
      obtain ⟨n0, n1, n2, n3, n4, n5⟩ := x6.c6 (Below.refl _ _)
      have p0 := x5.free 0
      have p1 := x5.free 1
      have p2 := x5.free 2
      have p3 := x5.free 3
      have p4 := x5.free 4
      have p5 := x5.free 5
      have q0 := x6.free 0
      have q1 := x6.free 1
      have q2 := x6.free 2
      have q3 := x6.free 3
      have q4 := x6.free 4
      have q5 := x6.free 5
      have HF := Lib.hid (((x5.sets6 (.int .i64 0) (.int .i64 0) (.int .i64 0) (.int .i64 0) (.int .i64 0) (.slice none 0 0)).far6 (g' := w.heap.size + 1) (by omega) (.int .i64 0) (.int .i64 0) (.int .i64 0) (.int .i64 0) (.int .i64 0) (.slice none 0 0)).c6 (Below.refl _ _))
      have HG := Lib.hid (((x6.far6 (g' := w.heap.size) (by omega) (.int .i64 0) (.int .i64 0) (.int .i64 0) (.int .i64 0) (.int .i64 0) (.slice none 0 0)).sets6 (.int .i64 0) (.int .i64 0) (.int .i64 0) (.int .i64 0) (.int .i64 0) (.slice none 0 0)).c6 (Below.refl _ _))
      have HQ := Lib.hid (below_sets6 (g := w.heap.size + 1) (x := .int .i64 0) (y := .int .i64 0) (z := .int .i64 0) (u := .int .i64 0) (v := .int .i64 0) (s := .slice none 0 0) (below_sets6 (g := w.heap.size) (x := .int .i64 0) (y := .int .i64 0) (z := .int .i64 0) (u := .int .i64 0) (v := .int .i64 0) (s := .slice none 0 0) hb9 (by omega)) (by omega))
      clear x5 x6 hb9
      go_wp2_with fail
      refine bodyPost_ret (v := .tuple #[.agg #[Value.int .i64 0, .int .i64 0, .int .i64 0, .int .i64 0, .int .i64 0, .slice none 0 0], .agg #[Value.int .i64 0, .int .i64 0, .int .i64 0, .int .i64 0, .int .i64 0, .slice none 0 0], .bool false]) (by simp [results, Try.results81, go_sem, HF.out.1, HF.out.2.1, HF.out.2.2.1, HF.out.2.2.2.1, HF.out.2.2.2.2.1, HF.out.2.2.2.2.2, HG.out.1, HG.out.2.1, HG.out.2.2.1, HG.out.2.2.2.1, HG.out.2.2.2.2.1, HG.out.2.2.2.2.2]) rfl ⟨rfl, HQ.out⟩
    | true =>
      have HA := Lib.hid hA
      cases hBB : (fndO X b).isSome with
      | true =>
        have := hno.out
        unfold twB at this
        rw [HT.out, hA, hBB] at this
        cases this
      | false =>
        have HBB := Lib.hid hBB
        clear hA hBB
        go_enter Try.func81, Try.ntmps81
        go_wp2_with fail
        rw [HW.out]
        try (go_wp2_with fail)
        refine (teamPlacesOf_any hl (by omega) (Lib.hid fun x hx => (hok.out x hx).1) HR.out).mono ?_
        rintro e W3 ⟨K, rfl, hm, b3⟩
        have HR3 := Lib.hid ((HR.out.below b3).more b3.size)
        have HM3 := Lib.hid hm
        have HB3 := Lib.hid b3
        clear hm b3
        go_wp2_with fail
        refine (impAreTeams_any hl hn hs hok HR3.out).mono ?_
        rintro e W4 ⟨rfl, b4⟩
        rw [HT.out]
        have HM4 := Lib.hid (HM3.out.new b4)
        have HB5 := Lib.hid (HB3.out.trans (b4.mono HB3.out.size))
        have HR4 := Lib.hid ((HR3.out.below b4).more b4.size)
        clear b4
        go_wp2_with fail
        refine (plHas_any HM4.out ha.out).mono ?_
        rintro e u ⟨rfl, rfl⟩
        rw [HA.out]
        go_wp2_with fail
        refine (plHas_any HM4.out hb.out).mono ?_
        rintro e u ⟨rfl, rfl⟩
        rw [HBB.out]
        have x5 := HX1.out.new (HB5.out)
        have x6 := HX2.out.new (HB5.out)
        have hb9 := HB.out.trans (HB5.out.mono HB.out.size)
        obtain ⟨m0, m1, m2, m3, m4, m5⟩ := x5.c6 (Below.refl _ _)
        obtain ⟨n0, n1, n2, n3, n4, n5⟩ := x6.c6 (Below.refl _ _)
        have p0 := x5.free 0
        have p1 := x5.free 1
        have p2 := x5.free 2
        have p3 := x5.free 3
        have p4 := x5.free 4
        have p5 := x5.free 5
        have q0 := x6.free 0
        have q1 := x6.free 1
        have q2 := x6.free 2
        have q3 := x6.free 3
        have q4 := x6.free 4
        have q5 := x6.free 5
        have HF := Lib.hid (((x5.sets6 (.int .i64 0) (.int .i64 0) (.int .i64 0) (.int .i64 0) (.int .i64 0) (.slice none 0 0)).far6 (g' := w.heap.size + 1) (by omega) (.int .i64 0) (.int .i64 0) (.int .i64 0) (.int .i64 0) (.int .i64 0) (.slice none 0 0)).c6 (Below.refl _ _))
        have HG := Lib.hid (((x6.far6 (g' := w.heap.size) (by omega) (.int .i64 0) (.int .i64 0) (.int .i64 0) (.int .i64 0) (.int .i64 0) (.slice none 0 0)).sets6 (.int .i64 0) (.int .i64 0) (.int .i64 0) (.int .i64 0) (.int .i64 0) (.slice none 0 0)).c6 (Below.refl _ _))
        have HQ := Lib.hid (below_sets6 (g := w.heap.size + 1) (x := .int .i64 0) (y := .int .i64 0) (z := .int .i64 0) (u := .int .i64 0) (v := .int .i64 0) (s := .slice none 0 0) (below_sets6 (g := w.heap.size) (x := .int .i64 0) (y := .int .i64 0) (z := .int .i64 0) (u := .int .i64 0) (v := .int .i64 0) (s := .slice none 0 0) hb9 (by omega)) (by omega))
        clear x5 x6 hb9
        go_wp2_with fail
        refine bodyPost_ret (v := .tuple #[.agg #[Value.int .i64 0, .int .i64 0, .int .i64 0, .int .i64 0, .int .i64 0, .slice none 0 0], .agg #[Value.int .i64 0, .int .i64 0, .int .i64 0, .int .i64 0, .int .i64 0, .slice none 0 0], .bool false]) (by simp [results, Try.results81, go_sem, HF.out.1, HF.out.2.1, HF.out.2.2.1, HF.out.2.2.2.1, HF.out.2.2.2.2.1, HF.out.2.2.2.2.2, HG.out.1, HG.out.2.1, HG.out.2.2.1, HG.out.2.2.2.1, HG.out.2.2.2.2.1, HG.out.2.2.2.2.2]) rfl ⟨rfl, HQ.out⟩

set_option maxHeartbeats 8000000 in
theorem twoTeams_yes {w : World} {A : Option Addr} {n c : Nat} {X : List Tm} {a b : Int} {i j : Nat} {x y : Tm} (hl : Hid (X.length = n)) (hn : n ≤ 1048576) (hs : Hid (∀ x ∈ X, x.met.length ≤ 1048576)) (hok : Hid (∀ x ∈ X, x.ok)) (ha : Hid (I6 a)) (hb : Hid (I6 b)) (hr : RdT w w.heap.size A X) (HT : Hid (atB X = true)) (hi : Hid (fndO X a = some (i : Int))) (hj : Hid (fndO X b = some (j : Int))) (hx : Hid (X[i]? = some x)) (hy : Hid (X[j]? = some y)) :
    Calls Try.prog 81 #[.slice A n c, .int .i64 a, .int .i64 b] w (fun e w' => ∃ (Ai : Option Addr) (ci : Nat) (Aj : Option Addr) (cj : Nat), e = .returned (.tuple #[.agg #[Value.int .i64 x.id, .int .i64 x.club, .int .i64 x.wins, .int .i64 x.pts, .int .i64 x.firsts, .slice Ai x.met.length ci], .agg #[Value.int .i64 y.id, .int .i64 y.club, .int .i64 y.wins, .int .i64 y.pts, .int .i64 y.firsts, .slice Aj y.met.length cj], .bool true]) ∧ Below w.heap.size w w' ∧ Rd w' w'.heap.size Ai (ivs x.met) ∧ Rd w' w'.heap.size Aj (ivs y.met)) := by
  have HR0 := Lib.hid hr
  obtain ⟨hil, hxe⟩ := List.getElem?_eq_some_iff.1 hx.out
  obtain ⟨hjl, hye⟩ := List.getElem?_eq_some_iff.1 hy.out
  have hin : i < n := by rw [← hl.out]; exact hil
  have hjn : j < n := by rw [← hl.out]; exact hjl
  obtain ⟨W1, hW1, x1, b1, z1⟩ := box6 w 82 (.int .i64 0) (.int .i64 0) (.int .i64 0) (.int .i64 0) (.int .i64 0) (.slice none 0 0)
  obtain ⟨W2, hW2, x2, b2, z2⟩ := box6 W1 82 (.int .i64 0) (.int .i64 0) (.int .i64 0) (.int .i64 0) (.int .i64 0) (.slice none 0 0)
  have b12 := b1.trans (b2.mono b1.size)
  have y1 := x1.new b2
  rw [z1] at x2 z2
  have HW := Lib.hid (show (w.alloc (Obj.cells #[Value.int .i64 0, .int .i64 0, .int .i64 0, .int .i64 0, .int .i64 0, .slice none 0 0] 82)).alloc (Obj.cells #[Value.int .i64 0, .int .i64 0, .int .i64 0, .int .i64 0, .int .i64 0, .slice none 0 0] 82) = W2 by rw [hW1, hW2])
  have HZ := Lib.hid z2
  have HB := Lib.hid b12
  have HR := Lib.hid ((hr.below b12).more b12.size)
  have HX1 := Lib.hid y1
  have HX2 := Lib.hid x2
  clear hW1 hW2 x1 x2 b1 b2 z1 z2 b12 y1 hr
  have HA := Lib.hid (show (fndO X a).isSome = true by rw [hi.out]; rfl)
  have HBB := Lib.hid (show (fndO X b).isSome = true by rw [hj.out]; rfl)
  go_enter Try.func81, Try.ntmps81
  go_wp2_with fail
  rw [HW.out]
  try (go_wp2_with fail)
  refine (teamPlacesOf_any hl (by omega) (Lib.hid fun x hx => (hok.out x hx).1) HR.out).mono ?_
  rintro e W3 ⟨K, rfl, hm, b3⟩
  have HR3 := Lib.hid ((HR.out.below b3).more b3.size)
  have HM3 := Lib.hid hm
  have HB3 := Lib.hid b3
  clear hm b3
  go_wp2_with fail
  refine (impAreTeams_any hl hn hs hok HR3.out).mono ?_
  rintro e W4 ⟨rfl, b4⟩
  rw [HT.out]
  have HM4 := Lib.hid (HM3.out.new b4)
  have HB5 := Lib.hid (HB3.out.trans (b4.mono HB3.out.size))
  have HR4 := Lib.hid ((HR3.out.below b4).more b4.size)
  clear b4
  go_wp2_with fail
  refine (plHas_any HM4.out ha.out).mono ?_
  rintro e u ⟨rfl, rfl⟩
  rw [HA.out]
  go_wp2_with fail
  refine (plHas_any HM4.out hb.out).mono ?_
  rintro e u ⟨rfl, rfl⟩
  rw [HBB.out]
  have hb9 := HB.out.trans (HB5.out.mono HB.out.size)
  obtain ⟨ad, p, rfl, hp, hab, Ai, ci, h0, h1, h2, h3, h4, h5, _, _, hri⟩ := (HR0.out.below hb9).at_ hil
  obtain ⟨ad', p', e', hp', hab', Aj, cj, g0, g1, g2, g3, g4, g5, _, _, hrj⟩ := (HR0.out.below hb9).at_ hjl
  have na1 : ¬ p.block = w.heap.size := by omega
  have na2 : ¬ w.heap.size = p.block := by omega
  have na3 : ¬ p.block = w.heap.size + 1 := by omega
  have na4 : ¬ w.heap.size + 1 = p.block := by omega
  have nb1 : ¬ p'.block = w.heap.size := by omega
  have nb2 : ¬ w.heap.size = p'.block := by omega
  have nb3 : ¬ p'.block = w.heap.size + 1 := by omega
  have nb4 : ¬ w.heap.size + 1 = p'.block := by omega
  injection e' with e'
  subst e'
  rw [hxe] at h0 h1 h2 h3 h4 h5 hri
  rw [hye] at g0 g1 g2 g3 g4 g5 hrj
  obtain ⟨adx, px, ex, hpx, habx, Ax, cx, k0, k1, k2, k3, k4, k5, _, _, hri0⟩ := HR0.out.at_ hil
  obtain ⟨ady, py, ey, hpy, haby, Ay, cy, l0, l1, l2, l3, l4, l5, _, _, hrj0⟩ := HR0.out.at_ hjl
  injection ex with ex
  subst ex
  injection ey with ey
  subst ey
  have hpx' : p = px := hp.symm.trans hpx
  have hpy' : p' = py := hp'.symm.trans hpy
  subst hpx'
  subst hpy'
  rw [hxe] at k5 hri0
  rw [hye] at l5 hrj0
  have hh5 := (hb9.cell (p := ⟨p.block, p.off + 5, none⟩) (by exact hab)).trans k5
  rw [h5] at hh5
  injection hh5 with hh5
  injection hh5 with e1 e2 e3
  subst e1
  have hg5 := (hb9.cell (p := ⟨p'.block, p'.off + 5, none⟩) (by exact hab')).trans l5
  rw [g5] at hg5
  injection hg5 with hg5
  injection hg5 with e4 e5 e6
  subst e4
  have hri0 := Lib.hid hri0
  have hrj0 := Lib.hid hrj0
  clear hxe hye e2 e3 e5 e6 k0 k1 k2 k3 k4 k5 l0 l1 l2 l3 l4 l5
  have i0 : (0 : Int) ≤ (i : Int) := by omega
  have i1 : (i : Int) < (n : Int) := by omega
  have j0 : (0 : Int) ≤ (j : Int) := by omega
  have j1 : (j : Int) < (n : Int) := by omega
  have x5 := HX1.out.new (HB5.out)
  have x6 := HX2.out.new (HB5.out)
  have lk1 : (Instr.lookup 94 (.map (some W2.heap.size)) (.int .i64 a) false).run Try.prog W4.drew = .ok (.int .i64 (i : Int)) W4.drew := IM.get' (w := W4.drew) HM4.out tp_under ha.out hi.out
  have lk2 : (Instr.lookup 94 (.map (some W2.heap.size)) (.int .i64 b) false).run Try.prog W4.drew = .ok (.int .i64 (j : Int)) W4.drew := IM.get' (w := W4.drew) HM4.out tp_under hb.out hj.out
  obtain ⟨m0, m1, m2, m3, m4, m5⟩ := x5.c6 (Below.refl W4.heap.size W4).drew
  obtain ⟨n0, n1, n2, n3, n4, n5⟩ := x6.c6 (Below.refl W4.heap.size W4).drew
  obtain ⟨mm0, mm1, mm2, mm3, mm4, mm5⟩ := x5.c6 (Below.refl W4.heap.size W4)
  obtain ⟨nn0, nn1, nn2, nn3, nn4, nn5⟩ := x6.c6 (Below.refl W4.heap.size W4)
  have pp0 := x5.free 0
  have qq0 := x6.free 0
  have pp1 := x5.free 1
  have qq1 := x6.free 1
  have pp2 := x5.free 2
  have qq2 := x6.free 2
  have pp3 := x5.free 3
  have qq3 := x6.free 3
  have pp4 := x5.free 4
  have qq4 := x6.free 4
  have pp5 := x5.free 5
  have qq5 := x6.free 5
  have p0 := x5.drew_.free 0
  have p1 := x5.drew_.free 1
  have p2 := x5.drew_.free 2
  have p3 := x5.drew_.free 3
  have p4 := x5.drew_.free 4
  have p5 := x5.drew_.free 5
  have q0 := x6.drew_.free 0
  have q1 := x6.drew_.free 1
  have q2 := x6.drew_.free 2
  have q3 := x6.drew_.free 3
  have q4 := x6.drew_.free 4
  have q5 := x6.drew_.free 5
  have H0 : W4.drew.cell? p = _ := h0
  have H1 : W4.drew.cell? ⟨p.block, p.off + 1, none⟩ = _ := h1
  have H2 : W4.drew.cell? ⟨p.block, p.off + 2, none⟩ = _ := h2
  have H3 : W4.drew.cell? ⟨p.block, p.off + 3, none⟩ = _ := h3
  have H4 : W4.drew.cell? ⟨p.block, p.off + 4, none⟩ = _ := h4
  have H5 : W4.drew.cell? ⟨p.block, p.off + 5, none⟩ = _ := h5
  have G0 : W4.drew.cell? p' = _ := g0
  have G1 : W4.drew.cell? ⟨p'.block, p'.off + 1, none⟩ = _ := g1
  have G2 : W4.drew.cell? ⟨p'.block, p'.off + 2, none⟩ = _ := g2
  have G3 : W4.drew.cell? ⟨p'.block, p'.off + 3, none⟩ = _ := g3
  have G4 : W4.drew.cell? ⟨p'.block, p'.off + 4, none⟩ = _ := g4
  have G5 : W4.drew.cell? ⟨p'.block, p'.off + 5, none⟩ = _ := g5
  have HF := Lib.hid (((x5.sets6 (.int .i64 x.id) (.int .i64 x.club) (.int .i64 x.wins) (.int .i64 x.pts) (.int .i64 x.firsts) (.slice Ai x.met.length ci)).far6 (g' := w.heap.size + 1) (by omega) (.int .i64 y.id) (.int .i64 y.club) (.int .i64 y.wins) (.int .i64 y.pts) (.int .i64 y.firsts) (.slice Aj y.met.length cj)).c6 (Below.refl _ _))
  have HG := Lib.hid (((x6.far6 (g' := w.heap.size) (by omega) (.int .i64 x.id) (.int .i64 x.club) (.int .i64 x.wins) (.int .i64 x.pts) (.int .i64 x.firsts) (.slice Ai x.met.length ci)).sets6 (.int .i64 y.id) (.int .i64 y.club) (.int .i64 y.wins) (.int .i64 y.pts) (.int .i64 y.firsts) (.slice Aj y.met.length cj)).c6 (Below.refl _ _))
  have hz0 : w.heap.size + 1 + 1 = W2.heap.size := HZ.out.symm
  have KS0 : Hid ((Instr.lookup 94 (.map (some W2.heap.size)) (.int .i64 a) false).run Try.prog W4.drew = .ok (.int .i64 (i : Int)) W4.drew ∧ (Instr.lookup 94 (.map (some W2.heap.size)) (.int .i64 b) false).run Try.prog W4.drew = .ok (.int .i64 (j : Int)) W4.drew ∧ W4.drew.cell? p = some (.int .i64 x.id) ∧ W4.drew.cell? ⟨p.block, p.off + 1, none⟩ = some (.int .i64 x.club) ∧ W4.drew.cell? ⟨p.block, p.off + 2, none⟩ = some (.int .i64 x.wins) ∧ W4.drew.cell? ⟨p.block, p.off + 3, none⟩ = some (.int .i64 x.pts) ∧ W4.drew.cell? ⟨p.block, p.off + 4, none⟩ = some (.int .i64 x.firsts) ∧ W4.drew.cell? ⟨p.block, p.off + 5, none⟩ = some (.slice Ai x.met.length ci) ∧ W4.drew.cell? p' = some (.int .i64 y.id) ∧ W4.drew.cell? ⟨p'.block, p'.off + 1, none⟩ = some (.int .i64 y.club) ∧ W4.drew.cell? ⟨p'.block, p'.off + 2, none⟩ = some (.int .i64 y.wins) ∧ W4.drew.cell? ⟨p'.block, p'.off + 3, none⟩ = some (.int .i64 y.pts) ∧ W4.drew.cell? ⟨p'.block, p'.off + 4, none⟩ = some (.int .i64 y.firsts) ∧ W4.drew.cell? ⟨p'.block, p'.off + 5, none⟩ = some (.slice Aj y.met.length cj)) := by
    refine Lib.hid ⟨IM.get' (w := W4.drew) HM4.out tp_under ha.out hi.out, IM.get' (w := W4.drew) HM4.out tp_under hb.out hj.out, ?_, ?_, ?_, ?_, ?_, ?_, ?_, ?_, ?_, ?_, ?_, ?_⟩
    · exact h0
    · exact h1
    · exact h2
    · exact h3
    · exact h4
    · exact h5
    · exact g0
    · exact g1
    · exact g2
    · exact g3
    · exact g4
    · exact g5
  have KS1 : Hid ((Instr.lookup 94 (.map (some W2.heap.size)) (.int .i64 a) false).run Try.prog (set6 W4 w.heap.size (.int .i64 x.id) (.int .i64 x.club) (.int .i64 x.wins) (.int .i64 x.pts) (.int .i64 x.firsts) (.slice Ai x.met.length ci)).drew = .ok (.int .i64 (i : Int)) (set6 W4 w.heap.size (.int .i64 x.id) (.int .i64 x.club) (.int .i64 x.wins) (.int .i64 x.pts) (.int .i64 x.firsts) (.slice Ai x.met.length ci)).drew ∧ (Instr.lookup 94 (.map (some W2.heap.size)) (.int .i64 b) false).run Try.prog (set6 W4 w.heap.size (.int .i64 x.id) (.int .i64 x.club) (.int .i64 x.wins) (.int .i64 x.pts) (.int .i64 x.firsts) (.slice Ai x.met.length ci)).drew = .ok (.int .i64 (j : Int)) (set6 W4 w.heap.size (.int .i64 x.id) (.int .i64 x.club) (.int .i64 x.wins) (.int .i64 x.pts) (.int .i64 x.firsts) (.slice Ai x.met.length ci)).drew ∧ (set6 W4 w.heap.size (.int .i64 x.id) (.int .i64 x.club) (.int .i64 x.wins) (.int .i64 x.pts) (.int .i64 x.firsts) (.slice Ai x.met.length ci)).drew.cell? p = some (.int .i64 x.id) ∧ (set6 W4 w.heap.size (.int .i64 x.id) (.int .i64 x.club) (.int .i64 x.wins) (.int .i64 x.pts) (.int .i64 x.firsts) (.slice Ai x.met.length ci)).drew.cell? ⟨p.block, p.off + 1, none⟩ = some (.int .i64 x.club) ∧ (set6 W4 w.heap.size (.int .i64 x.id) (.int .i64 x.club) (.int .i64 x.wins) (.int .i64 x.pts) (.int .i64 x.firsts) (.slice Ai x.met.length ci)).drew.cell? ⟨p.block, p.off + 2, none⟩ = some (.int .i64 x.wins) ∧ (set6 W4 w.heap.size (.int .i64 x.id) (.int .i64 x.club) (.int .i64 x.wins) (.int .i64 x.pts) (.int .i64 x.firsts) (.slice Ai x.met.length ci)).drew.cell? ⟨p.block, p.off + 3, none⟩ = some (.int .i64 x.pts) ∧ (set6 W4 w.heap.size (.int .i64 x.id) (.int .i64 x.club) (.int .i64 x.wins) (.int .i64 x.pts) (.int .i64 x.firsts) (.slice Ai x.met.length ci)).drew.cell? ⟨p.block, p.off + 4, none⟩ = some (.int .i64 x.firsts) ∧ (set6 W4 w.heap.size (.int .i64 x.id) (.int .i64 x.club) (.int .i64 x.wins) (.int .i64 x.pts) (.int .i64 x.firsts) (.slice Ai x.met.length ci)).drew.cell? ⟨p.block, p.off + 5, none⟩ = some (.slice Ai x.met.length ci) ∧ (set6 W4 w.heap.size (.int .i64 x.id) (.int .i64 x.club) (.int .i64 x.wins) (.int .i64 x.pts) (.int .i64 x.firsts) (.slice Ai x.met.length ci)).drew.cell? p' = some (.int .i64 y.id) ∧ (set6 W4 w.heap.size (.int .i64 x.id) (.int .i64 x.club) (.int .i64 x.wins) (.int .i64 x.pts) (.int .i64 x.firsts) (.slice Ai x.met.length ci)).drew.cell? ⟨p'.block, p'.off + 1, none⟩ = some (.int .i64 y.club) ∧ (set6 W4 w.heap.size (.int .i64 x.id) (.int .i64 x.club) (.int .i64 x.wins) (.int .i64 x.pts) (.int .i64 x.firsts) (.slice Ai x.met.length ci)).drew.cell? ⟨p'.block, p'.off + 2, none⟩ = some (.int .i64 y.wins) ∧ (set6 W4 w.heap.size (.int .i64 x.id) (.int .i64 x.club) (.int .i64 x.wins) (.int .i64 x.pts) (.int .i64 x.firsts) (.slice Ai x.met.length ci)).drew.cell? ⟨p'.block, p'.off + 3, none⟩ = some (.int .i64 y.pts) ∧ (set6 W4 w.heap.size (.int .i64 x.id) (.int .i64 x.club) (.int .i64 x.wins) (.int .i64 x.pts) (.int .i64 x.firsts) (.slice Ai x.met.length ci)).drew.cell? ⟨p'.block, p'.off + 4, none⟩ = some (.int .i64 y.firsts) ∧ (set6 W4 w.heap.size (.int .i64 x.id) (.int .i64 x.club) (.int .i64 x.wins) (.int .i64 x.pts) (.int .i64 x.firsts) (.slice Ai x.met.length ci)).drew.cell? ⟨p'.block, p'.off + 5, none⟩ = some (.slice Aj y.met.length cj)) := by
    refine Lib.hid ⟨IM.get' (w := (set6 W4 w.heap.size (.int .i64 x.id) (.int .i64 x.club) (.int .i64 x.wins) (.int .i64 x.pts) (.int .i64 x.firsts) (.slice Ai x.met.length ci)).drew) (HM4.out.kept (w' := (set6 W4 w.heap.size (.int .i64 x.id) (.int .i64 x.club) (.int .i64 x.wins) (.int .i64 x.pts) (.int .i64 x.firsts) (.slice Ai x.met.length ci)).drew) (set6_heapd (by omega))) tp_under ha.out hi.out, IM.get' (w := (set6 W4 w.heap.size (.int .i64 x.id) (.int .i64 x.club) (.int .i64 x.wins) (.int .i64 x.pts) (.int .i64 x.firsts) (.slice Ai x.met.length ci)).drew) (HM4.out.kept (w' := (set6 W4 w.heap.size (.int .i64 x.id) (.int .i64 x.club) (.int .i64 x.wins) (.int .i64 x.pts) (.int .i64 x.firsts) (.slice Ai x.met.length ci)).drew) (set6_heapd (by omega))) tp_under hb.out hj.out, ?_, ?_, ?_, ?_, ?_, ?_, ?_, ?_, ?_, ?_, ?_, ?_⟩
    · rw [set6_celld (by exact na1)]; exact h0
    · rw [set6_celld (by exact na1)]; exact h1
    · rw [set6_celld (by exact na1)]; exact h2
    · rw [set6_celld (by exact na1)]; exact h3
    · rw [set6_celld (by exact na1)]; exact h4
    · rw [set6_celld (by exact na1)]; exact h5
    · rw [set6_celld (by exact nb1)]; exact g0
    · rw [set6_celld (by exact nb1)]; exact g1
    · rw [set6_celld (by exact nb1)]; exact g2
    · rw [set6_celld (by exact nb1)]; exact g3
    · rw [set6_celld (by exact nb1)]; exact g4
    · rw [set6_celld (by exact nb1)]; exact g5
  have KS2 : Hid ((Instr.lookup 94 (.map (some W2.heap.size)) (.int .i64 a) false).run Try.prog (set6 (set6 W4 w.heap.size (.int .i64 x.id) (.int .i64 x.club) (.int .i64 x.wins) (.int .i64 x.pts) (.int .i64 x.firsts) (.slice Ai x.met.length ci)) (w.heap.size + 1) (.int .i64 y.id) (.int .i64 y.club) (.int .i64 y.wins) (.int .i64 y.pts) (.int .i64 y.firsts) (.slice Aj y.met.length cj)).drew = .ok (.int .i64 (i : Int)) (set6 (set6 W4 w.heap.size (.int .i64 x.id) (.int .i64 x.club) (.int .i64 x.wins) (.int .i64 x.pts) (.int .i64 x.firsts) (.slice Ai x.met.length ci)) (w.heap.size + 1) (.int .i64 y.id) (.int .i64 y.club) (.int .i64 y.wins) (.int .i64 y.pts) (.int .i64 y.firsts) (.slice Aj y.met.length cj)).drew ∧ (Instr.lookup 94 (.map (some W2.heap.size)) (.int .i64 b) false).run Try.prog (set6 (set6 W4 w.heap.size (.int .i64 x.id) (.int .i64 x.club) (.int .i64 x.wins) (.int .i64 x.pts) (.int .i64 x.firsts) (.slice Ai x.met.length ci)) (w.heap.size + 1) (.int .i64 y.id) (.int .i64 y.club) (.int .i64 y.wins) (.int .i64 y.pts) (.int .i64 y.firsts) (.slice Aj y.met.length cj)).drew = .ok (.int .i64 (j : Int)) (set6 (set6 W4 w.heap.size (.int .i64 x.id) (.int .i64 x.club) (.int .i64 x.wins) (.int .i64 x.pts) (.int .i64 x.firsts) (.slice Ai x.met.length ci)) (w.heap.size + 1) (.int .i64 y.id) (.int .i64 y.club) (.int .i64 y.wins) (.int .i64 y.pts) (.int .i64 y.firsts) (.slice Aj y.met.length cj)).drew ∧ (set6 (set6 W4 w.heap.size (.int .i64 x.id) (.int .i64 x.club) (.int .i64 x.wins) (.int .i64 x.pts) (.int .i64 x.firsts) (.slice Ai x.met.length ci)) (w.heap.size + 1) (.int .i64 y.id) (.int .i64 y.club) (.int .i64 y.wins) (.int .i64 y.pts) (.int .i64 y.firsts) (.slice Aj y.met.length cj)).drew.cell? p = some (.int .i64 x.id) ∧ (set6 (set6 W4 w.heap.size (.int .i64 x.id) (.int .i64 x.club) (.int .i64 x.wins) (.int .i64 x.pts) (.int .i64 x.firsts) (.slice Ai x.met.length ci)) (w.heap.size + 1) (.int .i64 y.id) (.int .i64 y.club) (.int .i64 y.wins) (.int .i64 y.pts) (.int .i64 y.firsts) (.slice Aj y.met.length cj)).drew.cell? ⟨p.block, p.off + 1, none⟩ = some (.int .i64 x.club) ∧ (set6 (set6 W4 w.heap.size (.int .i64 x.id) (.int .i64 x.club) (.int .i64 x.wins) (.int .i64 x.pts) (.int .i64 x.firsts) (.slice Ai x.met.length ci)) (w.heap.size + 1) (.int .i64 y.id) (.int .i64 y.club) (.int .i64 y.wins) (.int .i64 y.pts) (.int .i64 y.firsts) (.slice Aj y.met.length cj)).drew.cell? ⟨p.block, p.off + 2, none⟩ = some (.int .i64 x.wins) ∧ (set6 (set6 W4 w.heap.size (.int .i64 x.id) (.int .i64 x.club) (.int .i64 x.wins) (.int .i64 x.pts) (.int .i64 x.firsts) (.slice Ai x.met.length ci)) (w.heap.size + 1) (.int .i64 y.id) (.int .i64 y.club) (.int .i64 y.wins) (.int .i64 y.pts) (.int .i64 y.firsts) (.slice Aj y.met.length cj)).drew.cell? ⟨p.block, p.off + 3, none⟩ = some (.int .i64 x.pts) ∧ (set6 (set6 W4 w.heap.size (.int .i64 x.id) (.int .i64 x.club) (.int .i64 x.wins) (.int .i64 x.pts) (.int .i64 x.firsts) (.slice Ai x.met.length ci)) (w.heap.size + 1) (.int .i64 y.id) (.int .i64 y.club) (.int .i64 y.wins) (.int .i64 y.pts) (.int .i64 y.firsts) (.slice Aj y.met.length cj)).drew.cell? ⟨p.block, p.off + 4, none⟩ = some (.int .i64 x.firsts) ∧ (set6 (set6 W4 w.heap.size (.int .i64 x.id) (.int .i64 x.club) (.int .i64 x.wins) (.int .i64 x.pts) (.int .i64 x.firsts) (.slice Ai x.met.length ci)) (w.heap.size + 1) (.int .i64 y.id) (.int .i64 y.club) (.int .i64 y.wins) (.int .i64 y.pts) (.int .i64 y.firsts) (.slice Aj y.met.length cj)).drew.cell? ⟨p.block, p.off + 5, none⟩ = some (.slice Ai x.met.length ci) ∧ (set6 (set6 W4 w.heap.size (.int .i64 x.id) (.int .i64 x.club) (.int .i64 x.wins) (.int .i64 x.pts) (.int .i64 x.firsts) (.slice Ai x.met.length ci)) (w.heap.size + 1) (.int .i64 y.id) (.int .i64 y.club) (.int .i64 y.wins) (.int .i64 y.pts) (.int .i64 y.firsts) (.slice Aj y.met.length cj)).drew.cell? p' = some (.int .i64 y.id) ∧ (set6 (set6 W4 w.heap.size (.int .i64 x.id) (.int .i64 x.club) (.int .i64 x.wins) (.int .i64 x.pts) (.int .i64 x.firsts) (.slice Ai x.met.length ci)) (w.heap.size + 1) (.int .i64 y.id) (.int .i64 y.club) (.int .i64 y.wins) (.int .i64 y.pts) (.int .i64 y.firsts) (.slice Aj y.met.length cj)).drew.cell? ⟨p'.block, p'.off + 1, none⟩ = some (.int .i64 y.club) ∧ (set6 (set6 W4 w.heap.size (.int .i64 x.id) (.int .i64 x.club) (.int .i64 x.wins) (.int .i64 x.pts) (.int .i64 x.firsts) (.slice Ai x.met.length ci)) (w.heap.size + 1) (.int .i64 y.id) (.int .i64 y.club) (.int .i64 y.wins) (.int .i64 y.pts) (.int .i64 y.firsts) (.slice Aj y.met.length cj)).drew.cell? ⟨p'.block, p'.off + 2, none⟩ = some (.int .i64 y.wins) ∧ (set6 (set6 W4 w.heap.size (.int .i64 x.id) (.int .i64 x.club) (.int .i64 x.wins) (.int .i64 x.pts) (.int .i64 x.firsts) (.slice Ai x.met.length ci)) (w.heap.size + 1) (.int .i64 y.id) (.int .i64 y.club) (.int .i64 y.wins) (.int .i64 y.pts) (.int .i64 y.firsts) (.slice Aj y.met.length cj)).drew.cell? ⟨p'.block, p'.off + 3, none⟩ = some (.int .i64 y.pts) ∧ (set6 (set6 W4 w.heap.size (.int .i64 x.id) (.int .i64 x.club) (.int .i64 x.wins) (.int .i64 x.pts) (.int .i64 x.firsts) (.slice Ai x.met.length ci)) (w.heap.size + 1) (.int .i64 y.id) (.int .i64 y.club) (.int .i64 y.wins) (.int .i64 y.pts) (.int .i64 y.firsts) (.slice Aj y.met.length cj)).drew.cell? ⟨p'.block, p'.off + 4, none⟩ = some (.int .i64 y.firsts) ∧ (set6 (set6 W4 w.heap.size (.int .i64 x.id) (.int .i64 x.club) (.int .i64 x.wins) (.int .i64 x.pts) (.int .i64 x.firsts) (.slice Ai x.met.length ci)) (w.heap.size + 1) (.int .i64 y.id) (.int .i64 y.club) (.int .i64 y.wins) (.int .i64 y.pts) (.int .i64 y.firsts) (.slice Aj y.met.length cj)).drew.cell? ⟨p'.block, p'.off + 5, none⟩ = some (.slice Aj y.met.length cj)) := by
    refine Lib.hid ⟨IM.get' (w := (set6 (set6 W4 w.heap.size (.int .i64 x.id) (.int .i64 x.club) (.int .i64 x.wins) (.int .i64 x.pts) (.int .i64 x.firsts) (.slice Ai x.met.length ci)) (w.heap.size + 1) (.int .i64 y.id) (.int .i64 y.club) (.int .i64 y.wins) (.int .i64 y.pts) (.int .i64 y.firsts) (.slice Aj y.met.length cj)).drew) (HM4.out.kept (w' := (set6 (set6 W4 w.heap.size (.int .i64 x.id) (.int .i64 x.club) (.int .i64 x.wins) (.int .i64 x.pts) (.int .i64 x.firsts) (.slice Ai x.met.length ci)) (w.heap.size + 1) (.int .i64 y.id) (.int .i64 y.club) (.int .i64 y.wins) (.int .i64 y.pts) (.int .i64 y.firsts) (.slice Aj y.met.length cj)).drew) (set66_heapd (by omega) (by omega))) tp_under ha.out hi.out, IM.get' (w := (set6 (set6 W4 w.heap.size (.int .i64 x.id) (.int .i64 x.club) (.int .i64 x.wins) (.int .i64 x.pts) (.int .i64 x.firsts) (.slice Ai x.met.length ci)) (w.heap.size + 1) (.int .i64 y.id) (.int .i64 y.club) (.int .i64 y.wins) (.int .i64 y.pts) (.int .i64 y.firsts) (.slice Aj y.met.length cj)).drew) (HM4.out.kept (w' := (set6 (set6 W4 w.heap.size (.int .i64 x.id) (.int .i64 x.club) (.int .i64 x.wins) (.int .i64 x.pts) (.int .i64 x.firsts) (.slice Ai x.met.length ci)) (w.heap.size + 1) (.int .i64 y.id) (.int .i64 y.club) (.int .i64 y.wins) (.int .i64 y.pts) (.int .i64 y.firsts) (.slice Aj y.met.length cj)).drew) (set66_heapd (by omega) (by omega))) tp_under hb.out hj.out, ?_, ?_, ?_, ?_, ?_, ?_, ?_, ?_, ?_, ?_, ?_, ?_⟩
    · rw [set66_celld (by exact na1) (by exact na3)]; exact h0
    · rw [set66_celld (by exact na1) (by exact na3)]; exact h1
    · rw [set66_celld (by exact na1) (by exact na3)]; exact h2
    · rw [set66_celld (by exact na1) (by exact na3)]; exact h3
    · rw [set66_celld (by exact na1) (by exact na3)]; exact h4
    · rw [set66_celld (by exact na1) (by exact na3)]; exact h5
    · rw [set66_celld (by exact nb1) (by exact nb3)]; exact g0
    · rw [set66_celld (by exact nb1) (by exact nb3)]; exact g1
    · rw [set66_celld (by exact nb1) (by exact nb3)]; exact g2
    · rw [set66_celld (by exact nb1) (by exact nb3)]; exact g3
    · rw [set66_celld (by exact nb1) (by exact nb3)]; exact g4
    · rw [set66_celld (by exact nb1) (by exact nb3)]; exact g5
  have hq0 := hb9
  have HQ := Lib.hid (show Below w.heap.size w (set6 (set6 W4 w.heap.size (.int .i64 x.id) (.int .i64 x.club) (.int .i64 x.wins) (.int .i64 x.pts) (.int .i64 x.firsts) (.slice Ai x.met.length ci)) (w.heap.size + 1) (.int .i64 y.id) (.int .i64 y.club) (.int .i64 y.wins) (.int .i64 y.pts) (.int .i64 y.firsts) (.slice Aj y.met.length cj)).drew ∧ Rd (set6 (set6 W4 w.heap.size (.int .i64 x.id) (.int .i64 x.club) (.int .i64 x.wins) (.int .i64 x.pts) (.int .i64 x.firsts) (.slice Ai x.met.length ci)) (w.heap.size + 1) (.int .i64 y.id) (.int .i64 y.club) (.int .i64 y.wins) (.int .i64 y.pts) (.int .i64 y.firsts) (.slice Aj y.met.length cj)).drew (set6 (set6 W4 w.heap.size (.int .i64 x.id) (.int .i64 x.club) (.int .i64 x.wins) (.int .i64 x.pts) (.int .i64 x.firsts) (.slice Ai x.met.length ci)) (w.heap.size + 1) (.int .i64 y.id) (.int .i64 y.club) (.int .i64 y.wins) (.int .i64 y.pts) (.int .i64 y.firsts) (.slice Aj y.met.length cj)).drew.heap.size Ai (ivs x.met) ∧ Rd (set6 (set6 W4 w.heap.size (.int .i64 x.id) (.int .i64 x.club) (.int .i64 x.wins) (.int .i64 x.pts) (.int .i64 x.firsts) (.slice Ai x.met.length ci)) (w.heap.size + 1) (.int .i64 y.id) (.int .i64 y.club) (.int .i64 y.wins) (.int .i64 y.pts) (.int .i64 y.firsts) (.slice Aj y.met.length cj)).drew (set6 (set6 W4 w.heap.size (.int .i64 x.id) (.int .i64 x.club) (.int .i64 x.wins) (.int .i64 x.pts) (.int .i64 x.firsts) (.slice Ai x.met.length ci)) (w.heap.size + 1) (.int .i64 y.id) (.int .i64 y.club) (.int .i64 y.wins) (.int .i64 y.pts) (.int .i64 y.firsts) (.slice Aj y.met.length cj)).drew.heap.size Aj (ivs y.met) from by
    have q := (below_sets6 (g := w.heap.size + 1) (x := .int .i64 y.id) (y := .int .i64 y.club) (z := .int .i64 y.wins) (u := .int .i64 y.pts) (v := .int .i64 y.firsts) (s := .slice Aj y.met.length cj) (below_sets6 (g := w.heap.size) (x := .int .i64 x.id) (y := .int .i64 x.club) (z := .int .i64 x.wins) (u := .int .i64 x.pts) (v := .int .i64 x.firsts) (s := .slice Ai x.met.length ci) hb9 (by omega)) (by omega)).drew
    exact ⟨q, (hri0.out.below q).more q.size, (hrj0.out.below q).more q.size⟩)
  clear hz0 hq0
  clear x5 x6
  go_wp2_with fail
  refine wp_region_held_drew (S := fun u => (Instr.lookup 94 (.map (some W2.heap.size)) (.int .i64 a) false).run Try.prog u = .ok (.int .i64 (i : Int)) u ∧ (Instr.lookup 94 (.map (some W2.heap.size)) (.int .i64 b) false).run Try.prog u = .ok (.int .i64 (j : Int)) u ∧ u.cell? p = some (.int .i64 x.id) ∧ u.cell? ⟨p.block, p.off + 1, none⟩ = some (.int .i64 x.club) ∧ u.cell? ⟨p.block, p.off + 2, none⟩ = some (.int .i64 x.wins) ∧ u.cell? ⟨p.block, p.off + 3, none⟩ = some (.int .i64 x.pts) ∧ u.cell? ⟨p.block, p.off + 4, none⟩ = some (.int .i64 x.firsts) ∧ u.cell? ⟨p.block, p.off + 5, none⟩ = some (.slice Ai x.met.length ci) ∧ u.cell? p' = some (.int .i64 y.id) ∧ u.cell? ⟨p'.block, p'.off + 1, none⟩ = some (.int .i64 y.club) ∧ u.cell? ⟨p'.block, p'.off + 2, none⟩ = some (.int .i64 y.wins) ∧ u.cell? ⟨p'.block, p'.off + 3, none⟩ = some (.int .i64 y.pts) ∧ u.cell? ⟨p'.block, p'.off + 4, none⟩ = some (.int .i64 y.firsts) ∧ u.cell? ⟨p'.block, p'.off + 5, none⟩ = some (.slice Aj y.met.length cj)) (by kernel_rfl) ?_ (fun hHeld => ?_)
  · first | with_reducible exact KS0.out | with_reducible exact KS1.out | with_reducible exact KS2.out | (trace_state; sorry)
  refine wpAnyH_take (i := 0) (v := ?_) rfl (by kernel_rfl) (by kernel_rfl) (by kernel_rfl) (fun _ _ _ h => h) (Or.inl ⟨by rfl, ?_⟩) (by assumption) ?_
  rotate_left
  · intro w hSw
    try dsimp only at hSw
    go_simp
    try with_reducible rfl
  try simp only [Act.put, List.getElem_toArray, List.getElem_cons_zero, List.setIfInBounds_toArray, List.set_cons_zero, List.set_cons_succ]
  refine wpAnyH_take (i := 1) (v := ?_) rfl (by kernel_rfl) (by kernel_rfl) (by kernel_rfl) (fun _ _ _ h => h) (Or.inl ⟨by rfl, ?_⟩) (by assumption) ?_
  rotate_left
  · intro w hSw
    try dsimp only at hSw
    go_simp
    try with_reducible rfl
  try simp only [Act.put, List.getElem_toArray, List.getElem_cons_succ, List.getElem_cons_zero, List.setIfInBounds_toArray, List.set_cons_zero, List.set_cons_succ]
  refine wpAnyH_take (i := 2) (v := ?_) rfl (by kernel_rfl) (by kernel_rfl) (by kernel_rfl) (fun _ _ _ h => h) (Or.inl ⟨by rfl, ?_⟩) (by assumption) ?_
  rotate_left
  · intro w hSw
    try dsimp only at hSw
    go_simp
    try with_reducible rfl
  try simp only [Act.put, List.getElem_toArray, List.getElem_cons_succ, List.getElem_cons_zero, List.setIfInBounds_toArray, List.set_cons_zero, List.set_cons_succ]
  refine wpAnyH_take (i := 3) (v := ?_) rfl (by kernel_rfl) (by kernel_rfl) (by kernel_rfl) (fun _ _ _ h => h) (Or.inl ⟨by rfl, ?_⟩) (by assumption) ?_
  rotate_left
  · intro w hSw
    try dsimp only at hSw
    go_simp
    try with_reducible rfl
  try simp only [Act.put, List.getElem_toArray, List.getElem_cons_succ, List.getElem_cons_zero, List.setIfInBounds_toArray, List.set_cons_zero, List.set_cons_succ]
  refine wpAnyH_take (i := 4) (v := ?_) rfl (by kernel_rfl) (by kernel_rfl) (by kernel_rfl) (fun _ _ _ h => h) (Or.inl ⟨by rfl, ?_⟩) (by assumption) ?_
  rotate_left
  · intro w hSw
    try dsimp only at hSw
    go_simp
    try with_reducible rfl
  try simp only [Act.put, List.getElem_toArray, List.getElem_cons_succ, List.getElem_cons_zero, List.setIfInBounds_toArray, List.set_cons_zero, List.set_cons_succ]
  refine wpAnyH_take (i := 5) (v := ?_) rfl (by kernel_rfl) (by kernel_rfl) (by kernel_rfl) (fun _ _ _ h => h) (Or.inl ⟨by rfl, ?_⟩) (by assumption) ?_
  rotate_left
  · intro w hSw
    try dsimp only at hSw
    go_simp
    try with_reducible rfl
  try simp only [Act.put, List.getElem_toArray, List.getElem_cons_succ, List.getElem_cons_zero, List.setIfInBounds_toArray, List.set_cons_zero, List.set_cons_succ]
  refine wpAnyH_take (i := 6) (v := ?_) rfl (by kernel_rfl) (by kernel_rfl) (by kernel_rfl) (fun _ _ _ h => h) (Or.inl ⟨by rfl, ?_⟩) (by assumption) ?_
  rotate_left
  · intro w hSw
    try dsimp only at hSw
    go_simp
    try with_reducible rfl
  try simp only [Act.put, List.getElem_toArray, List.getElem_cons_succ, List.getElem_cons_zero, List.setIfInBounds_toArray, List.set_cons_zero, List.set_cons_succ]
  refine wpAnyH_take (i := 7) (v := ?_) rfl (by kernel_rfl) (by kernel_rfl) (by kernel_rfl) (fun _ _ _ h => h) (Or.inl ⟨by rfl, ?_⟩) (by assumption) ?_
  rotate_left
  · intro w hSw
    try dsimp only at hSw
    go_simp
    try with_reducible rfl
  try simp only [Act.put, List.getElem_toArray, List.getElem_cons_succ, List.getElem_cons_zero, List.setIfInBounds_toArray, List.set_cons_zero, List.set_cons_succ]
  refine wpAnyH_take (i := 8) (v := ?_) rfl (by kernel_rfl) (by kernel_rfl) (by kernel_rfl) (fun _ _ _ h => h) (Or.inl ⟨by rfl, ?_⟩) (by assumption) ?_
  rotate_left
  · intro w hSw
    try dsimp only at hSw
    go_simp
    try with_reducible rfl
  try simp only [Act.put, List.getElem_toArray, List.getElem_cons_succ, List.getElem_cons_zero, List.setIfInBounds_toArray, List.set_cons_zero, List.set_cons_succ]
  refine wpAnyH_take (i := 9) (v := ?_) rfl (by kernel_rfl) (by kernel_rfl) (by kernel_rfl) (fun _ _ _ h => h) (Or.inl ⟨by rfl, ?_⟩) (by assumption) ?_
  rotate_left
  · intro w hSw
    try dsimp only at hSw
    go_simp
    try with_reducible rfl
  try simp only [Act.put, List.getElem_toArray, List.getElem_cons_succ, List.getElem_cons_zero, List.setIfInBounds_toArray, List.set_cons_zero, List.set_cons_succ]
  refine wpAnyH_take (i := 10) (v := ?_) rfl (by kernel_rfl) (by kernel_rfl) (by kernel_rfl) (fun _ _ _ h => h) (Or.inl ⟨by rfl, ?_⟩) (by assumption) ?_
  rotate_left
  · intro w hSw
    try dsimp only at hSw
    go_simp
    try with_reducible rfl
  try simp only [Act.put, List.getElem_toArray, List.getElem_cons_succ, List.getElem_cons_zero, List.setIfInBounds_toArray, List.set_cons_zero, List.set_cons_succ]
  refine wpAnyH_take (i := 11) (v := ?_) rfl (by kernel_rfl) (by kernel_rfl) (by kernel_rfl) (fun _ _ _ h => h) (Or.inl ⟨by rfl, ?_⟩) (by assumption) ?_
  rotate_left
  · intro w hSw
    try dsimp only at hSw
    go_simp
    try with_reducible rfl
  try simp only [Act.put, List.getElem_toArray, List.getElem_cons_succ, List.getElem_cons_zero, List.setIfInBounds_toArray, List.set_cons_zero, List.set_cons_succ]
  refine wpAnyH_ready (rs := [12]) (by kernel_rfl) (by simp) ?_
  refine AllReadyH.cons rfl (fun K hK => ?_) AllReadyH.nil
  go_simp
  refine hK.out _ _ ?_ (fun hHeld => ?_)
  · first | with_reducible exact KS0.out | with_reducible exact KS1.out | with_reducible exact KS2.out | (trace_state; sorry)
  clear hK K
  try simp only [Act.put, List.getElem_toArray, List.getElem_cons_succ, List.getElem_cons_zero, List.setIfInBounds_toArray, List.set_cons_zero, List.set_cons_succ]
  refine wpAnyH_ready (rs := [13]) (by kernel_rfl) (by simp) ?_
  refine AllReadyH.cons rfl (fun K hK => ?_) AllReadyH.nil
  go_simp
  refine hK.out _ _ ?_ (fun hHeld => ?_)
  · first | with_reducible exact KS0.out | with_reducible exact KS1.out | with_reducible exact KS2.out | (trace_state; sorry)
  clear hK K
  try simp only [Act.put, List.getElem_toArray, List.getElem_cons_succ, List.getElem_cons_zero, List.setIfInBounds_toArray, List.set_cons_zero, List.set_cons_succ]
  refine wpAnyH_ready (rs := [14]) (by kernel_rfl) (by simp) ?_
  refine AllReadyH.cons rfl (fun K hK => ?_) AllReadyH.nil
  go_simp
  refine hK.out _ _ ?_ (fun hHeld => ?_)
  · first | with_reducible exact KS0.out | with_reducible exact KS1.out | with_reducible exact KS2.out | (trace_state; sorry)
  clear hK K
  try simp only [Act.put, List.getElem_toArray, List.getElem_cons_succ, List.getElem_cons_zero, List.setIfInBounds_toArray, List.set_cons_zero, List.set_cons_succ]
  refine wpAnyH_done (by kernel_rfl) ?_ _
  go_wp2_with fail
  refine bodyPost_ret (v := .tuple #[.agg #[Value.int .i64 x.id, .int .i64 x.club, .int .i64 x.wins, .int .i64 x.pts, .int .i64 x.firsts, .slice Ai x.met.length ci], .agg #[Value.int .i64 y.id, .int .i64 y.club, .int .i64 y.wins, .int .i64 y.pts, .int .i64 y.firsts, .slice Aj y.met.length cj], .bool true]) (by simp [results, Try.results81, go_sem, HF.out.1, HF.out.2.1, HF.out.2.2.1, HF.out.2.2.2.1, HF.out.2.2.2.2.1, HF.out.2.2.2.2.2, HG.out.1, HG.out.2.1, HG.out.2.2.1, HG.out.2.2.2.1, HG.out.2.2.2.2.1, HG.out.2.2.2.2.2]) rfl ⟨Ai, ci, Aj, cj, rfl, HQ.out.1, HQ.out.2.1, HQ.out.2.2⟩
end Go.Proofs.Ythkigilegnjglaa
