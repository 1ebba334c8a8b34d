/- Contract of the code's SideFor. Condition: integers of 64 bits; the slice has at most 2^20 elements, each team's at most 2^20. -/
import Derived.Test.YthkigilegnjglaaMm
import Derived.Deep.DeepCutAuto
namespace Go.Proofs.Ythkigilegnjglaa
open Go.ChangeShapes Go.WideShapes Go.ChangeAt Go.RowKit
set_option maxRecDepth 100000
/-- The sides of the teams a and b. -/
def sfP (X : List Tm) (a b : Int) : Int × Int := if twB X a b && decide (a ≠ b) then
    (if befB (X.getD (fndI X b).toNat tmD) (X.getD (fndI X a).toNat tmD) then sidP (X.getD (fndI X b).toNat tmD) (X.getD (fndI X a).toNat tmD) else sidP (X.getD (fndI X a).toNat tmD) (X.getD (fndI X b).toNat tmD)) else (0, 0)
theorem sf_no {X : List Tm} {a b : Int} (h : twB X a b = false) : sfP X a b = (0, 0) := by unfold sfP; rw [h]; rfl
theorem sf_eq {X : List Tm} {a : Int} : sfP X a a = (0, 0) := by unfold sfP; simp
theorem sf_yes {X : List Tm} {a b : Int} {i j : Nat} {x y : Tm} (h : twB X a b = true) (hab : a ≠ b) (hi : fndO X a = some (i : Int)) (hj : fndO X b = some (j : Int)) (hx : X[i]? = some x) (hy : X[j]? = some y) : sfP X a b = if befB y x then sidP y x else sidP x y := by
  unfold sfP
  rw [h, decide_eq_true hab, fndI_some hi, fndI_some hj]
  simp [List.getD, hx, hy]
set_option maxHeartbeats 8000000 in
theorem impSideFor_any {w : World} {A : Option Addr} {n c : Nat} {X : List Tm} {a b : Int} (hl : Hid (X.length = n)) (hn : n ≤ 1048576) (hs : Hid (∀ x ∈ X, x.met.length ≤ 1048576)) (hok : Hid (∀ x ∈ X, x.ok)) (ha : Hid (I6 a)) (hb : Hid (I6 b)) (hr : RdT w w.heap.size A X) :
    Calls Try.prog 30 #[.slice A n c, .int .i64 a, .int .i64 b] w (fun e w' => e = .returned (.agg #[.int .i64 (sfP X a b).1, .int .i64 (sfP X a b).2]) ∧ Below w.heap.size w w') := by
  obtain ⟨W0, hW0, x0, b0, z0⟩ := box2T w 38 (.int .i64 0) (.int .i64 0)
  have HW0 := Lib.hid hW0
  have HZ0 := Lib.hid z0
  have hr0 := Lib.hid ((hr.below b0).more b0.size)
  have hwl : w.heap.size < W0.heap.size := by omega
  clear hW0 z0 hr
  cases hw : twB X a b with
  | false =>
    have HV := Lib.hid (sf_no hw)
    have HW := Lib.hid hw
    clear hw
    go_enter Try.func30, Try.ntmps30
    go_wp2_with fail
    rw [HW0.out]
    try (go_wp2_with fail)
    refine (twoTeams_no hl hn hs hok ha hb hr0.out HW).mono ?_
    rintro e W1 ⟨rfl, b1⟩
    obtain ⟨W2, hW2, x2, b2, z2⟩ := box6 W1 82 (.int .i64 0) (.int .i64 0) (.int .i64 0) (.int .i64 0) (.int .i64 0) (.slice none 0 0)
    obtain ⟨W3, hW3, x3, b3, z3⟩ := box6 W2 82 (.int .i64 0) (.int .i64 0) (.int .i64 0) (.int .i64 0) (.int .i64 0) (.slice none 0 0)
    have b13 := b1.trans ((b2.trans (b3.mono (by omega))).mono b1.size)
    have x9 := x0.new b13
    have b03 := b0.trans (b13.mono b0.size)
    subst hW2
    subst hW3
    obtain ⟨m0, m1⟩ := x9.c2 (Below.refl _ _)
    have p0 := x9.free 0
    have p1 := x9.free 1
    have HG := Lib.hid ((x9.sets2 (.int .i64 0) (.int .i64 0)).c2 (Below.refl _ _))
    have HQ := Lib.hid (below_sets2 (g := w.heap.size) (x := .int .i64 0) (y := .int .i64 0) b03 (Nat.le_refl _))
    clear x2 x3 b1 b2 b3 z2 z3 b13 x9 b03 x0 b0
    go_wp2_with fail
    refine bodyPost_ret (v := .agg #[.int .i64 0, .int .i64 0]) (by simp [results, Try.results30, go_sem, HG.out.1, HG.out.2]) rfl ⟨?_, HQ.out⟩
    rw [HV.out]
  | true =>
    obtain ⟨hT, i, j, hi, hj, x, y, hx, hy, hxa, hyb⟩ := tw_parts hw
    clear hxa hyb
    have hT := Lib.hid hT
    have hi := Lib.hid hi
    have hj := Lib.hid hj
    have hx := Lib.hid hx
    have hy := Lib.hid hy
    have hw := Lib.hid hw
    by_cases hab : a = b
    · have HV := Lib.hid (show sfP X a b = (0, 0) by rw [hab]; exact sf_eq)
      have dab : (a == b) = true := by simpa using hab
      clear hab
      go_enter Try.func30, Try.ntmps30
      go_wp2_with fail
      rw [HW0.out]
      try (go_wp2_with fail)
      refine (twoTeams_yes hl hn hs hok ha hb hr0.out hT hi hj hx hy).mono ?_
      rintro e W1 ⟨Ai, ci, Aj, cj, rfl, b1, hri, hrj⟩
      obtain ⟨m, hm⟩ : ∃ m, x.met.length = m := ⟨_, rfl⟩
      obtain ⟨m', hm'⟩ : ∃ m, y.met.length = m := ⟨_, rfl⟩
      rw [hm, hm']
      obtain ⟨W2, hW2, x2, b2, z2⟩ := box6 W1 82 (.int .i64 x.id) (.int .i64 x.club) (.int .i64 x.wins) (.int .i64 x.pts) (.int .i64 x.firsts) (.slice Ai m ci)
      obtain ⟨W3, hW3, x3, b3, z3⟩ := box6 W2 82 (.int .i64 y.id) (.int .i64 y.club) (.int .i64 y.wins) (.int .i64 y.pts) (.int .i64 y.firsts) (.slice Aj m' cj)
      have b13 := b1.trans ((b2.trans (b3.mono (by omega))).mono b1.size)
      have x9 := x0.new b13
      have b03 := b0.trans (b13.mono b0.size)
      subst hW2
      subst hW3
      obtain ⟨m0, m1⟩ := x9.c2 (Below.refl _ _)
      have p0 := x9.free 0
      have p1 := x9.free 1
      have HG := Lib.hid ((x9.sets2 (.int .i64 0) (.int .i64 0)).c2 (Below.refl _ _))
      have HQ := Lib.hid (below_sets2 (g := w.heap.size) (x := .int .i64 0) (y := .int .i64 0) b03 (Nat.le_refl _))
      clear x2 x3 b1 b2 b3 z2 z3 b13 x9 b03 x0 b0 hri hrj hm hm'
      go_wp2_with fail
      refine bodyPost_ret (v := .agg #[.int .i64 0, .int .i64 0]) (by simp [results, Try.results30, go_sem, HG.out.1, HG.out.2]) rfl ⟨?_, HQ.out⟩
      rw [HV.out]
    · have HV := Lib.hid (sf_yes hw.out hab hi.out hj.out hx.out hy.out)
      have dab : (a == b) = false := by simpa using hab
      clear hab
      go_enter Try.func30, Try.ntmps30
      go_wp2_with fail
      rw [HW0.out]
      try (go_wp2_with fail)
      refine (twoTeams_yes hl hn hs hok ha hb hr0.out hT hi hj hx hy).mono ?_
      rintro e W1 ⟨Ai, ci, Aj, cj, rfl, b1, hri, hrj⟩
      obtain ⟨m, hm⟩ : ∃ m, x.met.length = m := ⟨_, rfl⟩
      obtain ⟨m', hm'⟩ : ∃ m, y.met.length = m := ⟨_, rfl⟩
      rw [hm, hm']
      have hs1 := b1.size
      obtain ⟨W2, hW2, x2, b2, z2⟩ := box6 W1 82 (.int .i64 x.id) (.int .i64 x.club) (.int .i64 x.wins) (.int .i64 x.pts) (.int .i64 x.firsts) (.slice Ai m ci)
      obtain ⟨W3, hW3, x3, b3, z3⟩ := box6 W2 82 (.int .i64 y.id) (.int .i64 y.club) (.int .i64 y.wins) (.int .i64 y.pts) (.int .i64 y.firsts) (.slice Aj m' cj)
      have b13 := b1.trans ((b2.trans (b3.mono (by omega))).mono b1.size)
      have HA := Lib.hid (show (W1.alloc (Obj.cells #[Value.int .i64 x.id, .int .i64 x.club, .int .i64 x.wins, .int .i64 x.pts, .int .i64 x.firsts, .slice Ai m ci] 82)).alloc (Obj.cells #[Value.int .i64 y.id, .int .i64 y.club, .int .i64 y.wins, .int .i64 y.pts, .int .i64 y.firsts, .slice Aj m' cj] 82) = W3 by rw [hW2, hW3])
      have y9 := Lib.hid (x0.new b13)
      have b03 := Lib.hid (b0.trans (b13.mono b0.size))
      have x2' := x2.new b3
      rw [z2] at x3
      obtain ⟨c0, c1, c2, c3, c4, c5⟩ := x2'.c6 (Below.refl _ _)
      obtain ⟨d0, d1, d2, d3, d4, d5⟩ := x3.c6 (Below.refl _ _)
      have hg1 : w.heap.size < W1.heap.size := by omega
      have X2 := Lib.hid x2'
      have X3 := Lib.hid x3
      clear hW2 hW3 x2 x2' x3 b1 b2 b3 z2 z3 b13 x0 b0 hri hrj hm hm'
      obtain ⟨G, hG⟩ : ∃ G, W1.heap.size = G := ⟨_, rfl⟩
      have HGG := Lib.hid hG
      clear hG
      go_wp2_with fail
      rw [HA.out]
      try (go_wp2_with fail)
      refine (compareTeams_gr (x := x) (y := y)).mono ?_
      rintro e W5 ⟨rfl, g5⟩
      have b5 := g5.below
      have x5 := X2.out.new b5
      have x6 := X3.out.new b5
      have x9 := y9.out.new b5
      have b05 := b03.out.trans (b5.mono b03.out.size)
      obtain ⟨c0, c1, c2, c3, c4, c5⟩ := x5.c6 (Below.refl _ _)
      obtain ⟨d0, d1, d2, d3, d4, d5⟩ := x6.c6 (Below.refl _ _)
      obtain ⟨e0, e1⟩ := x9.c2 (Below.refl _ _)
      have f0 := x9.free 0
      have f1 := x9.free 1
      by_cases hbf : 0 < cmpT x y
      · have HV2 := Lib.hid (show sfP X a b = sidP y x by rw [HV.out, cmpT_pos.1 hbf]; rfl)
        have dbf : decide (0 < cmpT x y) = true := decide_eq_true hbf
        clear hbf

        have p0 := x5.free 0
        have q0 := x6.free 0
        have p1 := x5.free 1
        have q1 := x6.free 1
        have p2 := x5.free 2
        have q2 := x6.free 2
        have p3 := x5.free 3
        have q3 := x6.free 3
        have p4 := x5.free 4
        have q4 := x6.free 4
        have p5 := x5.free 5
        have q5 := x6.free 5
        have s5 := (x5.sets6 (.int .i64 y.id) (.int .i64 y.club) (.int .i64 y.wins) (.int .i64 y.pts) (.int .i64 y.firsts) (.slice Aj m' cj)).far6 (g' := W1.heap.size + 1) (by omega) (.int .i64 x.id) (.int .i64 x.club) (.int .i64 x.wins) (.int .i64 x.pts) (.int .i64 x.firsts) (.slice Ai m ci)
        have s6 := (x6.far6 (g' := W1.heap.size) (by omega) (.int .i64 y.id) (.int .i64 y.club) (.int .i64 y.wins) (.int .i64 y.pts) (.int .i64 y.firsts) (.slice Aj m' cj)).sets6 (.int .i64 x.id) (.int .i64 x.club) (.int .i64 x.wins) (.int .i64 x.pts) (.int .i64 x.firsts) (.slice Ai m ci)
        have s9 := (x9.far6 (g' := W1.heap.size) (by omega) (.int .i64 y.id) (.int .i64 y.club) (.int .i64 y.wins) (.int .i64 y.pts) (.int .i64 y.firsts) (.slice Aj m' cj)).far6 (g' := W1.heap.size + 1) (by omega) (.int .i64 x.id) (.int .i64 x.club) (.int .i64 x.wins) (.int .i64 x.pts) (.int .i64 x.firsts) (.slice Ai m ci)
        have bs : Below w.heap.size w (set6 (set6 W5 W1.heap.size (.int .i64 y.id) (.int .i64 y.club) (.int .i64 y.wins) (.int .i64 y.pts) (.int .i64 y.firsts) (.slice Aj m' cj)) (W1.heap.size + 1) (.int .i64 x.id) (.int .i64 x.club) (.int .i64 x.wins) (.int .i64 x.pts) (.int .i64 x.firsts) (.slice Ai m ci)) := below_sets6 (below_sets6 b05 (by omega)) (by omega)
        obtain ⟨W6, hW6⟩ : ∃ u, (set6 (set6 W5 W1.heap.size (.int .i64 y.id) (.int .i64 y.club) (.int .i64 y.wins) (.int .i64 y.pts) (.int .i64 y.firsts) (.slice Aj m' cj)) (W1.heap.size + 1) (.int .i64 x.id) (.int .i64 x.club) (.int .i64 x.wins) (.int .i64 x.pts) (.int .i64 x.firsts) (.slice Ai m ci)) = u := ⟨_, rfl⟩
        rw [hW6] at s5 s6 s9 bs
        have HW6 := Lib.hid (show ((((((((((((W5.setCell ⟨W1.heap.size, 0, none⟩ (.int .i64 y.id)).setCell ⟨W1.heap.size, 1, none⟩ (.int .i64 y.club)).setCell ⟨W1.heap.size, 2, none⟩ (.int .i64 y.wins)).setCell ⟨W1.heap.size, 3, none⟩ (.int .i64 y.pts)).setCell ⟨W1.heap.size, 4, none⟩ (.int .i64 y.firsts)).setCell ⟨W1.heap.size, 5, none⟩ (.slice Aj m' cj)).setCell ⟨(W1.heap.size + 1), 0, none⟩ (.int .i64 x.id)).setCell ⟨(W1.heap.size + 1), 1, none⟩ (.int .i64 x.club)).setCell ⟨(W1.heap.size + 1), 2, none⟩ (.int .i64 x.wins)).setCell ⟨(W1.heap.size + 1), 3, none⟩ (.int .i64 x.pts)).setCell ⟨(W1.heap.size + 1), 4, none⟩ (.int .i64 x.firsts)).setCell ⟨(W1.heap.size + 1), 5, none⟩ (.slice Ai m ci)) = W6 from hW6)
        have S5 := Lib.hid s5
        have S6 := Lib.hid s6
        have S9 := Lib.hid s9
        have BS := Lib.hid bs
        clear s5 s6 s9 bs hW6 x5 x6 x9 e0 e1 f0 f1
        go_upto_region 6 with fail
        rw [HW6.out]
        obtain ⟨c0, c1, c2, c3, c4, c5⟩ := S5.out.c6 (Below.refl _ _)
        obtain ⟨d0, d1, d2, d3, d4, d5⟩ := S6.out.c6 (Below.refl _ _)
        clear p0 p1 p2 p3 p4 p5 q0 q1 q2 q3 q4 q5
        go_wp2_with fail
        refine (sidesOf_any (x := y) (y := x)).mono ?_
        rintro e W7 ⟨rfl, b7⟩
        obtain ⟨r1, hr1⟩ : ∃ v, (sidP y x).1 = v := ⟨_, rfl⟩
        obtain ⟨r2, hr2⟩ : ∃ v, (sidP y x).2 = v := ⟨_, rfl⟩
        rw [hr1, hr2]
        have HR := Lib.hid (And.intro hr1 hr2)
        have t9 := S9.out.new b7
        obtain ⟨e0, e1⟩ := t9.c2 (Below.refl _ _)
        have f0 := t9.free 0
        have f1 := t9.free 1
        have HG := Lib.hid ((t9.sets2 (.int .i64 r1) (.int .i64 r2)).c2 (Below.refl _ _))
        have HQ := Lib.hid (below_sets2 (g := w.heap.size) (x := .int .i64 r1) (y := .int .i64 r2) (BS.out.trans (b7.mono BS.out.size)) (Nat.le_refl _))
        clear hr1 hr2 t9 b7
        go_wp2_with fail
        refine bodyPost_ret (v := .agg #[.int .i64 r1, .int .i64 r2]) (by simp [results, Try.results30, go_sem, HG.out.1, HG.out.2]) rfl ⟨?_, HQ.out⟩
        rw [HV2.out, HR.out.1, HR.out.2]
      · have HV2 := Lib.hid (show sfP X a b = sidP x y by rw [HV.out, if_neg (fun h => hbf (cmpT_pos.2 h))])
        have dbf : decide (0 < cmpT x y) = false := decide_eq_false hbf
        have S9 := Lib.hid x9
        have BS := Lib.hid b05
        clear hbf x5 x6 x9 e0 e1 f0 f1
        go_wp2_with fail
        refine (sidesOf_any (x := x) (y := y)).mono ?_
        rintro e W7 ⟨rfl, b7⟩
        obtain ⟨r1, hr1⟩ : ∃ v, (sidP x y).1 = v := ⟨_, rfl⟩
        obtain ⟨r2, hr2⟩ : ∃ v, (sidP x y).2 = v := ⟨_, rfl⟩
        rw [hr1, hr2]
        have HR := Lib.hid (And.intro hr1 hr2)
        have t9 := S9.out.new b7
        obtain ⟨e0, e1⟩ := t9.c2 (Below.refl _ _)
        have f0 := t9.free 0
        have f1 := t9.free 1
        have HG := Lib.hid ((t9.sets2 (.int .i64 r1) (.int .i64 r2)).c2 (Below.refl _ _))
        have HQ := Lib.hid (below_sets2 (g := w.heap.size) (x := .int .i64 r1) (y := .int .i64 r2) (BS.out.trans (b7.mono BS.out.size)) (Nat.le_refl _))
        clear hr1 hr2 t9 b7
        go_wp2_with fail
        refine bodyPost_ret (v := .agg #[.int .i64 r1, .int .i64 r2]) (by simp [results, Try.results30, go_sem, HG.out.1, HG.out.2]) rfl ⟨?_, HQ.out⟩
        rw [HV2.out, HR.out.1, HR.out.2]
end Go.Proofs.Ythkigilegnjglaa
