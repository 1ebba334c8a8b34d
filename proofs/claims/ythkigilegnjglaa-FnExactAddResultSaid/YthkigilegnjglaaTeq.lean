/- Contracts of compareTeams, sidesOf, canMeet and of the model's l19Before. Condition: at most 2^20 meetings. -/
import Derived.Test.YthkigilegnjglaaMg16
import Derived.Test.YthkigilegnjglaaTeqMath
import Derived.Test.YthkigilegnjglaaMg15
import Derived.Deep.RegionHeld3
namespace Go.Proofs.Ythkigilegnjglaa
open Go.ChangeShapes Go.WideShapes Go.ChangeAt Go.RowKit
set_option maxRecDepth 100000
set_option maxHeartbeats 4000000 in
theorem l19Before_any {w : World} {x y : Tm} {A A' : Option Addr} {n c n' c' : Nat} :
    Calls Try.prog 83 #[.agg #[Value.int .i64 x.id, .int .i64 x.club, .int .i64 x.wins, .int .i64 x.pts, .int .i64 x.firsts, .slice A n c], .agg #[Value.int .i64 y.id, .int .i64 y.club, .int .i64 y.wins, .int .i64 y.pts, .int .i64 y.firsts, .slice A' n' c']] w (fun e w' => e = .returned (.bool (befB x y)) ∧ Below w.heap.size w w') := by
  obtain ⟨W1, hW1, x1, b1, z1⟩ := box6 w 82 (.int .i64 x.id) (.int .i64 x.club) (.int .i64 x.wins) (.int .i64 x.pts) (.int .i64 x.firsts) (.slice A n c)
  obtain ⟨W2, hW2, x2, b2, z2⟩ := box6 W1 82 (.int .i64 y.id) (.int .i64 y.club) (.int .i64 y.wins) (.int .i64 y.pts) (.int .i64 y.firsts) (.slice A' n' c')
  have HB := Lib.hid (b1.trans (b2.mono b1.size))
  obtain ⟨c0, c1, c2, c3, c4, c5⟩ := x1.c6 b2
  obtain ⟨d0, d1, d2, d3, d4, d5⟩ := x2.c6 (Below.refl _ _)
  rw [z1] at d0 d1 d2 d3 d4 d5
  have HW := Lib.hid (show (w.alloc (Obj.cells #[Value.int .i64 x.id, .int .i64 x.club, .int .i64 x.wins, .int .i64 x.pts, .int .i64 x.firsts, .slice A n c] 82)).alloc (Obj.cells #[Value.int .i64 y.id, .int .i64 y.club, .int .i64 y.wins, .int .i64 y.pts, .int .i64 y.firsts, .slice A' n' c'] 82) = W2 by rw [hW1, hW2])
  clear hW1 hW2 x1 x2 b1 b2 z1 z2
  by_cases h1 : x.wins = y.wins
  · by_cases h2 : y.pts < x.pts
    · have HV := Lib.hid (show befB x y = true by unfold befB; rw [if_pos h1, decide_eq_true h2]; rfl)
      have e1 : (x.wins != y.wins) = false := by simp [h1]
      have e2 : decide (y.pts < x.pts) = true := decide_eq_true h2
      clear h1 h2
      go_enter Try.func83, Try.ntmps83
      go_wp2_with fail
      rw [HW.out]
      try (go_wp2_with fail)
      go_ret
      exact ⟨ret_b HV.out.symm, HB.out⟩
    · by_cases h3 : x.pts = y.pts
      · have HV := Lib.hid (show befB x y = decide (x.id < y.id) by unfold befB; rw [if_pos h1, decide_eq_false h2, decide_eq_true h3, Bool.false_or, Bool.true_and])
        have e1 : (x.wins != y.wins) = false := by simp [h1]
        have e2 : decide (y.pts < x.pts) = false := decide_eq_false h2
        have e3 : (x.pts == y.pts) = true := by simp [h3]
        clear h1 h2 h3
        go_enter Try.func83, Try.ntmps83
        go_wp2_with fail
        rw [HW.out]
        try (go_wp2_with fail)
        go_ret
        exact ⟨ret_b HV.out.symm, HB.out⟩
      · have HV := Lib.hid (show befB x y = false by unfold befB; rw [if_pos h1, decide_eq_false h2, decide_eq_false h3]; rfl)
        have e1 : (x.wins != y.wins) = false := by simp [h1]
        have e2 : decide (y.pts < x.pts) = false := decide_eq_false h2
        have e3 : (x.pts == y.pts) = false := by simpa using h3
        clear h1 h2 h3
        go_enter Try.func83, Try.ntmps83
        go_wp2_with fail
        rw [HW.out]
        try (go_wp2_with fail)
        go_ret
        exact ⟨ret_b HV.out.symm, HB.out⟩
  · have HV := Lib.hid (show befB x y = decide (y.wins < x.wins) by unfold befB; rw [if_neg h1])
    have e1 : (x.wins != y.wins) = true := by simpa using h1
    clear h1
    go_enter Try.func83, Try.ntmps83
    go_wp2_with fail
    rw [HW.out]
    try (go_wp2_with fail)
    go_ret
    exact ⟨ret_b HV.out.symm, HB.out⟩
set_option maxHeartbeats 8000000 in
theorem compareTeams_gr {w : World} {x y : Tm} {A A' : Option Addr} {n c n' c' : Nat} :
    Calls Try.prog 84 #[.agg #[Value.int .i64 x.id, .int .i64 x.club, .int .i64 x.wins, .int .i64 x.pts, .int .i64 x.firsts, .slice A n c], .agg #[Value.int .i64 y.id, .int .i64 y.club, .int .i64 y.wins, .int .i64 y.pts, .int .i64 y.firsts, .slice A' n' c']] w (fun e w' => e = .returned (.int .i64 (cmpT x y)) ∧ Grw w w') := by
  obtain ⟨W1, hW1, x1, b1, z1⟩ := box6 w 82 (.int .i64 x.id) (.int .i64 x.club) (.int .i64 x.wins) (.int .i64 x.pts) (.int .i64 x.firsts) (.slice A n c)
  obtain ⟨W2, hW2, x2, b2, z2⟩ := box6 W1 82 (.int .i64 y.id) (.int .i64 y.club) (.int .i64 y.wins) (.int .i64 y.pts) (.int .i64 y.firsts) (.slice A' n' c')
  have hg2 : Grw w W2 := by rw [← hW2, ← hW1]; exact (Grw.refl.alloc _).alloc _
  have HB := Lib.hid hg2
  have HW := Lib.hid (show (w.alloc (Obj.cells #[Value.int .i64 x.id, .int .i64 x.club, .int .i64 x.wins, .int .i64 x.pts, .int .i64 x.firsts, .slice A n c] 82)).alloc (Obj.cells #[Value.int .i64 y.id, .int .i64 y.club, .int .i64 y.wins, .int .i64 y.pts, .int .i64 y.firsts, .slice A' n' c'] 82) = W2 by rw [hW1, hW2])
  rw [z1] at x2
  have y1 := x1.new b2
  have KE := fun (u : World) (q : Grw W2 u) => show Grw W2 u ∧ u.cell? ⟨w.heap.size, 0, none⟩ = some (.int .i64 x.id) ∧ u.cell? ⟨w.heap.size, 2, none⟩ = some (.int .i64 x.wins) ∧ u.cell? ⟨w.heap.size, 3, none⟩ = some (.int .i64 x.pts) ∧ u.cell? ⟨w.heap.size + 1, 0, none⟩ = some (.int .i64 y.id) ∧ u.cell? ⟨w.heap.size + 1, 2, none⟩ = some (.int .i64 y.wins) ∧ u.cell? ⟨w.heap.size + 1, 3, none⟩ = some (.int .i64 y.pts) from ⟨q, (y1.c6 q.below).1, (y1.c6 q.below).2.2.1, (y1.c6 q.below).2.2.2.1, (x2.c6 q.below).1, (x2.c6 q.below).2.2.1, (x2.c6 q.below).2.2.2.1⟩
  obtain ⟨_, f1, f2, f3, f4, f5, f6⟩ := KE W2 Grw.refl
  clear hW1 hW2 x1 x2 b1 b2 z1 z2 hg2 y1
  go_enter Try.func84, Try.ntmps84
  go_wp2_with fail
  rw [HW.out]
  try (go_wp2_with fail)
  go_region_held3 (fun u => Grw W2 u ∧ u.cell? ⟨w.heap.size, 0, none⟩ = some (.int .i64 x.id) ∧ u.cell? ⟨w.heap.size, 2, none⟩ = some (.int .i64 x.wins) ∧ u.cell? ⟨w.heap.size, 3, none⟩ = some (.int .i64 x.pts) ∧ u.cell? ⟨w.heap.size + 1, 0, none⟩ = some (.int .i64 y.id) ∧ u.cell? ⟨w.heap.size + 1, 2, none⟩ = some (.int .i64 y.wins) ∧ u.cell? ⟨w.heap.size + 1, 3, none⟩ = some (.int .i64 y.pts)) (first | assumption | exact KE _ Grw.refl | exact KE _ Grw.refl.drew | exact KE _ ka | exact KE _ (((‹Grw W2 _ ∧ _›).1).alloc _) | exact KE _ (Grw.refl.alloc _).drew | exact KE _ (((‹Grw W2 _ ∧ _›).1).alloc _).drew | exact KE _ (((‹Grw W2 _ ∧ _›).1).drew.alloc _))
    (first
      | (go_at_call 121; refine cmp_n.mono ?_; rintro e u9 ⟨rfl, rfl⟩; have ka := (‹Grw W2 _ ∧ _›).1)
      | (go_at_call 120; refine (or_n (X := [cmpI y.wins x.wins, cmpI y.pts x.pts, cmpI x.id y.id]) (Lib.hid rfl) (by simp) (by refine Rd.more (show Rd _ _ _ (ivs [cmpI y.wins x.wins, cmpI y.pts x.pts, cmpI x.id y.id]) from Rd.made _ #[.int .i64 (cmpI y.wins x.wins), .int .i64 (cmpI y.pts x.pts), .int .i64 (cmpI x.id y.id)] _) ?_; simp)).mono ?_; rintro e u9 ⟨rfl, rfl⟩; have ka := (‹Grw W2 _ ∧ _›).1))
  go_wp2_with fail
  go_ret
  exact ⟨rfl, HB.out.trans ka⟩
set_option maxHeartbeats 4000000 in
theorem sidesOf_any {w : World} {x y : Tm} {A A' : Option Addr} {n c n' c' : Nat} :
    Calls Try.prog 85 #[.agg #[Value.int .i64 x.id, .int .i64 x.club, .int .i64 x.wins, .int .i64 x.pts, .int .i64 x.firsts, .slice A n c], .agg #[Value.int .i64 y.id, .int .i64 y.club, .int .i64 y.wins, .int .i64 y.pts, .int .i64 y.firsts, .slice A' n' c']] w (fun e w' => e = .returned (.agg #[.int .i64 (sidP x y).1, .int .i64 (sidP x y).2]) ∧ Below w.heap.size w w') := by
  obtain ⟨W1, hW1, x1, b1, z1⟩ := box6 w 82 (.int .i64 x.id) (.int .i64 x.club) (.int .i64 x.wins) (.int .i64 x.pts) (.int .i64 x.firsts) (.slice A n c)
  obtain ⟨W2, hW2, x2, b2, z2⟩ := box6 W1 82 (.int .i64 y.id) (.int .i64 y.club) (.int .i64 y.wins) (.int .i64 y.pts) (.int .i64 y.firsts) (.slice A' n' c')
  have b12 := b1.trans (b2.mono b1.size)
  have b12s := b12.size
  obtain ⟨c0, c1, c2, c3, c4, c5⟩ := x1.c6 b2
  obtain ⟨d0, d1, d2, d3, d4, d5⟩ := x2.c6 (Below.refl _ _)
  rw [z1] at d0 d1 d2 d3 d4 d5 z2
  by_cases h : y.firsts < x.firsts
  · have HV := Lib.hid (show sidP x y = (y.id, x.id) by unfold sidP; rw [if_pos h])
    have hd : decide (y.firsts < x.firsts) = true := decide_eq_true h
    obtain ⟨W3, hW3, x3, b3, z3⟩ := box2T W2 38 (.int .i64 y.id) (.int .i64 x.id)
    have HQ := Lib.hid (b12.trans (b3.mono b12s))
    rw [z2] at x3
    have HG := Lib.hid (x3.c2 (Below.refl _ _))
    have HW := Lib.hid (show ((w.alloc (Obj.cells #[Value.int .i64 x.id, .int .i64 x.club, .int .i64 x.wins, .int .i64 x.pts, .int .i64 x.firsts, .slice A n c] 82)).alloc (Obj.cells #[Value.int .i64 y.id, .int .i64 y.club, .int .i64 y.wins, .int .i64 y.pts, .int .i64 y.firsts, .slice A' n' c'] 82)).alloc (Obj.cells #[Value.int .i64 y.id, .int .i64 x.id] 38) = W3 by rw [hW1, hW2, hW3])
    have C0 : ((w.alloc (Obj.cells #[Value.int .i64 x.id, .int .i64 x.club, .int .i64 x.wins, .int .i64 x.pts, .int .i64 x.firsts, .slice A n c] 82)).alloc (Obj.cells #[Value.int .i64 y.id, .int .i64 y.club, .int .i64 y.wins, .int .i64 y.pts, .int .i64 y.firsts, .slice A' n' c'] 82)) = W2 := by rw [hW1, hW2]
    clear h hW1 hW2 hW3 x1 x2 x3 b1 b2 b3 z1 z2 z3 b12 b12s C0
    go_enter Try.func85, Try.ntmps85
    go_wp2_with fail
    rw [HW.out]
    refine bodyPost_ret (v := .agg #[.int .i64 y.id, .int .i64 x.id]) (by simp [results, Try.results85, go_sem, HG.out.1, HG.out.2]) rfl ⟨?_, HQ.out⟩
    rw [HV.out]
  · have HV := Lib.hid (show sidP x y = (x.id, y.id) by unfold sidP; rw [if_neg h])
    have hd : decide (y.firsts < x.firsts) = false := decide_eq_false h
    obtain ⟨W3, hW3, x3, b3, z3⟩ := box2T W2 38 (.int .i64 x.id) (.int .i64 y.id)
    have HQ := Lib.hid (b12.trans (b3.mono b12s))
    rw [z2] at x3
    have HG := Lib.hid (x3.c2 (Below.refl _ _))
    have HW := Lib.hid (show ((w.alloc (Obj.cells #[Value.int .i64 x.id, .int .i64 x.club, .int .i64 x.wins, .int .i64 x.pts, .int .i64 x.firsts, .slice A n c] 82)).alloc (Obj.cells #[Value.int .i64 y.id, .int .i64 y.club, .int .i64 y.wins, .int .i64 y.pts, .int .i64 y.firsts, .slice A' n' c'] 82)).alloc (Obj.cells #[Value.int .i64 x.id, .int .i64 y.id] 38) = W3 by rw [hW1, hW2, hW3])
    have C0 : ((w.alloc (Obj.cells #[Value.int .i64 x.id, .int .i64 x.club, .int .i64 x.wins, .int .i64 x.pts, .int .i64 x.firsts, .slice A n c] 82)).alloc (Obj.cells #[Value.int .i64 y.id, .int .i64 y.club, .int .i64 y.wins, .int .i64 y.pts, .int .i64 y.firsts, .slice A' n' c'] 82)) = W2 := by rw [hW1, hW2]
    clear h hW1 hW2 hW3 x1 x2 x3 b1 b2 b3 z1 z2 z3 b12 b12s C0
    go_enter Try.func85, Try.ntmps85
    go_wp2_with fail
    rw [HW.out]
    refine bodyPost_ret (v := .agg #[.int .i64 x.id, .int .i64 y.id]) (by simp [results, Try.results85, go_sem, HG.out.1, HG.out.2]) rfl ⟨?_, HQ.out⟩
    rw [HV.out]
set_option maxHeartbeats 4000000 in
theorem canMeet_any {w : World} {x y : Tm} {A A' : Option Addr} {n c n' c' : Nat} (hl : Hid (x.met.length = n)) (hn : n ≤ 1048576) (hr : Rd w w.heap.size A (ivs x.met)) :
    Calls Try.prog 82 #[.agg #[Value.int .i64 x.id, .int .i64 x.club, .int .i64 x.wins, .int .i64 x.pts, .int .i64 x.firsts, .slice A n c], .agg #[Value.int .i64 y.id, .int .i64 y.club, .int .i64 y.wins, .int .i64 y.pts, .int .i64 y.firsts, .slice A' n' c']] w (fun e w' => e = .returned (.bool (canT x y)) ∧ Below w.heap.size w w') := by
  obtain ⟨W1, hW1, x1, b1, z1⟩ := box6 w 82 (.int .i64 x.id) (.int .i64 x.club) (.int .i64 x.wins) (.int .i64 x.pts) (.int .i64 x.firsts) (.slice A n c)
  obtain ⟨W2, hW2, x2, b2, z2⟩ := box6 W1 82 (.int .i64 y.id) (.int .i64 y.club) (.int .i64 y.wins) (.int .i64 y.pts) (.int .i64 y.firsts) (.slice A' n' c')
  have HB := Lib.hid (b1.trans (b2.mono b1.size))
  have hr2 := hr.below HB.out
  obtain ⟨c0, c1, c2, c3, c4, c5⟩ := x1.c6 b2
  obtain ⟨d0, d1, d2, d3, d4, d5⟩ := x2.c6 (Below.refl _ _)
  rw [z1] at d0 d1 d2 d3 d4 d5
  have HW := Lib.hid (show (w.alloc (Obj.cells #[Value.int .i64 x.id, .int .i64 x.club, .int .i64 x.wins, .int .i64 x.pts, .int .i64 x.firsts, .slice A n c] 82)).alloc (Obj.cells #[Value.int .i64 y.id, .int .i64 y.club, .int .i64 y.wins, .int .i64 y.pts, .int .i64 y.firsts, .slice A' n' c'] 82) = W2 by rw [hW1, hW2])
  clear hW1 hW2 x1 x2 b1 b2 z1 z2
  by_cases h1 : x.club = y.club
  · have HV := Lib.hid (show canT x y = false by unfold canT; rw [decide_eq_false (by simpa using h1)]; rfl)
    have e1 : (x.club != y.club) = false := by simp [h1]
    clear h1
    go_enter Try.func82, Try.ntmps82
    go_wp2_with fail
    rw [HW.out]
    try (go_wp2_with fail)
    go_ret
    exact ⟨ret_b HV.out.symm, HB.out⟩
  · have HV := Lib.hid (show canT x y = !(x.met.contains y.id) by unfold canT; rw [decide_eq_true (by simpa using h1), Bool.true_and]; congr 1; simp)
    have e1 : (x.club != y.club) = true := by simpa using h1
    clear h1
    go_enter Try.func82, Try.ntmps82
    go_wp2_with fail
    rw [HW.out]
    try (go_wp2_with fail)
    refine (contains_any' (S := x.met) hl (by omega) hr2).mono ?_
    rintro e u6 ⟨rfl, rfl⟩
    go_wp2_with fail
    go_ret
    exact ⟨ret_b (by rw [HV.out]; simp), HB.out⟩
end Go.Proofs.Ythkigilegnjglaa
