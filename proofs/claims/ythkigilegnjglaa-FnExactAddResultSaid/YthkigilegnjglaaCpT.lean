/- Contracts of copyOfTeams and of the model's l19Copy. Condition: the slice has at most 2^20 elements, each team's at most 2^20. -/
import Derived.Test.YthkigilegnjglaaMg7
import Derived.Test.YthkigilegnjglaaMg16
import Derived.Deep.DeepCutAuto
namespace Go.Proofs.Ythkigilegnjglaa
open Go.ChangeShapes Go.WideShapes Go.ChangeAt Go.RowKit
set_option maxRecDepth 100000
theorem OwnT.made0 (w : World) : OwnT (w.alloc (Obj.cells #[] 82)) w.heap.size (w.heap.size + 1) (.slice (some ⟨w.heap.size, 0, none⟩) 0 0) [] := by
  refine ⟨[w.heap.size], ⟨_, [], rfl, rfl, ⟨rfl, .inr ⟨w.heap.size, 0, #[], rfl, Nat.zero_le _, heap_alloc_new w _, Nat.le_refl _, Nat.zero_le _, rfl, rfl⟩⟩, rfl, by simp, by simp, by simp⟩, by simp, by simp⟩
theorem Row.ownsT {w : World} {lo hi : Nat} {u : Value} {x : Tm} (h : Row w lo hi 3 u (ivs x.met)) : Owns TeamR w lo hi [Value.int .i64 x.id, .int .i64 x.club, .int .i64 x.wins, .int .i64 x.pts, .int .i64 x.firsts, u] x := by
  obtain ⟨F, k1, k2, k3⟩ := Row.owns h
  exact ⟨F, ⟨u, rfl, k1⟩, k2, k3⟩
theorem team_one (x : Tm) (A : Option Addr) (n c : Nat) : ∀ u ∈ [Value.int .i64 x.id, .int .i64 x.club, .int .i64 x.wins, .int .i64 x.pts, .int .i64 x.firsts, .slice A n c], u.oneCell' = true := by
  intro u hu
  simp at hu
  rcases hu with rfl | rfl | rfl | rfl | rfl | rfl <;> rfl
set_option maxHeartbeats 4000000 in
theorem copyOfTeams_any {w : World} {A : Option Addr} {n c : Nat} {X : List Tm} (hl : Hid (X.length = n)) (hn : n ≤ 1048576) (hs : Hid (∀ x ∈ X, x.met.length ≤ 1048576)) (hr : RdT w w.heap.size A X) :
    Calls Try.prog 90 #[.slice A n c] w (fun e w' => ∃ v, e = .returned v ∧ OwnT w' w.heap.size w'.heap.size v X ∧ Below w.heap.size w w') := by
  obtain ⟨i0', hi, hz0, hz1, hz2⟩ := info_parts Team_info
  obtain ⟨j0, ji, jz0, jz1, jz2⟩ := info_parts IntS_info
  have ho0 := OwnT.made0 w
  have hb0 := alloc_m w (Obj.cells #[] 82)
  have hs0 : (w.alloc (Obj.cells #[] 82)).heap.size = w.heap.size + 1 := by simp
  rw [← hs0] at ho0
  go_enter Try.func90, Try.ntmps90
  go_wp2_with fail
  go_loopw [3, 9] (fun s i wr => ∃ k : Nat, k ≤ n ∧ i = .int .i64 k ∧ OwnT wr w.heap.size wr.heap.size s (X.take k) ∧ Below w.heap.size w wr) (fun _ i _ => n - (intOf i).toNat)
  case atStart => exact ⟨0, Nat.zero_le _, rfl, ho0, hb0⟩
  case round =>
    obtain ⟨k, hk, rfl, how, hb⟩ := hrel
    clear ho0 hb0 hs0
    have hsz := hb.size
    by_cases hlt : k < n
    · have hkz : k < X.length := by rw [hl.out]; exact hlt
      obtain ⟨ad, p, rfl, hp, hab, Aj, cj, h0, h1, h2, h3, h4, h5, _, _, hrj⟩ := ((hr.below hb).more hsz).at_ hkz
      have i0 : (0 : Int) ≤ (k : Int) := by omega
      have i1 : (k : Int) < (n : Int) := by omega
      have hsn := hs.out _ (List.getElem_mem hkz)
      have HTK := Lib.hid (List.take_succ_eq_append_getElem hkz)
      obtain ⟨x, hx⟩ : ∃ x, x = X[k] := ⟨_, rfl⟩
      rw [← hx] at h0 h1 h2 h3 h4 h5 hrj hsn HTK
      obtain ⟨m9, hm9⟩ : ∃ m, x.met.length = m := ⟨_, rfl⟩
      rw [hm9] at h5 hsn
      have HM9 := Lib.hid hm9
      obtain ⟨W2, hW2, x2, b2, z2⟩ := box6 wr 82 (.int .i64 x.id) (.int .i64 x.club) (.int .i64 x.wins) (.int .i64 x.pts) (.int .i64 x.firsts) (.slice Aj m9 cj)
      have HW2 := Lib.hid hW2
      have HX2 := Lib.hid x2
      obtain ⟨d0, d1, d2, d3, d4, d5⟩ := x2.c6 (Below.refl _ _)
      have hwz : wr.heap.size < W2.heap.size := by omega
      have HRJ := Lib.hid ((hrj.below b2).more b2.size)
      have HB2 := Lib.hid b2
      have HOW := Lib.hid how
      clear hx hm9 hW2 z2 x2 b2 hrj how
      go_wp2_with fail
      rw [HW2.out]
      try (go_wp2_with fail)
      refine (clone_any (xs := x.met) HM9 (by omega) HRJ.out).mono ?_
      rintro e w3 ⟨v1, rfl, hrow1, b3⟩
      obtain ⟨A9, c9, rfl, _, _, _⟩ := hrow1.rd (n := m9) (by rw [ivs_len, HM9.out])
      have x3 := HX2.out.new b3
      obtain ⟨e0, e1, e2, e3, e4, e5⟩ := x3.c6 (Below.refl _ _)
      have q0 := x3.free 5
      have hs3 := b3.size
      have x4 := x3.set 5 (.slice A9 m9 c9)
      have hb34 : Below wr.heap.size wr (w3.setCell ⟨wr.heap.size, 5, none⟩ (.slice A9 m9 c9)) := (HB2.out.trans (b3.mono HB2.out.size)).setCell (Nat.le_refl _) _
      have hrow4 : Row (w3.setCell ⟨wr.heap.size, 5, none⟩ (.slice A9 m9 c9)) W2.heap.size w3.heap.size 3 (.slice A9 m9 c9) (ivs x.met) := hrow1.keep fun b q1 _ _ => by rw [Below.heap_setCell _ _ _ _ (by show b ≠ wr.heap.size; omega)]
      have hs34 : (w3.setCell ⟨wr.heap.size, 5, none⟩ (.slice A9 m9 c9)).heap.size = w3.heap.size := by simp [World.setCell]
      obtain ⟨W5, hW5⟩ : ∃ u, w3.setCell ⟨wr.heap.size, 5, none⟩ (.slice A9 m9 c9) = u := ⟨_, rfl⟩
      have HW5 := Lib.hid hW5
      rw [hW5] at hb34 hrow4 hs34
      have X4 := Lib.hid (show Bx W5 wr.heap.size 82 #[Value.int .i64 x.id, .int .i64 x.club, .int .i64 x.wins, .int .i64 x.pts, .int .i64 x.firsts, .slice A9 m9 c9] by rw [← hW5]; exact x4)
      have b6 := alloc_m W5 (Obj.cells #[Value.int .i64 x.id, .int .i64 x.club, .int .i64 x.wins, .int .i64 x.pts, .int .i64 x.firsts, .slice A9 m9 c9] 82)
      have hb6 : Below wr.heap.size wr (W5.alloc (Obj.cells #[Value.int .i64 x.id, .int .i64 x.club, .int .i64 x.wins, .int .i64 x.pts, .int .i64 x.firsts, .slice A9 m9 c9] 82)) := hb34.trans (b6.mono hb34.size)
      have HMADE := Lib.hid (show Rd (W5.alloc (Obj.cells #[Value.int .i64 x.id, .int .i64 x.club, .int .i64 x.wins, .int .i64 x.pts, .int .i64 x.firsts, .slice A9 m9 c9] 82)) (W5.heap.size + 1) (some ⟨W5.heap.size, 0, none⟩) [Value.int .i64 x.id, .int .i64 x.club, .int .i64 x.wins, .int .i64 x.pts, .int .i64 x.firsts, .slice A9 m9 c9] from Rd.made W5 #[Value.int .i64 x.id, .int .i64 x.club, .int .i64 x.wins, .int .i64 x.pts, .int .i64 x.firsts, .slice A9 m9 c9] 82)
      have HEL := Lib.hid ((Row.ownsT (x := x) (((hrow4.new b6).wide (show wr.heap.size ≤ W2.heap.size by omega) (show w3.heap.size ≤ W5.heap.size + 1 by omega)))))
      have HOW6 := Lib.hid (HOW.out.new hb6)
      have HB6 := Lib.hid hb6
      have HTL := Lib.hid (show (X.take k).length + 1 ≤ maxLen ∧ ((X.take k).length + 1) * 64 ≤ 140737488355328 by rw [List.length_take, hl.out]; unfold maxLen; omega)
      have hL6 : w.heap.size ≤ (W5.alloc (Obj.cells #[Value.int .i64 x.id, .int .i64 x.club, .int .i64 x.wins, .int .i64 x.pts, .int .i64 x.firsts, .slice A9 m9 c9] 82)).heap.size := by have := hb6.size; omega
      clear x3 x4 hrow4 hrow1 b3 b6 hb34 hb6 hW5 hs34
      go_upto_region 6 with fail
      rw [HW5.out]
      obtain ⟨f0, f1, f2, f3, f4, f5⟩ := X4.out.c6 (Below.refl _ _)
      clear e0 e1 e2 e3 e4 e5 q0
      go_wp2_with (at_builtin; refine wpList_appR (R := TeamR) (l := X.take k) (x := x) (us := [Value.int .i64 x.id, .int .i64 x.club, .int .i64 x.wins, .int .i64 x.pts, .int .i64 x.firsts, .slice A9 m9 c9]) (ad := ⟨W5.heap.size, 0, none⟩) (c := 1) rfl (.tmp 17) (.tmp 19) 30 rfl TeamR.frames i0' _ 64 Try.underlying30 hi hz0 hz1 hz2 rfl (by omega) rfl rfl HOW6.out HEL.out rfl HMADE.out (team_one x A9 m9 c9) hsz HTL.out.1 HTL.out.2 hL6 ?_; intro v9 w9 how9 b9)
      have hb9 := hb.trans ((HB6.out.mono hsz).trans b9)
      have HOW9 := Lib.hid (show OwnT w9 w.heap.size w9.heap.size v9 (X.take (k + 1)) by rw [HTK.out]; exact how9)
      go_wp2_with fail
      go_roundw
      case rel => exact ⟨k + 1, by omega, by go_num, HOW9.out, hb9⟩
      case measure => simp [intOf]; omega
    · have e : k = n := by omega
      subst e
      rw [List.take_of_length_le (by rw [hl.out]; exact Nat.le_refl _)] at how
      go_wp2_with fail
      go_ret
      exact ⟨_, rfl, how, hb⟩
set_option maxHeartbeats 4000000 in
theorem l19Copy_any {w : World} {A : Option Addr} {n c : Nat} {X : List Tm} (hl : Hid (X.length = n)) (hn : n ≤ 1048576) (hs : Hid (∀ x ∈ X, x.met.length ≤ 1048576)) (hr : RdT w w.heap.size A X) :
    Calls Try.prog 86 #[.slice A n c] w (fun e w' => ∃ v, e = .returned v ∧ OwnT w' w.heap.size w'.heap.size v X ∧ Below w.heap.size w w') := by
  obtain ⟨i0', hi, hz0, hz1, hz2⟩ := info_parts Team_info
  obtain ⟨j0, ji, jz0, jz1, jz2⟩ := info_parts IntS_info
  have ho0 := OwnT.made0 w
  have hb0 := alloc_m w (Obj.cells #[] 82)
  have hs0 : (w.alloc (Obj.cells #[] 82)).heap.size = w.heap.size + 1 := by simp
  rw [← hs0] at ho0
  go_enter Try.func86, Try.ntmps86
  go_wp2_with fail
  go_loopw [3, 4] (fun s i wr => ∃ k : Nat, k ≤ n ∧ i = .int .i64 k ∧ OwnT wr w.heap.size wr.heap.size s (X.take k) ∧ Below w.heap.size w wr) (fun _ i _ => n - (intOf i).toNat)
  case atStart => exact ⟨0, Nat.zero_le _, rfl, ho0, hb0⟩
  case round =>
    obtain ⟨k, hk, rfl, how, hb⟩ := hrel
    clear ho0 hb0 hs0
    have hsz := hb.size
    by_cases hlt : k < n
    · have hkz : k < X.length := by rw [hl.out]; exact hlt
      obtain ⟨ad, p, rfl, hp, hab, Aj, cj, h0, h1, h2, h3, h4, h5, _, _, hrj⟩ := ((hr.below hb).more hsz).at_ hkz
      have i0 : (0 : Int) ≤ (k : Int) := by omega
      have i1 : (k : Int) < (n : Int) := by omega
      have hsn := hs.out _ (List.getElem_mem hkz)
      have HTK := Lib.hid (List.take_succ_eq_append_getElem hkz)
      obtain ⟨x, hx⟩ : ∃ x, x = X[k] := ⟨_, rfl⟩
      rw [← hx] at h0 h1 h2 h3 h4 h5 hrj hsn HTK
      obtain ⟨m9, hm9⟩ : ∃ m, x.met.length = m := ⟨_, rfl⟩
      rw [hm9] at h5 hsn
      have HM9 := Lib.hid hm9
      obtain ⟨W2, hW2, x2, b2, z2⟩ := box6 wr 82 (.int .i64 x.id) (.int .i64 x.club) (.int .i64 x.wins) (.int .i64 x.pts) (.int .i64 x.firsts) (.slice Aj m9 cj)
      have HW2 := Lib.hid hW2
      have HX2 := Lib.hid x2
      obtain ⟨d0, d1, d2, d3, d4, d5⟩ := x2.c6 (Below.refl _ _)
      have hwz : wr.heap.size < W2.heap.size := by omega
      have HRJ := Lib.hid ((hrj.below b2).more b2.size)
      have HB2 := Lib.hid b2
      have HOW := Lib.hid how
      clear hx hm9 hW2 z2 x2 b2 hrj how
      have B4 := alloc_m W2 (Obj.cells #[] 3)
      have hrow0 : Row (W2.alloc (Obj.cells #[] 3)) W2.heap.size (W2.heap.size + 1) 3 (.slice (some ⟨W2.heap.size, 0, none⟩) 0 0) [] := Row.made (w := W2) W2.heap.size #[] 0 3 (Nat.le_refl _) rfl (Nat.zero_le _)
      obtain ⟨f0, f1, f2, f3, f4, f5⟩ := HX2.out.c6 B4
      have HRW := Lib.hid hrow0
      have HB4 := Lib.hid B4
      have HR4 := Lib.hid ((HRJ.out.below B4).more B4.size)
      have LM := Lib.hid (show ([] : List Value).length + m9 ≤ maxLen ∧ (([] : List Value).length + m9) * 8 ≤ 140737488355328 by unfold maxLen; simp; omega)
      have HLn := Lib.hid (show (ivs x.met).length = m9 by rw [ivs_len, HM9.out])
      have hle4 := B4.size
      have hz4 : (W2.alloc (Obj.cells #[] 3)).heap.size = W2.heap.size + 1 := by simp
      have hz4' := Lib.hid hz4
      have HW2' := HW2.out
      have hz2 : W2.heap.size = wr.heap.size + 1 := by rw [← HW2']; simp
      have HZ2 := Lib.hid hz2
      subst HW2'
      clear hrow0 B4 hz4 hz2
      go_upto_region 7 with (
        at_builtin
        refine wpList_app rfl (.tmp 17) (.tmp 19) 45 rfl 3 j0 _ 8 Try.underlying45 ji jz0 jz1 jz2 rfl rfl rfl (v := .slice (some ⟨wr.heap.size + 1, 0, none⟩) 0 0) (by rw [← HZ2.out]; exact HRW.out) HLn.out HR4.out int_one LM.out.1 LM.out.2 hle4 ?_
        intro v1 w3 hrow1 ho3
        rw [List.nil_append] at hrow1
        have b3 := (HB4.out).trans (ho3.below (Nat.le_refl _) hle4)
        obtain ⟨A9, c9, rfl, _, _, _⟩ := hrow1.rd (n := m9) (by rw [ivs_len, HM9.out])
        have x3 := HX2.out.new b3
        obtain ⟨e0, e1, e2, e3, e4, e5⟩ := x3.c6 (Below.refl _ _)
        have q0 := x3.free 5
        have hs3 := b3.size
        have x4 := x3.set 5 (.slice A9 m9 c9)
        have hb34 : Below wr.heap.size wr (w3.setCell ⟨wr.heap.size, 5, none⟩ (.slice A9 m9 c9)) := (HB2.out.trans (b3.mono HB2.out.size)).setCell (Nat.le_refl _) _
        have hrow4 : Row (w3.setCell ⟨wr.heap.size, 5, none⟩ (.slice A9 m9 c9)) (wr.alloc (Obj.cells #[Value.int .i64 x.id, .int .i64 x.club, .int .i64 x.wins, .int .i64 x.pts, .int .i64 x.firsts, .slice Aj m9 cj] 82)).heap.size w3.heap.size 3 (.slice A9 m9 c9) (ivs x.met) := hrow1.keep fun b q1 _ _ => by rw [Below.heap_setCell _ _ _ _ (by show b ≠ wr.heap.size; omega)]
        have hs34 : (w3.setCell ⟨wr.heap.size, 5, none⟩ (.slice A9 m9 c9)).heap.size = w3.heap.size := by simp [World.setCell]
        obtain ⟨W5, hW5⟩ : ∃ u, w3.setCell ⟨wr.heap.size, 5, none⟩ (.slice A9 m9 c9) = u := ⟨_, rfl⟩
        have HW5 := Lib.hid hW5
        rw [hW5] at hb34 hrow4 hs34
        have X4 := Lib.hid (show Bx W5 wr.heap.size 82 #[Value.int .i64 x.id, .int .i64 x.club, .int .i64 x.wins, .int .i64 x.pts, .int .i64 x.firsts, .slice A9 m9 c9] by rw [← hW5]; exact x4)
        have b6 := alloc_m W5 (Obj.cells #[Value.int .i64 x.id, .int .i64 x.club, .int .i64 x.wins, .int .i64 x.pts, .int .i64 x.firsts, .slice A9 m9 c9] 82)
        have hb6 : Below wr.heap.size wr (W5.alloc (Obj.cells #[Value.int .i64 x.id, .int .i64 x.club, .int .i64 x.wins, .int .i64 x.pts, .int .i64 x.firsts, .slice A9 m9 c9] 82)) := hb34.trans (b6.mono hb34.size)
        have HMADE := Lib.hid (show Rd (W5.alloc (Obj.cells #[Value.int .i64 x.id, .int .i64 x.club, .int .i64 x.wins, .int .i64 x.pts, .int .i64 x.firsts, .slice A9 m9 c9] 82)) (W5.heap.size + 1) (some ⟨W5.heap.size, 0, none⟩) [Value.int .i64 x.id, .int .i64 x.club, .int .i64 x.wins, .int .i64 x.pts, .int .i64 x.firsts, .slice A9 m9 c9] from Rd.made W5 #[Value.int .i64 x.id, .int .i64 x.club, .int .i64 x.wins, .int .i64 x.pts, .int .i64 x.firsts, .slice A9 m9 c9] 82)
        have HEL := Lib.hid ((Row.ownsT (x := x) (((hrow4.new b6).wide (show wr.heap.size ≤ (wr.alloc (Obj.cells #[Value.int .i64 x.id, .int .i64 x.club, .int .i64 x.wins, .int .i64 x.pts, .int .i64 x.firsts, .slice Aj m9 cj] 82)).heap.size by omega) (show w3.heap.size ≤ W5.heap.size + 1 by omega)))))
        have HOW6 := Lib.hid (HOW.out.new hb6)
        have HB6 := Lib.hid hb6
        have HTL := Lib.hid (show (X.take k).length + 1 ≤ maxLen ∧ ((X.take k).length + 1) * 64 ≤ 140737488355328 by rw [List.length_take, hl.out]; unfold maxLen; omega)
        have hL6 : w.heap.size ≤ (W5.alloc (Obj.cells #[Value.int .i64 x.id, .int .i64 x.club, .int .i64 x.wins, .int .i64 x.pts, .int .i64 x.firsts, .slice A9 m9 c9] 82)).heap.size := by have := hb6.size; omega
        clear x3 x4 hrow4 hrow1 b3 b6 hb34 hb6 hW5 hs34)
      rw [HW5.out]
      obtain ⟨f0, f1, f2, f3, f4, f5⟩ := X4.out.c6 (Below.refl _ _)
      clear e0 e1 e2 e3 e4 e5 q0
      go_wp2_with (at_builtin; refine wpList_appR (R := TeamR) (l := X.take k) (x := x) (us := [Value.int .i64 x.id, .int .i64 x.club, .int .i64 x.wins, .int .i64 x.pts, .int .i64 x.firsts, .slice A9 m9 c9]) (ad := ⟨W5.heap.size, 0, none⟩) (c := 1) rfl (.tmp 22) (.tmp 24) 30 rfl TeamR.frames i0' _ 64 Try.underlying30 hi hz0 hz1 hz2 rfl (by omega) rfl rfl HOW6.out HEL.out rfl HMADE.out (team_one x A9 m9 c9) hsz HTL.out.1 HTL.out.2 hL6 ?_; intro v9 w9 how9 b9)
      have hb9 := hb.trans ((HB6.out.mono hsz).trans b9)
      have HOW9 := Lib.hid (show OwnT w9 w.heap.size w9.heap.size v9 (X.take (k + 1)) by rw [HTK.out]; exact how9)
      go_wp2_with fail
      go_roundw
      case rel => exact ⟨k + 1, by omega, by go_num, HOW9.out, hb9⟩
      case measure => simp [intOf]; omega
    · have e : k = n := by omega
      subst e
      rw [List.take_of_length_le (by rw [hl.out]; exact Nat.le_refl _)] at how
      go_wp2_with fail
      go_ret
      exact ⟨_, rfl, how, hb⟩
end Go.Proofs.Ythkigilegnjglaa