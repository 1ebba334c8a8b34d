/- The law of chapter 9: a new claim stands and can be taken away again, new names change nothing, and a part has no more claims. Condition: the library's variable errors.errorType reads as the program's text lays it. -/
import Derived.Test.YtjhknafajfpldaaDoorMg24
import Derived.Test.YtjhknafajfpldaaDoorMg30
import Derived.Test.YtjhknafajfpldaaDoorMg19
import Derived.Test.YtjhknafajfpldaaDoorWthC
import Derived.Test.YtjhknafajfpldaaDoorRenR
import Derived.Test.YtjhknafajfpldaaDoorMg28
import Derived.Test.YtjhknafajfpldaaDoorPartI
import Derived.Test.YtjhknafajfpldaaDoorMg27
import Derived.Test.YtjhknafajfpldaaDoorMg5
import Derived.Test.YtjhknafajfpldaaDoorWho
import Derived.Test.YtjhknafajfpldaaDoorLoopC
import Derived.Test.YtjhknafajfpldaaDoorMg26
import Derived.Test.YtjhknafajfpldaaDoorRoundOf2
import Derived.Test.YtjhknafajfpldaaDoorSame
import Derived.Deep.RegionHeld3
import Derived.Deep.DeepCutAuto
import Derived.BigQuiet
import Derived.Deep.Quiet
namespace Go.Proofs.YtjhknafajfpldaaDoor
open Go.ChangeShapes Go.WideShapes Go.ChangeAt Go.RowKit
set_option maxRecDepth 100000
/-- A graph in a block of its own. -/
structure GK (g : Nat) (N : Int) (A : Option Addr) (n c : Nat) (X : List (List Int)) (w : World) : Prop where
  bx : Bx w g 26 #[.int .i64 N, .slice A n c]
  gr : RdSS w w.heap.size A X
theorem GK.new {g : Nat} {N : Int} {A : Option Addr} {n c : Nat} {X : List (List Int)} {w w' : World} (h : GK g N A n c X w) (r : Below w.heap.size w w') : GK g N A n c X w' := ⟨h.bx.new r, rdSS_new h.gr r⟩
theorem GK.made {w : World} {N : Int} {A : Option Addr} {n c : Nat} {X : List (List Int)} (h : RdSS w w.heap.size A X) : GK w.heap.size N A n c X (w.alloc (Obj.cells #[.int .i64 N, .slice A n c] 26)) := ⟨Bx.made _ _ _, rdSS_new h (alloc_new w _)⟩
theorem wtY_shortD {N : Int} {X : List (List Int)} {S : List Int} (hX : X.length ≤ 10) (hS : S.length ≤ 13) : (wtY N X S).length ≤ 100 := by
  unfold wtY
  split
  · unfold wthX; simp; omega
  · omega
theorem vct_lenS {N : Int} {X : List (List Int)} {S : List Int} (h : wthB N X S = true) : (vct (N + 1) (wthX N X S) N).length = S.length := by rw [wth_vct h]
/-- What the loop over the names keeps. -/
structure DR (W : World) (g gb : Nat) (N : Int) (A Ab At As Ar : Option Addr) (n c cb : Nat) (m : Nat) (X Y : List (List Int)) (T S R : List Int) (w : World) : Prop where
  a : GK g N A n c X w
  b : GK gb N Ab m cb Y w
  t : Rd w w.heap.size At (ivs T)
  s : Rd w w.heap.size As (ivs S)
  r : Rd w w.heap.size Ar (ivs R)
  hb : Below W.heap.size W w
theorem DR.new {W : World} {g gb : Nat} {N : Int} {A Ab At As Ar : Option Addr} {n c cb m : Nat} {X Y : List (List Int)} {T S R : List Int} {w w' : World} (h : DR W g gb N A Ab At As Ar n c cb m X Y T S R w) (q : Below w.heap.size w w') : DR W g gb N A Ab At As Ar n c cb m X Y T S R w' :=
  ⟨h.a.new q, h.b.new q, rd_new h.t q, rd_new h.s q, rd_new h.r q, h.hb.trans (q.mono h.hb.size)⟩
theorem ren_n {N : Int} {X : List (List Int)} {T : List Int} (h : renB N X T = true) : (T.length : Int) = N := by
  obtain ⟨n, t, rfl, _, _, _, _, hl, _⟩ := ren_parts h
  rw [hl]
theorem getD_atD {L : List Int} {k : Nat} (h : k < L.length) : L.getD k 0 = L[k] := by simp [List.getD, h]
theorem reY_short {N : Int} {X : List (List Int)} {T : List Int} (hX : X.length ≤ 10) : (reY N X T).length ≤ 100 := by
  unfold reY
  split
  · rename_i h; rw [ren_len h]; omega
  · omega
set_option maxHeartbeats 20000000 in
theorem dis_core {W : World} {A : Option Addr} {n c : Nat} (h8 : Code8 W A n) (hn : n ≤ 1048576) (hE : W.cell? ⟨0, 0, none⟩ = some asE) :
    Calls Tryd.prog 3 #[.slice A n c] W (fun e W' => e = .returned (.bool true) ∧ Below W.heap.size W W') := by
  have HE := Lib.hid hE
  clear hE
  go_enter Tryd.func3, Tryd.ntmps3
  go_wp2_with fail
  refine (big_no hn).mono ?_
  rintro e w1 ⟨rfl, rfl⟩
  go_wp2_with fail
  refine (drawWith h8).mono ?_
  rintro e w1 ⟨N, X, v, S, us, M, hok, hsl, rfl, hM1, hM2, hown, hrow, hb1⟩
  obtain ⟨As, cs, rfl, hrs, _, _⟩ := hrow.rd (n := S.length) (ivs_len S)
  obtain ⟨Av, cv, rfl, hrd, _, _⟩ := (hown.wide (Nat.le_refl _) hM2).rd (n := X.length) rfl
  have kk := alloc_new w1 (Obj.cells #[Value.int .i64 N, .slice Av X.length cv] 26)
  have ka := GK.made (N := N) (n := X.length) (c := cv) hrd
  have rs := rd_new hrs kk
  have hb := hb1.trans (kk.mono hb1.size)
  obtain ⟨w2, hw2⟩ : ∃ z : World, z = w1.alloc (Obj.cells #[Value.int .i64 N, .slice Av X.length cv] 26) := ⟨_, rfl⟩
  obtain ⟨g, hg⟩ : ∃ g, g = w1.heap.size := ⟨_, rfl⟩
  rw [← hw2] at ka rs hb
  rw [← hg] at ka
  have HW := Lib.hid hw2.symm
  have HG := Lib.hid hg.symm
  have HXL := Lib.hid (show X.length ≤ 549755813888 by have := hok.1; omega)
  have HXS := hok.small
  have HSL := Lib.hid (show S.length ≤ 549755813888 by omega)
  have HX10 := Lib.hid hok.1
  have HS13 := Lib.hid hsl
  obtain ⟨D0, D1⟩ := ka.bx.two
  clear hw2 hg kk hown hrow hb1 hok hsl hM1 hM2 hrd hrs
  go_wp2_with fail
  rw [HW.out, HG.out]
  clear HW HG
  refine (impWithClaim_any (N := N) (X := X) (S := S) (c := cv) (c' := cs) (asE_new HE.out hb) (Lib.hid rfl) (by have := HXL.out; omega) HXS ka.gr (Lib.hid rfl) (by have := HSL.out; omega) rs).mono ?_
  rintro e w3 ⟨vy, rfl, hy, r⟩
  have HYL := Lib.hid (wtY_shortD (N := N) (S := S) HX10.out HS13.out)
  obtain ⟨Y, hY⟩ : ∃ Y, Y = wtY N X S := ⟨_, rfl⟩
  obtain ⟨N1, hN1⟩ : ∃ N1, N1 = wtM N X S := ⟨_, rfl⟩
  obtain ⟨b, hbb⟩ : ∃ b, b = wthB N X S := ⟨_, rfl⟩
  have HQ := Lib.hid (And.intro hY (And.intro hN1 hbb))
  rw [← hY] at hy HYL
  rw [← hN1, ← hbb]
  obtain ⟨Ay, cy, rfl, hry, _, _⟩ := hy.rd (n := Y.length) rfl
  replace ka := ka.new r
  replace rs := rd_new rs r
  replace hb := hb.trans (r.mono hb.size)
  have kk := alloc_new w3 (Obj.cells #[Value.int .i64 N1, .slice Ay Y.length cy] 26)
  have kx := GK.made (N := N1) (n := Y.length) (c := cy) hry
  replace ka := ka.new kk
  replace rs := rd_new rs kk
  replace hb := hb.trans (kk.mono hb.size)
  clear D0 D1
  obtain ⟨D0, D1⟩ := ka.bx.two
  obtain ⟨w4, hw4⟩ : ∃ z : World, z = w3.alloc (Obj.cells #[Value.int .i64 N1, .slice Ay Y.length cy] 26) := ⟨_, rfl⟩
  obtain ⟨gx, hgx⟩ : ∃ g, g = w3.heap.size := ⟨_, rfl⟩
  rw [← hw4] at ka rs hb kx
  rw [← hgx] at kx
  have HW := Lib.hid hw4.symm
  have HG := Lib.hid hgx.symm
  clear hw4 hgx kk r hy hry hY hN1 hbb
  go_wp2_with fail
  rw [HW.out, HG.out]
  clear HW HG D0 D1
  refine (specWithClaim_any (N := N) (X := X) (S := S) (c := cv) (c' := cs) (Lib.hid rfl) HXL.out HXS ka.gr (Lib.hid rfl) HSL.out rs).mono ?_
  rintro e w5 ⟨vy, rfl, hy, r⟩
  rw [← HQ.out.1] at hy
  rw [← HQ.out.2.1, ← HQ.out.2.2]
  obtain ⟨Aq, cq, rfl, _, _, _⟩ := hy.rd (n := Y.length) rfl
  replace ka := ka.new r
  replace kx := kx.new r
  replace rs := rd_new rs r
  replace hb := hb.trans (r.mono hb.size)
  have kk := alloc_new w5 (Obj.cells #[Value.int .i64 N1, .slice Aq Y.length cq] 26)
  replace ka := ka.new kk
  replace kx := kx.new kk
  replace rs := rd_new rs kk
  replace hb := hb.trans (kk.mono hb.size)
  obtain ⟨w6, hw6⟩ : ∃ z : World, z = w5.alloc (Obj.cells #[Value.int .i64 N1, .slice Aq Y.length cq] 26) := ⟨_, rfl⟩
  rw [← hw6] at ka kx rs hb
  have HW := Lib.hid hw6.symm
  clear hw6 kk r hy
  have hyy : (b != b) = false := by cases b <;> rfl
  go_upto_if 42 with fail
  rw [HW.out]
  clear HW
  go_cut [] from 3 to 91 (fun wx => Below W.heap.size W wx)
  case first =>
    cases b with
    | false =>
      go_wp2_with fail
      go_meet
      case rel => exact hb
    | true =>
      have hB : wthB N X S = true := HQ.out.2.2.symm
      have hYX : Y = wthX N X S := by rw [HQ.out.1]; unfold wtY; rw [if_pos hB]
      have hNN : N1 = N + 1 := by rw [HQ.out.2.1]; unfold wtM; rw [if_pos hB]
      have HWM : Hid (woM N1 Y N = N) := Lib.hid (by rw [hYX, hNN]; unfold woM; rw [if_pos (wth_wo hB)]; omega)
      have HWY : Hid (woY N1 Y N = X) := Lib.hid (by rw [hYX, hNN]; unfold woY; rw [if_pos (wth_wo hB)]; exact wth_without hB)
      have HWB : Hid (woB N1 Y N = true) := Lib.hid (by rw [hYX, hNN]; exact wth_wo hB)
      have HGB : Hid (gB N1 Y = true) := Lib.hid (by rw [hYX, hNN]; exact wth_g hB)
      have HP1 : Hid (partB N X N1 Y = true) := Lib.hid (by rw [hYX, hNN]; exact wth_part hB)
      have HP2 : Hid (partB N X N X = true) := Lib.hid (wth_same hB)
      have HVC : Hid (vct N1 Y N = S) := Lib.hid (by rw [hYX, hNN]; exact wth_vct hB)
      have HGR : Hid ((grd N1 Y).contains N = true) := Lib.hid (by rw [hYX, hNN]; exact wth_grd hB)
      have HYS : Hid (∀ x ∈ Y, x.length ≤ 1099511627776) := Lib.hid (by
        intro x hx
        rw [hYX] at hx
        unfold wthX at hx
        rcases List.mem_append.1 hx with hx | hx
        · exact HXS.out x hx
        · obtain ⟨z, _, rfl⟩ := List.mem_map.1 hx; simp)
      clear HQ hB hYX hNN
      obtain ⟨D0, D1⟩ := ka.bx.two
      obtain ⟨E0, E1⟩ := kx.bx.two
      go_wp2_with fail
      refine (impWithout_any (N := N1) (X := Y) (a := N) (c := cy) (Lib.hid rfl) (by have := HYL.out; omega) HYS kx.gr).mono ?_
      rintro e w7 ⟨vw, he, hw, r⟩
      rw [HWM.out, HWB.out] at he
      rw [HWY.out] at hw
      subst he
      obtain ⟨Aw, cw, rfl, hrw, _, _⟩ := hw.rd (n := X.length) rfl
      replace ka := ka.new r
      replace kx := kx.new r
      replace rs := rd_new rs r
      replace hb := hb.trans (r.mono hb.size)
      have kk := alloc_new w7 (Obj.cells #[Value.int .i64 N, .slice Aw X.length cw] 26)
      have ky := GK.made (N := N) (n := X.length) (c := cw) hrw
      replace ka := ka.new kk
      replace kx := kx.new kk
      replace rs := rd_new rs kk
      replace hb := hb.trans (kk.mono hb.size)
      obtain ⟨wr, hwr⟩ : ∃ z : World, z = w7.alloc (Obj.cells #[Value.int .i64 N, .slice Aw X.length cw] 26) := ⟨_, rfl⟩
      obtain ⟨gy, hgy⟩ : ∃ g, g = w7.heap.size := ⟨_, rfl⟩
      rw [← hwr] at ka rs hb kx ky
      rw [← hgy] at ky
      have HW := Lib.hid hwr.symm
      have HG := Lib.hid hgy.symm
      clear D0 D1 E0 E1 hwr hgy kk r hw hrw
      obtain ⟨D0, D1⟩ := ka.bx.two
      obtain ⟨E0, E1⟩ := kx.bx.two
      obtain ⟨F0, F1⟩ := ky.bx.two
      have KE := fun (u : World) (k : Below wr.heap.size wr u) => show Below wr.heap.size wr u ∧ u.cell? ⟨g, 0, none⟩ = some (.int .i64 N) ∧ u.cell? ⟨g, 1, none⟩ = some (.slice Av X.length cv) ∧ u.cell? ⟨gx, 0, none⟩ = some (.int .i64 N1) ∧ u.cell? ⟨gx, 1, none⟩ = some (.slice Ay Y.length cy) ∧ u.cell? ⟨gy, 0, none⟩ = some (.int .i64 N) ∧ u.cell? ⟨gy, 1, none⟩ = some (.slice Aw X.length cw) from ⟨k, (ka.new k).bx.two.1, (ka.new k).bx.two.2, (kx.new k).bx.two.1, (kx.new k).bx.two.2, (ky.new k).bx.two.1, (ky.new k).bx.two.2⟩
      go_wp2_with fail
      rw [HW.out, HG.out]
      clear HW HG
      refine wp_region_held_drew (S := fun u => Below wr.heap.size wr u ∧ u.cell? ⟨g, 0, none⟩ = some (.int .i64 N) ∧ u.cell? ⟨g, 1, none⟩ = some (.slice Av X.length cv) ∧ u.cell? ⟨gx, 0, none⟩ = some (.int .i64 N1) ∧ u.cell? ⟨gx, 1, none⟩ = some (.slice Ay Y.length cy) ∧ u.cell? ⟨gy, 0, none⟩ = some (.int .i64 N) ∧ u.cell? ⟨gy, 1, none⟩ = some (.slice Aw X.length cw)) (by kernel_rfl) ?_ (fun hHeld => ?_)
      · first | with_reducible exact KE _ k7 | with_reducible exact KE _ k6 | with_reducible exact KE _ k5 | with_reducible exact KE _ k4 | with_reducible exact KE _ k3 | with_reducible exact KE _ k2 | with_reducible exact KE _ k1 | with_reducible exact KE _ (Below.refl _ _).drew
      refine wpAnyH_take (i := 0) (v := ?_) rfl (by kernel_rfl) (by kernel_rfl) (by kernel_rfl) (fun _ _ _ h => h) (Or.inl ⟨by rfl, ?_⟩) (by assumption) ?_
      rotate_left
      · intro w hSw
        try dsimp only at hSw
        go_simp
        try with_reducible rfl
      try simp only [Act.put, List.getElem_toArray, List.getElem_cons_zero, List.setIfInBounds_toArray, List.set_cons_zero, List.set_cons_succ]
      refine wpAnyH_ready (rs := [1]) (by kernel_rfl) (by simp) ?_
      refine AllReadyH.cons rfl (fun K hK => ?_) AllReadyH.nil
      rw [if_pos (by rfl)]
      go_simp
      go_at_call 9
      refine (impIsGraph_any (N := N1) (X := Y) (c := cy) (Lib.hid rfl) (by have := HYL.out; omega) (kx.new (‹Below wr.heap.size wr _ ∧ _›).1).gr).mono ?_
      rintro e u1 ⟨he, r⟩
      rw [HGB.out] at he
      subst he
      have k1 := trans_new (‹Below wr.heap.size wr _ ∧ _›).1 r
      refine hK.out _ _ ?_ (fun hHeld => ?_)
      · first | with_reducible exact KE _ k7 | with_reducible exact KE _ k6 | with_reducible exact KE _ k5 | with_reducible exact KE _ k4 | with_reducible exact KE _ k3 | with_reducible exact KE _ k2 | with_reducible exact KE _ k1 | with_reducible exact KE _ (Below.refl _ _).drew
      clear hK K
      try simp only [Act.put, List.getElem_toArray, List.getElem_cons_succ, List.getElem_cons_zero, List.setIfInBounds_toArray, List.set_cons_zero, List.set_cons_succ]
      refine wpAnyH_take (i := 2) (v := ?_) rfl (by kernel_rfl) (by kernel_rfl) (by kernel_rfl) (fun _ _ _ h => h) (Or.inl ⟨by rfl, ?_⟩) (by assumption) ?_
      rotate_left
      · intro w hSw
        try dsimp only at hSw
        go_simp
        try with_reducible rfl
      try simp only [Act.put, List.getElem_toArray, List.getElem_cons_succ, List.getElem_cons_zero, List.setIfInBounds_toArray, List.set_cons_zero, List.set_cons_succ]
      refine wpAnyH_take (i := 3) (v := ?_) rfl (by kernel_rfl) (by kernel_rfl) (by kernel_rfl) (fun _ _ _ h => h) (Or.inl ⟨by rfl, ?_⟩) (by assumption) ?_
      rotate_left
      · intro w hSw
        try dsimp only at hSw
        go_simp
        try with_reducible rfl
      try simp only [Act.put, List.getElem_toArray, List.getElem_cons_succ, List.getElem_cons_zero, List.setIfInBounds_toArray, List.set_cons_zero, List.set_cons_succ]
      refine wpAnyH_take (i := 4) (v := ?_) rfl (by kernel_rfl) (by kernel_rfl) (by kernel_rfl) (fun _ _ _ h => h) (Or.inl ⟨by rfl, ?_⟩) (by assumption) ?_
      rotate_left
      · intro w hSw
        try dsimp only at hSw
        go_simp
        try with_reducible rfl
      try simp only [Act.put, List.getElem_toArray, List.getElem_cons_succ, List.getElem_cons_zero, List.setIfInBounds_toArray, List.set_cons_zero, List.set_cons_succ]
      refine wpAnyH_take (i := 5) (v := ?_) rfl (by kernel_rfl) (by kernel_rfl) (by kernel_rfl) (fun _ _ _ h => h) (Or.inl ⟨by rfl, ?_⟩) (by assumption) ?_
      rotate_left
      · intro w hSw
        try dsimp only at hSw
        go_simp
        try with_reducible rfl
      try simp only [Act.put, List.getElem_toArray, List.getElem_cons_succ, List.getElem_cons_zero, List.setIfInBounds_toArray, List.set_cons_zero, List.set_cons_succ]
      refine wpAnyH_ready (rs := [6]) (by kernel_rfl) (by simp) ?_
      refine AllReadyH.cons rfl (fun K hK => ?_) AllReadyH.nil
      rw [if_pos (by rfl)]
      go_simp
      go_at_call 10
      refine (impIsPartOf_any (M := N) (N := N1) (X := X) (Y := Y) (c := cv) (c' := cy) (Lib.hid rfl) (by have := HXL.out; omega) (ka.new (‹Below wr.heap.size wr _ ∧ _›).1).gr (Lib.hid rfl) (by have := HYL.out; omega) (kx.new (‹Below wr.heap.size wr _ ∧ _›).1).gr).mono ?_
      rintro e u2 ⟨he, r⟩
      rw [HP1.out] at he
      subst he
      have k2 := trans_new (‹Below wr.heap.size wr _ ∧ _›).1 r
      refine hK.out _ _ ?_ (fun hHeld => ?_)
      · first | with_reducible exact KE _ k7 | with_reducible exact KE _ k6 | with_reducible exact KE _ k5 | with_reducible exact KE _ k4 | with_reducible exact KE _ k3 | with_reducible exact KE _ k2 | with_reducible exact KE _ k1 | with_reducible exact KE _ (Below.refl _ _).drew
      clear hK K
      try simp only [Act.put, List.getElem_toArray, List.getElem_cons_succ, List.getElem_cons_zero, List.setIfInBounds_toArray, List.set_cons_zero, List.set_cons_succ]
      refine wpAnyH_take (i := 7) (v := ?_) rfl (by kernel_rfl) (by kernel_rfl) (by kernel_rfl) (fun _ _ _ h => h) (Or.inl ⟨by rfl, ?_⟩) (by assumption) ?_
      rotate_left
      · intro w hSw
        try dsimp only at hSw
        go_simp
        try with_reducible rfl
      try simp only [Act.put, List.getElem_toArray, List.getElem_cons_succ, List.getElem_cons_zero, List.setIfInBounds_toArray, List.set_cons_zero, List.set_cons_succ]
      refine wpAnyH_take (i := 8) (v := ?_) rfl (by kernel_rfl) (by kernel_rfl) (by kernel_rfl) (fun _ _ _ h => h) (Or.inl ⟨by rfl, ?_⟩) (by assumption) ?_
      rotate_left
      · intro w hSw
        try dsimp only at hSw
        go_simp
        try with_reducible rfl
      try simp only [Act.put, List.getElem_toArray, List.getElem_cons_succ, List.getElem_cons_zero, List.setIfInBounds_toArray, List.set_cons_zero, List.set_cons_succ]
      refine wpAnyH_take (i := 9) (v := ?_) rfl (by kernel_rfl) (by kernel_rfl) (by kernel_rfl) (fun _ _ _ h => h) (Or.inl ⟨by rfl, ?_⟩) (by assumption) ?_
      rotate_left
      · intro w hSw
        try dsimp only at hSw
        go_simp
        try with_reducible rfl
      try simp only [Act.put, List.getElem_toArray, List.getElem_cons_succ, List.getElem_cons_zero, List.setIfInBounds_toArray, List.set_cons_zero, List.set_cons_succ]
      refine wpAnyH_take (i := 10) (v := ?_) rfl (by kernel_rfl) (by kernel_rfl) (by kernel_rfl) (fun _ _ _ h => h) (Or.inl ⟨by rfl, ?_⟩) (by assumption) ?_
      rotate_left
      · intro w hSw
        try dsimp only at hSw
        go_simp
        try with_reducible rfl
      try simp only [Act.put, List.getElem_toArray, List.getElem_cons_succ, List.getElem_cons_zero, List.setIfInBounds_toArray, List.set_cons_zero, List.set_cons_succ]
      refine wpAnyH_take (i := 11) (v := ?_) rfl (by kernel_rfl) (by kernel_rfl) (by kernel_rfl) (fun _ _ _ h => h) (Or.inl ⟨by rfl, ?_⟩) (by assumption) ?_
      rotate_left
      · intro w hSw
        try dsimp only at hSw
        go_simp
        try with_reducible rfl
      try simp only [Act.put, List.getElem_toArray, List.getElem_cons_succ, List.getElem_cons_zero, List.setIfInBounds_toArray, List.set_cons_zero, List.set_cons_succ]
      refine wpAnyH_take (i := 12) (v := ?_) rfl (by kernel_rfl) (by kernel_rfl) (by kernel_rfl) (fun _ _ _ h => h) (Or.inl ⟨by rfl, ?_⟩) (by assumption) ?_
      rotate_left
      · intro w hSw
        try dsimp only at hSw
        go_simp
        try with_reducible rfl
      try simp only [Act.put, List.getElem_toArray, List.getElem_cons_succ, List.getElem_cons_zero, List.setIfInBounds_toArray, List.set_cons_zero, List.set_cons_succ]
      refine wpAnyH_take (i := 14) (v := ?_) rfl (by kernel_rfl) (by kernel_rfl) (by kernel_rfl) (fun _ _ _ h => h) (Or.inl ⟨by rfl, ?_⟩) (by assumption) ?_
      rotate_left
      · intro w hSw
        try dsimp only at hSw
        go_simp
        try with_reducible rfl
      try simp only [Act.put, List.getElem_toArray, List.getElem_cons_succ, List.getElem_cons_zero, List.setIfInBounds_toArray, List.set_cons_zero, List.set_cons_succ]
      refine wpAnyH_ready (rs := [13]) (by kernel_rfl) (by simp) ?_
      refine AllReadyH.cons rfl (fun K hK => ?_) AllReadyH.nil
      rw [if_pos (by rfl)]
      go_simp
      go_at_call 12
      refine (impVictimsOf_any (N := N1) (X := Y) (a := N) (c := cy) (Lib.hid rfl) (by have := HYL.out; omega) (kx.new (‹Below wr.heap.size wr _ ∧ _›).1).gr).mono ?_
      rintro e u3 ⟨v3, rfl, hr3, r⟩
      rw [HVC.out] at hr3
      obtain ⟨A3, c3, rfl, hd3, _, _⟩ := hr3.rd (n := S.length) (ivs_len S)
      have k3 := trans_new (‹Below wr.heap.size wr _ ∧ _›).1 r
      refine hK.out _ _ ?_ (fun hHeld => ?_)
      · first | with_reducible exact KE _ k7 | with_reducible exact KE _ k6 | with_reducible exact KE _ k5 | with_reducible exact KE _ k4 | with_reducible exact KE _ k3 | with_reducible exact KE _ k2 | with_reducible exact KE _ k1 | with_reducible exact KE _ (Below.refl _ _).drew
      clear hK K
      try simp only [Act.put, List.getElem_toArray, List.getElem_cons_succ, List.getElem_cons_zero, List.setIfInBounds_toArray, List.set_cons_zero, List.set_cons_succ]
      refine wpAnyH_ready (rs := [15]) (by kernel_rfl) (by simp) ?_
      refine AllReadyH.cons rfl (fun K hK => ?_) AllReadyH.nil
      rw [if_pos (by rfl)]
      go_simp
      go_at_call 11
      refine (sameInts_any (zs := S) (ys := S) (Lib.hid rfl) (Lib.hid rfl) (by have := HS13.out; omega) (by have := HS13.out; omega) hd3 (rd_new rs k3)).mono ?_
      rintro e u4 ⟨he, r⟩
      rw [show decide (S = S) = true from decide_eq_true rfl] at he
      subst he
      have k4 := trans_new k3 r
      refine hK.out _ _ ?_ (fun hHeld => ?_)
      · first | with_reducible exact KE _ k7 | with_reducible exact KE _ k6 | with_reducible exact KE _ k5 | with_reducible exact KE _ k4 | with_reducible exact KE _ k3 | with_reducible exact KE _ k2 | with_reducible exact KE _ k1 | with_reducible exact KE _ (Below.refl _ _).drew
      clear hK K
      try simp only [Act.put, List.getElem_toArray, List.getElem_cons_succ, List.getElem_cons_zero, List.setIfInBounds_toArray, List.set_cons_zero, List.set_cons_succ]
      refine wpAnyH_take (i := 16) (v := ?_) rfl (by kernel_rfl) (by kernel_rfl) (by kernel_rfl) (fun _ _ _ h => h) (Or.inl ⟨by rfl, ?_⟩) (by assumption) ?_
      rotate_left
      · intro w hSw
        try dsimp only at hSw
        go_simp
        try with_reducible rfl
      try simp only [Act.put, List.getElem_toArray, List.getElem_cons_succ, List.getElem_cons_zero, List.setIfInBounds_toArray, List.set_cons_zero, List.set_cons_succ]
      refine wpAnyH_take (i := 17) (v := ?_) rfl (by kernel_rfl) (by kernel_rfl) (by kernel_rfl) (fun _ _ _ h => h) (Or.inl ⟨by rfl, ?_⟩) (by assumption) ?_
      rotate_left
      · intro w hSw
        try dsimp only at hSw
        go_simp
        try with_reducible rfl
      try simp only [Act.put, List.getElem_toArray, List.getElem_cons_succ, List.getElem_cons_zero, List.setIfInBounds_toArray, List.set_cons_zero, List.set_cons_succ]
      refine wpAnyH_take (i := 18) (v := ?_) rfl (by kernel_rfl) (by kernel_rfl) (by kernel_rfl) (fun _ _ _ h => h) (Or.inl ⟨by rfl, ?_⟩) (by assumption) ?_
      rotate_left
      · intro w hSw
        try dsimp only at hSw
        go_simp
        try with_reducible rfl
      try simp only [Act.put, List.getElem_toArray, List.getElem_cons_succ, List.getElem_cons_zero, List.setIfInBounds_toArray, List.set_cons_zero, List.set_cons_succ]
      refine wpAnyH_take (i := 19) (v := ?_) rfl (by kernel_rfl) (by kernel_rfl) (by kernel_rfl) (fun _ _ _ h => h) (Or.inl ⟨by rfl, ?_⟩) (by assumption) ?_
      rotate_left
      · intro w hSw
        try dsimp only at hSw
        go_simp
        try with_reducible rfl
      try simp only [Act.put, List.getElem_toArray, List.getElem_cons_succ, List.getElem_cons_zero, List.setIfInBounds_toArray, List.set_cons_zero, List.set_cons_succ]
      refine wpAnyH_take (i := 20) (v := ?_) rfl (by kernel_rfl) (by kernel_rfl) (by kernel_rfl) (fun _ _ _ h => h) (Or.inl ⟨by rfl, ?_⟩) (by assumption) ?_
      rotate_left
      · intro w hSw
        try dsimp only at hSw
        go_simp
        try with_reducible rfl
      try simp only [Act.put, List.getElem_toArray, List.getElem_cons_succ, List.getElem_cons_zero, List.setIfInBounds_toArray, List.set_cons_zero, List.set_cons_succ]
      refine wpAnyH_take (i := 21) (v := ?_) rfl (by kernel_rfl) (by kernel_rfl) (by kernel_rfl) (fun _ _ _ h => h) (Or.inl ⟨by rfl, ?_⟩) (by assumption) ?_
      rotate_left
      · intro w hSw
        try dsimp only at hSw
        go_simp
        try with_reducible rfl
      try simp only [Act.put, List.getElem_toArray, List.getElem_cons_succ, List.getElem_cons_zero, List.setIfInBounds_toArray, List.set_cons_zero, List.set_cons_succ]
      refine wpAnyH_take (i := 22) (v := ?_) rfl (by kernel_rfl) (by kernel_rfl) (by kernel_rfl) (fun _ _ _ h => h) (Or.inl ⟨by rfl, ?_⟩) (by assumption) ?_
      rotate_left
      · intro w hSw
        try dsimp only at hSw
        go_simp
        try with_reducible rfl
      try simp only [Act.put, List.getElem_toArray, List.getElem_cons_succ, List.getElem_cons_zero, List.setIfInBounds_toArray, List.set_cons_zero, List.set_cons_succ]
      refine wpAnyH_take (i := 23) (v := ?_) rfl (by kernel_rfl) (by kernel_rfl) (by kernel_rfl) (fun _ _ _ h => h) (Or.inl ⟨by rfl, ?_⟩) (by assumption) ?_
      rotate_left
      · intro w hSw
        try dsimp only at hSw
        go_simp
        try with_reducible rfl
      try simp only [Act.put, List.getElem_toArray, List.getElem_cons_succ, List.getElem_cons_zero, List.setIfInBounds_toArray, List.set_cons_zero, List.set_cons_succ]
      refine wpAnyH_take (i := 24) (v := ?_) rfl (by kernel_rfl) (by kernel_rfl) (by kernel_rfl) (fun _ _ _ h => h) (Or.inl ⟨by rfl, ?_⟩) (by assumption) ?_
      rotate_left
      · intro w hSw
        try dsimp only at hSw
        go_simp
        try with_reducible rfl
      try simp only [Act.put, List.getElem_toArray, List.getElem_cons_succ, List.getElem_cons_zero, List.setIfInBounds_toArray, List.set_cons_zero, List.set_cons_succ]
      refine wpAnyH_ready (rs := [25]) (by kernel_rfl) (by simp) ?_
      refine AllReadyH.cons rfl (fun K hK => ?_) AllReadyH.nil
      rw [if_pos (by rfl)]
      go_simp
      go_at_call 10
      refine (impIsPartOf_any (A := Aw) (A' := Av) (M := N) (N := N) (X := X) (Y := X) (c := cw) (c' := cv) (Lib.hid rfl) (by have := HXL.out; omega) (ky.new (‹Below wr.heap.size wr _ ∧ _›).1).gr (Lib.hid rfl) (by have := HXL.out; omega) (ka.new (‹Below wr.heap.size wr _ ∧ _›).1).gr).mono ?_
      rintro e u5 ⟨he, r⟩
      rw [HP2.out] at he
      subst he
      have k5 := trans_new (‹Below wr.heap.size wr _ ∧ _›).1 r
      refine hK.out _ _ ?_ (fun hHeld => ?_)
      · first | with_reducible exact KE _ k7 | with_reducible exact KE _ k6 | with_reducible exact KE _ k5 | with_reducible exact KE _ k4 | with_reducible exact KE _ k3 | with_reducible exact KE _ k2 | with_reducible exact KE _ k1 | with_reducible exact KE _ (Below.refl _ _).drew
      clear hK K
      try simp only [Act.put, List.getElem_toArray, List.getElem_cons_succ, List.getElem_cons_zero, List.setIfInBounds_toArray, List.set_cons_zero, List.set_cons_succ]
      refine wpAnyH_take (i := 26) (v := ?_) rfl (by kernel_rfl) (by kernel_rfl) (by kernel_rfl) (fun _ _ _ h => h) (Or.inl ⟨by rfl, ?_⟩) (by assumption) ?_
      rotate_left
      · intro w hSw
        try dsimp only at hSw
        go_simp
        try with_reducible rfl
      try simp only [Act.put, List.getElem_toArray, List.getElem_cons_succ, List.getElem_cons_zero, List.setIfInBounds_toArray, List.set_cons_zero, List.set_cons_succ]
      refine wpAnyH_take (i := 27) (v := ?_) rfl (by kernel_rfl) (by kernel_rfl) (by kernel_rfl) (fun _ _ _ h => h) (Or.inl ⟨by rfl, ?_⟩) (by assumption) ?_
      rotate_left
      · intro w hSw
        try dsimp only at hSw
        go_simp
        try with_reducible rfl
      try simp only [Act.put, List.getElem_toArray, List.getElem_cons_succ, List.getElem_cons_zero, List.setIfInBounds_toArray, List.set_cons_zero, List.set_cons_succ]
      refine wpAnyH_take (i := 28) (v := ?_) rfl (by kernel_rfl) (by kernel_rfl) (by kernel_rfl) (fun _ _ _ h => h) (Or.inl ⟨by rfl, ?_⟩) (by assumption) ?_
      rotate_left
      · intro w hSw
        try dsimp only at hSw
        go_simp
        try with_reducible rfl
      try simp only [Act.put, List.getElem_toArray, List.getElem_cons_succ, List.getElem_cons_zero, List.setIfInBounds_toArray, List.set_cons_zero, List.set_cons_succ]
      refine wpAnyH_take (i := 29) (v := ?_) rfl (by kernel_rfl) (by kernel_rfl) (by kernel_rfl) (fun _ _ _ h => h) (Or.inl ⟨by rfl, ?_⟩) (by assumption) ?_
      rotate_left
      · intro w hSw
        try dsimp only at hSw
        go_simp
        try with_reducible rfl
      try simp only [Act.put, List.getElem_toArray, List.getElem_cons_succ, List.getElem_cons_zero, List.setIfInBounds_toArray, List.set_cons_zero, List.set_cons_succ]
      refine wpAnyH_take (i := 30) (v := ?_) rfl (by kernel_rfl) (by kernel_rfl) (by kernel_rfl) (fun _ _ _ h => h) (Or.inl ⟨by rfl, ?_⟩) (by assumption) ?_
      rotate_left
      · intro w hSw
        try dsimp only at hSw
        go_simp
        try with_reducible rfl
      try simp only [Act.put, List.getElem_toArray, List.getElem_cons_succ, List.getElem_cons_zero, List.setIfInBounds_toArray, List.set_cons_zero, List.set_cons_succ]
      refine wpAnyH_ready (rs := [31]) (by kernel_rfl) (by simp) ?_
      refine AllReadyH.cons rfl (fun K hK => ?_) AllReadyH.nil
      rw [if_pos (by rfl)]
      go_simp
      go_at_call 10
      refine (impIsPartOf_any (A := Av) (A' := Aw) (M := N) (N := N) (X := X) (Y := X) (c := cv) (c' := cw) (Lib.hid rfl) (by have := HXL.out; omega) (ka.new (‹Below wr.heap.size wr _ ∧ _›).1).gr (Lib.hid rfl) (by have := HXL.out; omega) (ky.new (‹Below wr.heap.size wr _ ∧ _›).1).gr).mono ?_
      rintro e u6 ⟨he, r⟩
      rw [HP2.out] at he
      subst he
      have k6 := trans_new (‹Below wr.heap.size wr _ ∧ _›).1 r
      refine hK.out _ _ ?_ (fun hHeld => ?_)
      · first | with_reducible exact KE _ k7 | with_reducible exact KE _ k6 | with_reducible exact KE _ k5 | with_reducible exact KE _ k4 | with_reducible exact KE _ k3 | with_reducible exact KE _ k2 | with_reducible exact KE _ k1 | with_reducible exact KE _ (Below.refl _ _).drew
      clear hK K
      try simp only [Act.put, List.getElem_toArray, List.getElem_cons_succ, List.getElem_cons_zero, List.setIfInBounds_toArray, List.set_cons_zero, List.set_cons_succ]
      refine wpAnyH_take (i := 32) (v := ?_) rfl (by kernel_rfl) (by kernel_rfl) (by kernel_rfl) (fun _ _ _ h => h) (Or.inl ⟨by rfl, ?_⟩) (by assumption) ?_
      rotate_left
      · intro w hSw
        try dsimp only at hSw
        go_simp
        try with_reducible rfl
      try simp only [Act.put, List.getElem_toArray, List.getElem_cons_succ, List.getElem_cons_zero, List.setIfInBounds_toArray, List.set_cons_zero, List.set_cons_succ]
      refine wpAnyH_take (i := 33) (v := ?_) rfl (by kernel_rfl) (by kernel_rfl) (by kernel_rfl) (fun _ _ _ h => h) (Or.inl ⟨by rfl, ?_⟩) (by assumption) ?_
      rotate_left
      · intro w hSw
        try dsimp only at hSw
        go_simp
        try with_reducible rfl
      try simp only [Act.put, List.getElem_toArray, List.getElem_cons_succ, List.getElem_cons_zero, List.setIfInBounds_toArray, List.set_cons_zero, List.set_cons_succ]
      refine wpAnyH_take (i := 34) (v := ?_) rfl (by kernel_rfl) (by kernel_rfl) (by kernel_rfl) (fun _ _ _ h => h) (Or.inl ⟨by rfl, ?_⟩) (by assumption) ?_
      rotate_left
      · intro w hSw
        try dsimp only at hSw
        go_simp
        try with_reducible rfl
      try simp only [Act.put, List.getElem_toArray, List.getElem_cons_succ, List.getElem_cons_zero, List.setIfInBounds_toArray, List.set_cons_zero, List.set_cons_succ]
      refine wpAnyH_take (i := 35) (v := ?_) rfl (by kernel_rfl) (by kernel_rfl) (by kernel_rfl) (fun _ _ _ h => h) (Or.inl ⟨by rfl, ?_⟩) (by assumption) ?_
      rotate_left
      · intro w hSw
        try dsimp only at hSw
        go_simp
        try with_reducible rfl
      try simp only [Act.put, List.getElem_toArray, List.getElem_cons_succ, List.getElem_cons_zero, List.setIfInBounds_toArray, List.set_cons_zero, List.set_cons_succ]
      refine wpAnyH_take (i := 37) (v := ?_) rfl (by kernel_rfl) (by kernel_rfl) (by kernel_rfl) (fun _ _ _ h => h) (Or.inl ⟨by rfl, ?_⟩) (by assumption) ?_
      rotate_left
      · intro w hSw
        try dsimp only at hSw
        go_simp
        try with_reducible rfl
      try simp only [Act.put, List.getElem_toArray, List.getElem_cons_succ, List.getElem_cons_zero, List.setIfInBounds_toArray, List.set_cons_zero, List.set_cons_succ]
      refine wpAnyH_take (i := 38) (v := ?_) rfl (by kernel_rfl) (by kernel_rfl) (by kernel_rfl) (fun _ _ _ h => h) (Or.inl ⟨by rfl, ?_⟩) (by assumption) ?_
      rotate_left
      · intro w hSw
        try dsimp only at hSw
        go_simp
        try with_reducible rfl
      try simp only [Act.put, List.getElem_toArray, List.getElem_cons_succ, List.getElem_cons_zero, List.setIfInBounds_toArray, List.set_cons_zero, List.set_cons_succ]
      refine wpAnyH_ready (rs := [36]) (by kernel_rfl) (by simp) ?_
      refine AllReadyH.cons rfl (fun K hK => ?_) AllReadyH.nil
      rw [if_pos (by rfl)]
      go_simp
      go_at_call 14
      refine (impGrounded_any (N := N1) (X := Y) (c := cy) (Lib.hid rfl) (by have := HYL.out; omega) (kx.new (‹Below wr.heap.size wr _ ∧ _›).1).gr).mono ?_
      rintro e u7 ⟨v7, rfl, hr7, r⟩
      obtain ⟨A7, c7, rfl, hd7, _, _⟩ := hr7.rd (n := (grd N1 Y).length) (ivs_len _)
      have k7 := trans_new (‹Below wr.heap.size wr _ ∧ _›).1 r
      refine hK.out _ _ ?_ (fun hHeld => ?_)
      · first | with_reducible exact KE _ k7 | with_reducible exact KE _ k6 | with_reducible exact KE _ k5 | with_reducible exact KE _ k4 | with_reducible exact KE _ k3 | with_reducible exact KE _ k2 | with_reducible exact KE _ k1 | with_reducible exact KE _ (Below.refl _ _).drew
      clear hK K
      try simp only [Act.put, List.getElem_toArray, List.getElem_cons_succ, List.getElem_cons_zero, List.setIfInBounds_toArray, List.set_cons_zero, List.set_cons_succ]
      refine wpAnyH_ready (rs := [39]) (by kernel_rfl) (by simp) ?_
      refine AllReadyH.cons rfl (fun K hK => ?_) AllReadyH.nil
      rw [if_pos (by rfl)]
      go_simp
      go_at_call 13
      refine (contains_any (S := grd N1 Y) (a := N) (Lib.hid rfl) (by have := grd_len N1 Y; omega) hd7).mono ?_
      rintro e u8 ⟨he, rfl⟩
      rw [HGR.out] at he
      subst he
      refine hK.out _ _ ?_ (fun hHeld => ?_)
      · first | with_reducible exact KE _ k7 | with_reducible exact KE _ k6 | with_reducible exact KE _ k5 | with_reducible exact KE _ k4 | with_reducible exact KE _ k3 | with_reducible exact KE _ k2 | with_reducible exact KE _ k1 | with_reducible exact KE _ (Below.refl _ _).drew
      clear hK K
      try simp only [Act.put, List.getElem_toArray, List.getElem_cons_succ, List.getElem_cons_zero, List.setIfInBounds_toArray, List.set_cons_zero, List.set_cons_succ]
      refine wpAnyH_take (i := 40) (v := ?_) rfl (by kernel_rfl) (by kernel_rfl) (by kernel_rfl) (fun _ _ _ h => h) (Or.inl ⟨by rfl, ?_⟩) (by assumption) ?_
      rotate_left
      · intro w hSw
        try dsimp only at hSw
        go_simp
        try with_reducible rfl
      try simp only [Act.put, List.getElem_toArray, List.getElem_cons_succ, List.getElem_cons_zero, List.setIfInBounds_toArray, List.set_cons_zero, List.set_cons_succ]
      refine wpAnyH_take (i := 41) (v := ?_) rfl (by kernel_rfl) (by kernel_rfl) (by kernel_rfl) (fun _ _ _ h => h) (Or.inl ⟨by rfl, ?_⟩) (by assumption) ?_
      rotate_left
      · intro w hSw
        try dsimp only at hSw
        go_simp
        try with_reducible rfl
      try simp only [Act.put, List.getElem_toArray, List.getElem_cons_succ, List.getElem_cons_zero, List.setIfInBounds_toArray, List.set_cons_zero, List.set_cons_succ]
      refine wpAnyH_done (by kernel_rfl) ?_ _
      go_wp2_with fail
      go_meet
      case rel => exact hb.trans (k7.mono hb.size)
  case rest =>
    clear ka kx rs hb HQ hyy HXL HXS HSL HX10 HS13 HYL
    have hbX : Below W.heap.size W wc := hcut
    clear hcut
    have h9 := h8.below hbX
    go_wp2_with fail
    refine (drawRen h9).mono ?_
    rintro e w11 ⟨N, X, v, T, us, M, hok, htl, rfl, hM1, hM2, hown, hrow, hb1⟩
    obtain ⟨At, ct, rfl, hrt, _, _⟩ := hrow.rd (n := T.length) (ivs_len T)
    obtain ⟨Av, cv, rfl, hrd, _, _⟩ := (hown.wide (Nat.le_refl _) hM2).rd (n := X.length) rfl
    have kk := alloc_new w11 (Obj.cells #[Value.int .i64 N, .slice Av X.length cv] 26)
    have ka := GK.made (N := N) (n := X.length) (c := cv) hrd
    have rt := rd_new hrt kk
    have hb := hbX.trans ((hb1.trans (kk.mono hb1.size)).mono hbX.size)
    obtain ⟨w12, hw12⟩ : ∃ z : World, z = w11.alloc (Obj.cells #[Value.int .i64 N, .slice Av X.length cv] 26) := ⟨_, rfl⟩
    obtain ⟨g, hg⟩ : ∃ g, g = w11.heap.size := ⟨_, rfl⟩
    rw [← hw12] at ka rt hb
    rw [← hg] at ka
    have HW := Lib.hid hw12.symm
    have HG := Lib.hid hg.symm
    have HXL := Lib.hid (show X.length ≤ 549755813888 by have := hok.1; omega)
    have HXS := hok.small
    have HTL := Lib.hid (show T.length ≤ 549755813888 by omega)
    have HX10 := Lib.hid hok.1
    have HT12 := Lib.hid htl
    clear hw12 hg kk hown hrow hb1 hok htl hM1 hM2 hrd hrt h9 hbX
    go_wp2_with fail
    rw [HW.out, HG.out]
    clear HW HG
    refine (impRenamed_any (N := N) (X := X) (T := T) (c := cv) (c' := ct) (Lib.hid rfl) (by have := HXL.out; omega) HXS ka.gr (Lib.hid rfl) (by have := HTL.out; omega) rt).mono ?_
    rintro e w13 ⟨vy, rfl, hy, r⟩
    have HYL := Lib.hid (reY_short (N := N) (T := T) HX10.out)
    obtain ⟨Y, hY⟩ : ∃ Y, Y = reY N X T := ⟨_, rfl⟩
    obtain ⟨b, hbb⟩ : ∃ b, b = renB N X T := ⟨_, rfl⟩
    have HQ := Lib.hid (And.intro hY hbb)
    rw [← hY] at hy HYL
    rw [← hbb]
    obtain ⟨Ay, cy, rfl, hry, _, _⟩ := hy.rd (n := Y.length) rfl
    replace ka := ka.new r
    replace rt := rd_new rt r
    replace hb := hb.trans (r.mono hb.size)
    have kk := alloc_new w13 (Obj.cells #[Value.int .i64 N, .slice Ay Y.length cy] 26)
    have kx := GK.made (N := N) (n := Y.length) (c := cy) hry
    replace ka := ka.new kk
    replace rt := rd_new rt kk
    replace hb := hb.trans (kk.mono hb.size)
    obtain ⟨w14, hw14⟩ : ∃ z : World, z = w13.alloc (Obj.cells #[Value.int .i64 N, .slice Ay Y.length cy] 26) := ⟨_, rfl⟩
    obtain ⟨gx, hgx⟩ : ∃ g, g = w13.heap.size := ⟨_, rfl⟩
    rw [← hw14] at ka rt hb kx
    rw [← hgx] at kx
    have HW := Lib.hid hw14.symm
    have HG := Lib.hid hgx.symm
    clear hw14 hgx kk r hy hry hY hbb
    go_upto_if 103 with fail
    rw [HW.out, HG.out]
    clear HW HG
    go_cut [] from 11 to 149 (fun wx => Below W.heap.size W wx)
    case first =>
      cases b with
      | false =>
        go_wp2_with fail
        go_meet
        case rel => exact hb
      | true =>
        have hB : renB N X T = true := HQ.out.2.symm
        have hYX : Y = renX N X T := by rw [HQ.out.1]; unfold reY; rw [if_pos hB]
        have hlen : (Y.length : Int) = (X.length : Int) := by rw [hYX, ren_len hB]
        obtain ⟨l, hl⟩ : ∃ l, loops N X = l := ⟨_, rfl⟩
        have HL1 := Lib.hid hl
        have HL2 : Hid (loops N Y = l) := Lib.hid (by rw [hYX, ← ren_loops hB, hl])
        have HTN := Lib.hid (ren_n hB)
        have HGR : Hid (∀ i : Nat, (i : Int) < N → (grd N Y).contains (T.getD i 0) = (grd N X).contains (i : Int)) := Lib.hid (fun i hi => by rw [hYX, ← ren_grd hB i hi])
        have HRN : Hid (∀ i : Nat, (i : Int) < N → rnd N Y (T.getD i 0) = rnd N X i) := Lib.hid (fun i hi => by rw [hYX, ← ren_rnd hB i hi])
        obtain ⟨D0, D1⟩ := ka.bx.two
        obtain ⟨E0, E1⟩ := kx.bx.two
        have KE := fun (u : World) (k : Below w14.heap.size w14 u) => show Below w14.heap.size w14 u ∧ u.cell? ⟨g, 0, none⟩ = some (.int .i64 N) ∧ u.cell? ⟨g, 1, none⟩ = some (.slice Av X.length cv) ∧ u.cell? ⟨gx, 0, none⟩ = some (.int .i64 N) ∧ u.cell? ⟨gx, 1, none⟩ = some (.slice Ay Y.length cy) from ⟨k, (ka.new k).bx.two.1, (ka.new k).bx.two.2, (kx.new k).bx.two.1, (kx.new k).bx.two.2⟩
        clear HQ hB hYX hl
        go_wp2_with fail
        refine wp_region_quiet (C := fun u => Below w14.heap.size w14 u ∧ u.cell? ⟨g, 0, none⟩ = some (.int .i64 N) ∧ u.cell? ⟨g, 1, none⟩ = some (.slice Av X.length cv) ∧ u.cell? ⟨gx, 0, none⟩ = some (.int .i64 N) ∧ u.cell? ⟨gx, 1, none⟩ = some (.slice Ay Y.length cy)) (by kernel_rfl) (by kernel_rfl) (KE _ (Below.refl _ _).drew) ?_
        rw [List.toList_toArray]
        go_big_quiet_want
        apply Exists.intro
        refine ⟨fun u hu => ?_, ?_⟩
        · obtain ⟨hu0, hu1, hu2, hu3, hu4⟩ := hu
          unfold Oper.quietAt
          go_simp
          try rfl
        simp only [Act.put, List.setIfInBounds_toArray, List.set_cons_zero, List.set_cons_succ]
        go_big_quiet_on
        go_big_quiet_want
        refine ⟨.int .i64 l, fun u hu => ?_, ?_⟩
        · obtain ⟨hu0, hu1, hu2, hu3, hu4⟩ := hu
          unfold Oper.quietAt
          go_simp
          refine (impCountLoops_any (N := N) (X := X) (c := cv) (Lib.hid rfl) (by have := HXL.out; omega) (ka.new hu0).gr).mono ?_
          rintro e u9 ⟨he, r9⟩
          rw [HL1.out] at he
          exact ⟨he, KE _ (trans_new hu0 r9)⟩
        simp only [Act.put, List.setIfInBounds_toArray, List.set_cons_zero, List.set_cons_succ]
        go_big_quiet_on
        go_big_quiet_want
        apply Exists.intro
        refine ⟨fun u hu => ?_, ?_⟩
        · obtain ⟨hu0, hu1, hu2, hu3, hu4⟩ := hu
          unfold Oper.quietAt
          go_simp
          try rfl
        simp only [Act.put, List.setIfInBounds_toArray, List.set_cons_zero, List.set_cons_succ]
        go_big_quiet_on
        go_big_quiet_want
        refine ⟨.int .i64 l, fun u hu => ?_, ?_⟩
        · obtain ⟨hu0, hu1, hu2, hu3, hu4⟩ := hu
          unfold Oper.quietAt
          go_simp
          refine (impCountLoops_any (N := N) (X := Y) (c := cy) (Lib.hid rfl) (by have := HYL.out; omega) (kx.new hu0).gr).mono ?_
          rintro e u9 ⟨he, r9⟩
          rw [HL2.out] at he
          exact ⟨he, KE _ (trans_new hu0 r9)⟩
        simp only [Act.put, List.setIfInBounds_toArray, List.set_cons_zero, List.set_cons_succ]
        go_big_quiet_on
        go_big_quiet_want
        apply Exists.intro
        refine ⟨fun u hu => ?_, ?_⟩
        · obtain ⟨hu0, hu1, hu2, hu3, hu4⟩ := hu
          unfold Oper.quietAt
          go_simp
          try rfl
        simp only [Act.put, List.setIfInBounds_toArray, List.set_cons_zero, List.set_cons_succ]
        go_big_quiet_on
        go_big_quiet_want
        go_big_quiet_op
        go_big_quiet_on
        go_big_quiet_want
        apply Exists.intro
        refine ⟨fun u hu => ?_, ?_⟩
        · obtain ⟨hu0, hu1, hu2, hu3, hu4⟩ := hu
          unfold Oper.quietAt
          go_simp
          try rfl
        simp only [Act.put, List.setIfInBounds_toArray, List.set_cons_zero, List.set_cons_succ]
        go_big_quiet_on
        go_big_quiet_want
        apply Exists.intro
        refine ⟨fun u hu => ?_, ?_⟩
        · obtain ⟨hu0, hu1, hu2, hu3, hu4⟩ := hu
          unfold Oper.quietAt
          go_simp
          try rfl
        simp only [Act.put, List.setIfInBounds_toArray, List.set_cons_zero, List.set_cons_succ]
        go_big_quiet_on
        go_big_quiet_want
        apply Exists.intro
        refine ⟨fun u hu => ?_, ?_⟩
        · obtain ⟨hu0, hu1, hu2, hu3, hu4⟩ := hu
          unfold Oper.quietAt
          go_simp
          try rfl
        simp only [Act.put, List.setIfInBounds_toArray, List.set_cons_zero, List.set_cons_succ]
        go_big_quiet_on
        go_big_quiet_want
        apply Exists.intro
        refine ⟨fun u hu => ?_, ?_⟩
        · obtain ⟨hu0, hu1, hu2, hu3, hu4⟩ := hu
          unfold Oper.quietAt
          go_simp
          try rfl
        simp only [Act.put, List.setIfInBounds_toArray, List.set_cons_zero, List.set_cons_succ]
        go_big_quiet_on
        go_big_quiet_want
        apply Exists.intro
        refine ⟨fun u hu => ?_, ?_⟩
        · obtain ⟨hu0, hu1, hu2, hu3, hu4⟩ := hu
          unfold Oper.quietAt
          go_simp
          try rfl
        simp only [Act.put, List.setIfInBounds_toArray, List.set_cons_zero, List.set_cons_succ]
        go_big_quiet_on
        go_big_quiet_want
        apply Exists.intro
        refine ⟨fun u hu => ?_, ?_⟩
        · obtain ⟨hu0, hu1, hu2, hu3, hu4⟩ := hu
          unfold Oper.quietAt
          go_simp
          try rfl
        simp only [Act.put, List.setIfInBounds_toArray, List.set_cons_zero, List.set_cons_succ]
        go_big_quiet_on
        go_big_quiet_want
        apply Exists.intro
        refine ⟨fun u hu => ?_, ?_⟩
        · obtain ⟨hu0, hu1, hu2, hu3, hu4⟩ := hu
          unfold Oper.quietAt
          go_simp
          try rfl
        simp only [Act.put, List.setIfInBounds_toArray, List.set_cons_zero, List.set_cons_succ]
        go_big_quiet_on
        go_big_quiet_want
        apply Exists.intro
        refine ⟨fun u hu => ?_, ?_⟩
        · obtain ⟨hu0, hu1, hu2, hu3, hu4⟩ := hu
          unfold Oper.quietAt
          go_simp
          try rfl
        simp only [Act.put, List.setIfInBounds_toArray, List.set_cons_zero, List.set_cons_succ]
        go_big_quiet_on
        refine wpQuiet_nil ?_
        rintro u ⟨r, _⟩
        replace ka := ka.new r
        replace kx := kx.new r
        replace rt := rd_new rt r
        replace hb := hb.trans (r.mono hb.size)
        clear KE D0 D1 E0 E1 r HL1 HL2
        obtain ⟨D0, D1⟩ := ka.bx.two
        obtain ⟨E0, E1⟩ := kx.bx.two
        go_wp2_with fail
        refine (impGrounded_any (N := N) (X := X) (c := cv) (Lib.hid rfl) (by have := HXL.out; omega) ka.gr).mono ?_
        rintro e w15 ⟨v1, rfl, hr1, r⟩
        obtain ⟨As, cs, rfl, rs, _, _⟩ := hr1.rd (n := (grd N X).length) (ivs_len _)
        replace ka := ka.new r
        replace kx := kx.new r
        replace rt := rd_new rt r
        replace hb := hb.trans (r.mono hb.size)
        clear D0 D1 E0 E1 r hr1
        obtain ⟨E0, E1⟩ := kx.bx.two
        go_wp2_with fail
        refine (impGrounded_any (N := N) (X := Y) (c := cy) (Lib.hid rfl) (by have := HYL.out; omega) kx.gr).mono ?_
        rintro e w16 ⟨v1, rfl, hr1, r⟩
        obtain ⟨Ar, cr, rfl, rr, _, _⟩ := hr1.rd (n := (grd N Y).length) (ivs_len _)
        have hd : DR W g gx N Av Ay At As Ar X.length cv cy Y.length X Y T (grd N X) (grd N Y) w16 := ⟨ka.new r, kx.new r, rd_new rt r, rd_new rs r, rr, hb.trans (r.mono hb.size)⟩
        clear E0 E1 r hr1 ka kx rt rs rr hb
        go_wp2_with fail
        go_loopw [17] (fun i wr => ∃ k : Nat, k ≤ T.length ∧ i = .int .i64 k ∧ DR W g gx N Av Ay At As Ar X.length cv cy Y.length X Y T (grd N X) (grd N Y) wr) (fun i _ => T.length - (intOf i).toNat)
        case atStart => exact ⟨0, Nat.zero_le _, rfl, hd⟩
        case round =>
          obtain ⟨k, hk, rfl, hr⟩ := hrel
          clear hd
          have ht12 := HT12.out
          by_cases hlt : k < T.length
          · obtain ⟨ad, rfl, hab, hc⟩ := ivs_at hr.t hlt
            have hkN : (k : Int) < N := by have := HTN.out; omega
            have HG1 := HGR.out k hkN
            have HR1 := HRN.out k hkN
            rw [getD_atD hlt] at HG1 HR1
            obtain ⟨z, hz⟩ : ∃ z, z = T[k] := ⟨_, rfl⟩
            rw [← hz] at hc HG1 HR1
            obtain ⟨y, hy⟩ : ∃ y, (grd N X).contains (k : Int) = y := ⟨_, rfl⟩
            obtain ⟨q, hq⟩ : ∃ q, rnd N X k = q := ⟨_, rfl⟩
            have HY1 := Lib.hid hy
            have HY2 : Hid ((grd N Y).contains z = y) := Lib.hid (by rw [HG1, hy])
            have HQ1 := Lib.hid hq
            have HQ2 : Hid (rnd N Y z = q) := Lib.hid (by rw [HR1, hq])
            have hyy : (y != y) = false := by cases y <;> rfl
            have i0 : (0 : Int) ≤ (k : Int) := by omega
            have i1 : (k : Int) < (T.length : Int) := by omega
            have KE := fun (u : World) (q : Below wr.heap.size wr u) => show Below wr.heap.size wr u ∧ u.cell? ⟨g, 0, none⟩ = some (.int .i64 N) ∧ u.cell? ⟨g, 1, none⟩ = some (.slice Av X.length cv) ∧ u.cell? ⟨gx, 0, none⟩ = some (.int .i64 N) ∧ u.cell? ⟨gx, 1, none⟩ = some (.slice Ay Y.length cy) ∧ u.cell? (ad.add k) = some (.int .i64 z) from ⟨q, (hr.new q).a.bx.two.1, (hr.new q).a.bx.two.2, (hr.new q).b.bx.two.1, (hr.new q).b.bx.two.2, (q.cell (p := ad.add k) (by rw [add_blk]; exact hab)).trans hc⟩
            clear hy hq HG1 HR1 hz hkN
            go_wp2_with fail
            refine wp_region_quiet (C := fun u => Below wr.heap.size wr u ∧ u.cell? ⟨g, 0, none⟩ = some (.int .i64 N) ∧ u.cell? ⟨g, 1, none⟩ = some (.slice Av X.length cv) ∧ u.cell? ⟨gx, 0, none⟩ = some (.int .i64 N) ∧ u.cell? ⟨gx, 1, none⟩ = some (.slice Ay Y.length cy) ∧ u.cell? (ad.add k) = some (.int .i64 z)) (by kernel_rfl) (by kernel_rfl) (KE _ (Below.refl _ _).drew) ?_
            rw [List.toList_toArray]
            go_big_quiet_want
            go_big_quiet_op
            go_big_quiet_on
            go_big_quiet_want
            go_big_quiet_op
            go_big_quiet_on
            go_big_quiet_want
            refine ⟨.bool y, fun u hu => ?_, ?_⟩
            · obtain ⟨hu0, hu1, hu2, hu3, hu4, hu5⟩ := hu
              unfold Oper.quietAt
              go_simp
              refine (contains_any (S := grd N X) (a := (k : Int)) (Lib.hid rfl) (by have := grd_len N X; omega) (hr.new hu0).s).mono ?_
              rintro e u9 ⟨he, rfl⟩
              rw [HY1.out] at he
              exact ⟨he, KE _ hu0⟩
            simp only [Act.put, List.setIfInBounds_toArray, List.set_cons_zero, List.set_cons_succ]
            go_big_quiet_on
            go_big_quiet_want
            go_big_quiet_op
            go_big_quiet_on
            go_big_quiet_want
            go_big_quiet_op
            go_big_quiet_on
            go_big_quiet_want
            go_big_quiet_op
            go_big_quiet_on
            go_big_quiet_want
            apply Exists.intro
            refine ⟨fun u hu => ?_, ?_⟩
            · obtain ⟨hu0, hu1, hu2, hu3, hu4, hu5⟩ := hu
              unfold Oper.quietAt
              go_simp
              try rfl
            simp only [Act.put, List.setIfInBounds_toArray, List.set_cons_zero, List.set_cons_succ]
            go_big_quiet_on
            go_big_quiet_want
            apply Exists.intro
            refine ⟨fun u hu => ?_, ?_⟩
            · obtain ⟨hu0, hu1, hu2, hu3, hu4, hu5⟩ := hu
              unfold Oper.quietAt
              go_simp
              try rfl
            simp only [Act.put, List.setIfInBounds_toArray, List.set_cons_zero, List.set_cons_succ]
            go_big_quiet_on
            go_big_quiet_want
            refine ⟨.bool y, fun u hu => ?_, ?_⟩
            · obtain ⟨hu0, hu1, hu2, hu3, hu4, hu5⟩ := hu
              unfold Oper.quietAt
              go_simp
              refine (contains_any (S := grd N Y) (a := z) (Lib.hid rfl) (by have := grd_len N Y; omega) (hr.new hu0).r).mono ?_
              rintro e u9 ⟨he, rfl⟩
              rw [HY2.out] at he
              exact ⟨he, KE _ hu0⟩
            simp only [Act.put, List.setIfInBounds_toArray, List.set_cons_zero, List.set_cons_succ]
            go_big_quiet_on
            go_big_quiet_want
            apply Exists.intro
            refine ⟨fun u hu => ?_, ?_⟩
            · obtain ⟨hu0, hu1, hu2, hu3, hu4, hu5⟩ := hu
              unfold Oper.quietAt
              go_simp
              try rfl
            simp only [Act.put, List.setIfInBounds_toArray, List.set_cons_zero, List.set_cons_succ]
            go_big_quiet_on
            go_big_quiet_want
            go_big_quiet_op
            go_big_quiet_on
            go_big_quiet_want
            apply Exists.intro
            refine ⟨fun u hu => ?_, ?_⟩
            · obtain ⟨hu0, hu1, hu2, hu3, hu4, hu5⟩ := hu
              unfold Oper.quietAt
              go_simp
              try rfl
            simp only [Act.put, List.setIfInBounds_toArray, List.set_cons_zero, List.set_cons_succ]
            go_big_quiet_on
            go_big_quiet_want
            go_big_quiet_op
            go_big_quiet_on
            go_big_quiet_want
            refine ⟨.int .i64 q, fun u hu => ?_, ?_⟩
            · obtain ⟨hu0, hu1, hu2, hu3, hu4, hu5⟩ := hu
              unfold Oper.quietAt
              go_simp
              refine (impRoundOf_any (N := N) (X := X) (a := (k : Int)) (c := cv) (Lib.hid rfl) (by have := HXL.out; omega) (hr.new hu0).a.gr).mono ?_
              rintro e u9 ⟨he, r9⟩
              rw [HQ1.out] at he
              exact ⟨he, KE _ (trans_new hu0 r9)⟩
            simp only [Act.put, List.setIfInBounds_toArray, List.set_cons_zero, List.set_cons_succ]
            go_big_quiet_on
            go_big_quiet_want
            apply Exists.intro
            refine ⟨fun u hu => ?_, ?_⟩
            · obtain ⟨hu0, hu1, hu2, hu3, hu4, hu5⟩ := hu
              unfold Oper.quietAt
              go_simp
              try rfl
            simp only [Act.put, List.setIfInBounds_toArray, List.set_cons_zero, List.set_cons_succ]
            go_big_quiet_on
            go_big_quiet_want
            go_big_quiet_op
            go_big_quiet_on
            go_big_quiet_want
            go_big_quiet_op
            go_big_quiet_on
            go_big_quiet_want
            apply Exists.intro
            refine ⟨fun u hu => ?_, ?_⟩
            · obtain ⟨hu0, hu1, hu2, hu3, hu4, hu5⟩ := hu
              unfold Oper.quietAt
              go_simp
              try rfl
            simp only [Act.put, List.setIfInBounds_toArray, List.set_cons_zero, List.set_cons_succ]
            go_big_quiet_on
            go_big_quiet_want
            apply Exists.intro
            refine ⟨fun u hu => ?_, ?_⟩
            · obtain ⟨hu0, hu1, hu2, hu3, hu4, hu5⟩ := hu
              unfold Oper.quietAt
              go_simp
              try rfl
            simp only [Act.put, List.setIfInBounds_toArray, List.set_cons_zero, List.set_cons_succ]
            go_big_quiet_on
            go_big_quiet_want
            refine ⟨.int .i64 q, fun u hu => ?_, ?_⟩
            · obtain ⟨hu0, hu1, hu2, hu3, hu4, hu5⟩ := hu
              unfold Oper.quietAt
              go_simp
              refine (impRoundOf_any (N := N) (X := Y) (a := z) (c := cy) (Lib.hid rfl) (by have := HYL.out; omega) (hr.new hu0).b.gr).mono ?_
              rintro e u9 ⟨he, r9⟩
              rw [HQ2.out] at he
              exact ⟨he, KE _ (trans_new hu0 r9)⟩
            simp only [Act.put, List.setIfInBounds_toArray, List.set_cons_zero, List.set_cons_succ]
            go_big_quiet_on
            go_big_quiet_want
            apply Exists.intro
            refine ⟨fun u hu => ?_, ?_⟩
            · obtain ⟨hu0, hu1, hu2, hu3, hu4, hu5⟩ := hu
              unfold Oper.quietAt
              go_simp
              try rfl
            simp only [Act.put, List.setIfInBounds_toArray, List.set_cons_zero, List.set_cons_succ]
            go_big_quiet_on
            go_big_quiet_want
            apply Exists.intro
            refine ⟨fun u hu => ?_, ?_⟩
            · obtain ⟨hu0, hu1, hu2, hu3, hu4, hu5⟩ := hu
              unfold Oper.quietAt
              go_simp
              try rfl
            simp only [Act.put, List.setIfInBounds_toArray, List.set_cons_zero, List.set_cons_succ]
            go_big_quiet_on
            refine wpQuiet_nil ?_
            rintro u ⟨r, _⟩
            replace hr := hr.new r
            clear KE r
            go_wp2_with fail
            go_roundw
            case rel => exact ⟨k + 1, by omega, by go_num, hr⟩
            case measure => simp [intOf]; omega
          · have e : k = T.length := by omega
            subst e
            go_wp2_with fail
            go_meet
            case rel => exact hr.hb
    case rest =>
      clear ka kx rt hb HQ HXL HXS HTL HX10 HT12 HYL
      have hbX : Below W.heap.size W wc := hcut
      clear hcut
      have h9 := h8.below hbX
      go_wp2_with fail
      refine (drawPart h9).mono ?_
      rintro e w21 ⟨M, N, X, Y, v, u, hx, hy, rfl, ho1, ho2, hb1⟩
      obtain ⟨Av, cv, rfl, hr1, _, _⟩ := ho1.rd (n := X.length) rfl
      obtain ⟨Au, cu, rfl, hr2, _, _⟩ := ho2.rd (n := Y.length) rfl
      have k1 := alloc_new w21 (Obj.cells #[Value.int .i64 M, .slice Av X.length cv] 26)
      have k2 := k1.alloc k1.size (Obj.cells #[Value.int .i64 N, .slice Au Y.length cu] 26)
      have bxA := (Bx.made w21 26 #[Value.int .i64 M, .slice Av X.length cv]).new (alloc_new _ (Obj.cells #[Value.int .i64 N, .slice Au Y.length cu] 26))
      have bxB := Bx.made (w21.alloc (Obj.cells #[Value.int .i64 M, .slice Av X.length cv] 26)) 26 #[Value.int .i64 N, .slice Au Y.length cu]
      rw [show (w21.alloc (Obj.cells #[Value.int .i64 M, .slice Av X.length cv] 26)).heap.size = w21.heap.size + 1 by simp] at bxB
      have hA := rdSS_new hr1 k2
      have hB := rdSS_new hr2 k2
      have hb := hbX.trans ((hb1.trans (k2.mono hb1.size)).mono hbX.size)
      have HXL := Lib.hid hx
      have HYL := Lib.hid hy
      obtain ⟨w22, hw22⟩ : ∃ z : World, z = (w21.alloc (Obj.cells #[Value.int .i64 M, .slice Av X.length cv] 26)).alloc (Obj.cells #[Value.int .i64 N, .slice Au Y.length cu] 26) := ⟨_, rfl⟩
      rw [← hw22] at bxA bxB hA hB hb
      have HW := Lib.hid hw22.symm
      clear hw22 k1 k2 ho1 ho2 hr1 hr2 hb1 hx hy h9 hbX
      go_wp2_with fail
      rw [HW.out]
      refine (impIsPartOf_any (M := M) (N := N) (X := X) (Y := Y) (c := cv) (c' := cu) (Lib.hid rfl) (by have := HXL.out; omega) hA (Lib.hid rfl) (by have := HYL.out; omega) hB).mono ?_
      rintro e w23 ⟨rfl, r⟩
      replace bxA := bxA.new r
      replace bxB := bxB.new r
      replace hb := hb.trans (r.mono hb.size)
      obtain ⟨D0, D1⟩ := bxA.two
      obtain ⟨E0, E1⟩ := bxB.two
      cases hp : partB M X N Y with
      | false =>
        clear hp
        go_wp2_with fail
        go_ret
        exact ⟨rfl, hb⟩
      | true =>
        have hmn := partB_le hp
        clear hp
        go_wp2_with fail
        go_ret
        exact ⟨rfl, hb⟩
end Go.Proofs.YtjhknafajfpldaaDoor
