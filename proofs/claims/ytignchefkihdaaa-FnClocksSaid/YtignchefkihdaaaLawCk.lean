/- The law of chapter 14: nobody speaks beyond the grace, and every second is counted. No conditions but that the code is small. -/
import Derived.Test.YtignchefkihdaaaDrawClk2
import Derived.Test.YtignchefkihdaaaSlotC3
import Derived.Test.YtignchefkihdaaaAsc
namespace Go.Proofs.Ytignchefkihdaaa
open Go.ChangeShapes Go.WideShapes Go.ChangeAt Go.RowKit
set_option maxRecDepth 100000
theorem spk_k {s : T3} {n : Int} (h : slB s = true) : 0 ≤ spkK s n ∧ spkK s n ≤ 1015 := by
  have := spk_pos s n
  obtain ⟨_, ⟨p1, p2⟩, k1, k2⟩ := sl_parts h
  refine ⟨this, ?_⟩
  unfold spkK
  split <;> omega
theorem lef_le {s : T3} (h : slB s = true) : 0 ≤ lefN s ∧ lefN s ≤ 1015 ∧ 0 ≤ ovrN s ∧ ovrN s ≤ 1015 := by
  obtain ⟨_, ⟨p1, p2⟩, k1, k2⟩ := sl_parts h
  unfold lefN ovrN
  rw [if_pos h, if_pos h]
  omega
theorem rd_nw {w w' : World} {A : Option Addr} {xs : List Value} (h : Rd w w.heap.size A xs) (r : Below w.heap.size w w') : Rd w' w'.heap.size A xs := (h.below r).more r.size
/-- What is kept from the second region on: the slot's box. -/
structure CK (W : World) (G : Nat) (x : T3) (w : World) : Prop where
  b : Bx w G 53 #[.int .i64 x.1, .int .i64 x.2.1, .int .i64 x.2.2]
  hb : Below W.heap.size W w
theorem CK.new {W w w' : World} {G : Nat} {x : T3} (h : CK W G x w) (r : Below w.heap.size w w') : CK W G x w' := ⟨h.b.new r, h.hb.trans (r.mono h.hb.size)⟩
set_option maxHeartbeats 8000000 in
theorem ck_core {W : World} {A : Option Addr} {n c : Nat} (h : Code8 W A n) (hs : n ≤ 1048576) : Calls Try.prog 5 #[.slice A n c] W (fun e W' => e = .returned (.bool true) ∧ Below W.heap.size W W') := by
  have HC := Lib.hid h
  go_enter Try.func5, Try.ntmps5
  go_wp2_with (go_at_call 13; refine (big_no (by omega)).mono ?_; rintro e w1 ⟨rfl, rfl⟩)
  go_at_call 36
  refine (drawSpeak h).mono ?_
  rintro e w2 ⟨x, m, hx, hm, rfl, b2⟩
  obtain ⟨a, ha⟩ : ∃ a, x.1 = a := ⟨_, rfl⟩
  obtain ⟨b, hb⟩ : ∃ a, x.2.1 = a := ⟨_, rfl⟩
  obtain ⟨d, hd⟩ : ∃ a, x.2.2 = a := ⟨_, rfl⟩
  obtain ⟨hx0, hx1, hx2⟩ := hx
  rw [ha] at hx0
  rw [hb] at hx1
  rw [hd] at hx2
  rw [ha, hb, hd]
  clear ha hb hd h
  obtain ⟨K, hK⟩ : ∃ K, spkK (a, b, d) m = K := ⟨_, rfl⟩
  obtain ⟨U, hU⟩ : ∃ U, d + K = U := ⟨_, rfl⟩
  have HK := Lib.hid hK
  have HS := Lib.hid (show spkS (a, b, d) m = (a, b, U) by unfold spkS; rw [hK, ← hU])
  have hK0 : 0 ≤ K := by rw [← hK]; exact spk_pos _ _
  have hUw : IntKind.i64.wrap (d + K) = U := by
    rw [← hU]
    cases hsl : slB (a, b, d) with
    | true =>
      obtain ⟨_, ⟨p1, p2⟩, k1, k2⟩ := sl_parts hsl
      have := spk_k (n := m) hsl
      rw [hK] at this
      simp only at p1 p2 k1 k2
      exact IntWalk.i64_in _ (by omega)
    | false =>
      have : K = 0 := by rw [← hK]; unfold spkK; rw [hsl]; rfl
      rw [this, Int.add_zero]
      exact IntWalk.i64_in _ hx2
  have hUU : (U != U) = false := by simp
  have dK : decide (K < 0) = false := decide_eq_false (by omega)
  have hKn : ¬ K < 0 := by omega
  obtain ⟨W3, hW3, bx3, hb3, hz3⟩ := box3 w2 53 (.int .i64 a) (.int .i64 b) (.int .i64 d)
  have HW3 := Lib.hid hW3
  have b3 := b2.trans (hb3.mono b2.size)
  obtain ⟨G, hG⟩ : ∃ G, w2.heap.size = G := ⟨_, rfl⟩
  have hkk : CK W G (a, b, d) W3 := ⟨by rw [← hG]; exact bx3, b3⟩
  have HG := Lib.hid hG
  obtain ⟨g0, g1, g2⟩ := hkk.b.cells3 (Below.refl _ _)
  clear hW3 bx3 b3 b2 hb3 hz3 hK hU hG
  go_wp2_with fail
  rw [HW3.out]
  rw [HG.out]
  go_wp2_with fail
  refine (impSpeak_any).mono ?_
  rintro e w4 ⟨he, r⟩
  rw [HS.out, HK.out] at he
  subst he
  have hk4 := hkk.new r
  clear r hkk g0 g1 g2
  obtain ⟨W5, hW5, by5, hb5, hz5⟩ := box3 w4 53 (.int .i64 a) (.int .i64 b) (.int .i64 U)
  have HW5 := Lib.hid hW5
  have hk := hk4.new hb5
  obtain ⟨H, hH⟩ : ∃ H, w4.heap.size = H := ⟨_, rfl⟩
  rw [hH] at by5
  have HH := Lib.hid hH
  obtain ⟨g0, g1, g2⟩ := hk.b.cells3 (Below.refl _ _)
  obtain ⟨q0, q1, q2⟩ := by5.cells3 (Below.refl _ _)
  rw [← HW5.out] at g0 g1 g2
  clear hW5 hb5 hz5 hk4 hH
  cases hsl : slB (a, b, d) with
  | true =>
    have HSL := Lib.hid hsl
    have HSU : Hid (slB (a, b, U) = true) := Lib.hid (by have q := (spk_sl (n := m) hsl).1; rwa [HS.out] at q)
    have hkm := (spk_sl (n := m) hsl).2
    rw [HK.out] at hkm
    obtain ⟨F, hF⟩ : ∃ F, lefN (a, b, d) = F := ⟨_, rfl⟩
    obtain ⟨O, hO⟩ : ∃ F, ovrN (a, b, d) = F := ⟨_, rfl⟩
    have hle := lef_le hsl
    have hlo := lef_ovr hsl
    rw [hF, hO] at hle hlo
    obtain ⟨_, ⟨p1, p2⟩, k1, k2⟩ := sl_parts hsl
    simp only at p1 p2 k1 k2 hlo
    have HF := Lib.hid hF
    have HO := Lib.hid hO
    have ww1 : IntKind.i64.wrap (F - O) = F - O := IntWalk.i64_in _ (by omega)
    have ww2 : IntKind.i64.wrap (b - d) = F - O := (IntWalk.i64_in _ (by omega)).trans hlo.symm
    have hDD : (F - O != F - O) = false := by simp
    clear hF hO hlo
    clear hsl
    by_cases hm0 : 0 ≤ m
    · have hkm' := hkm hm0
      have dM : decide (m < K) = false := decide_eq_false (by omega)
      have hmK : ¬ m < K := by omega
      clear hkm
      go_wp2_with fail
      rw [HW5.out]
      rw [HH.out]
      refine (impIsSlot_any).mono ?_
      rintro e w6 ⟨he, r⟩
      rw [HSL.out] at he
      subst he
      replace hk := hk.new r
      have by6 := by5.new r
      clear r g0 g1 g2 q0 q1 q2 by5
      obtain ⟨g0, g1, g2⟩ := hk.b.cells3 (Below.refl _ _)
      obtain ⟨q0, q1, q2⟩ := by6.cells3 (Below.refl _ _)
      go_wp2_with fail
      refine (impIsSlot_any).mono ?_
      rintro e w9 ⟨he, r⟩
      rw [HSU.out] at he
      subst he
      replace hk := hk.new r
      clear r g0 g1 g2 q0 q1 q2 by6
      obtain ⟨g0, g1, g2⟩ := hk.b.cells3 (Below.refl _ _)
      go_wp2_with fail
      have KE := fun (u : World) (q : Below w9.heap.size w9 u) => show Below w9.heap.size w9 u ∧ u.cell? ⟨G, 0, none⟩ = some (.int .i64 a) ∧ u.cell? ⟨G, 1, none⟩ = some (.int .i64 b) ∧ u.cell? ⟨G, 2, none⟩ = some (.int .i64 d) from ⟨q, hk.b.cells3 q⟩
      refine wp_region_quiet (C := fun u => Below w9.heap.size w9 u ∧ u.cell? ⟨G, 0, none⟩ = some (.int .i64 a) ∧ u.cell? ⟨G, 1, none⟩ = some (.int .i64 b) ∧ u.cell? ⟨G, 2, none⟩ = some (.int .i64 d)) (by kernel_rfl) (by kernel_rfl) (KE _ (Below.refl w9.heap.size w9).drew) ?_
      rw [List.toList_toArray]
      go_big_quiet_want
      apply Exists.intro
      refine ⟨fun u hu => ?_, ?_⟩
      · obtain ⟨hu0, hu1, hu2, hu3⟩ := hu
        unfold Oper.quietAt
        go_simp
        try rfl
      simp only [Act.put, List.setIfInBounds_toArray, List.set_cons_zero, List.set_cons_succ]
      go_big_quiet_on
      go_big_quiet_want
      refine ⟨.bool true, fun u hu => ?_, ?_⟩
      · obtain ⟨hu0, hu1, hu2, hu3⟩ := hu
        unfold Oper.quietAt
        go_simp
        refine (impIsSlot_any).mono ?_
        rintro e u9 ⟨he, r9⟩
        rw [HSL.out] at he
        exact ⟨he, KE _ (trans_new hu0 r9)⟩
      simp only [Act.put, List.setIfInBounds_toArray, List.set_cons_zero, List.set_cons_succ]
      go_big_quiet_on
      go_big_quiet_want
      go_big_quiet_op
      go_big_quiet_on
      go_big_quiet_want
      apply Exists.intro
      refine ⟨fun u hu => ?_, ?_⟩
      · obtain ⟨hu0, hu1, hu2, hu3⟩ := hu
        unfold Oper.quietAt
        go_simp
        try rfl
      simp only [Act.put, List.setIfInBounds_toArray, List.set_cons_zero, List.set_cons_succ]
      go_big_quiet_on
      go_big_quiet_want
      refine ⟨.int .i64 F, fun u hu => ?_, ?_⟩
      · obtain ⟨hu0, hu1, hu2, hu3⟩ := hu
        unfold Oper.quietAt
        go_simp
        refine (impLeftOf_any).mono ?_
        rintro e u9 ⟨he, r9⟩
        rw [HF.out] at he
        exact ⟨he, KE _ (trans_new hu0 r9)⟩
      simp only [Act.put, List.setIfInBounds_toArray, List.set_cons_zero, List.set_cons_succ]
      go_big_quiet_on
      go_big_quiet_want
      apply Exists.intro
      refine ⟨fun u hu => ?_, ?_⟩
      · obtain ⟨hu0, hu1, hu2, hu3⟩ := hu
        unfold Oper.quietAt
        go_simp
        try rfl
      simp only [Act.put, List.setIfInBounds_toArray, List.set_cons_zero, List.set_cons_succ]
      go_big_quiet_on
      go_big_quiet_want
      refine ⟨.int .i64 O, fun u hu => ?_, ?_⟩
      · obtain ⟨hu0, hu1, hu2, hu3⟩ := hu
        unfold Oper.quietAt
        go_simp
        refine (impOverBy_any).mono ?_
        rintro e u9 ⟨he, r9⟩
        rw [HO.out] at he
        exact ⟨he, KE _ (trans_new hu0 r9)⟩
      simp only [Act.put, List.setIfInBounds_toArray, List.set_cons_zero, List.set_cons_succ]
      go_big_quiet_on
      go_big_quiet_want
      apply Exists.intro
      refine ⟨fun u hu => ?_, ?_⟩
      · obtain ⟨hu0, hu1, hu2, hu3⟩ := hu
        unfold Oper.quietAt
        go_simp
        try rfl
      simp only [Act.put, List.setIfInBounds_toArray, List.set_cons_zero, List.set_cons_succ]
      go_big_quiet_on
      go_big_quiet_want
      apply Exists.intro
      refine ⟨fun u hu => ?_, ?_⟩
      · obtain ⟨hu0, hu1, hu2, hu3⟩ := hu
        unfold Oper.quietAt
        go_simp
        try rfl
      simp only [Act.put, List.setIfInBounds_toArray, List.set_cons_zero, List.set_cons_succ]
      go_big_quiet_on
      go_big_quiet_want
      apply Exists.intro
      refine ⟨fun u hu => ?_, ?_⟩
      · obtain ⟨hu0, hu1, hu2, hu3⟩ := hu
        unfold Oper.quietAt
        go_simp
        try rfl
      simp only [Act.put, List.setIfInBounds_toArray, List.set_cons_zero, List.set_cons_succ]
      go_big_quiet_on
      go_big_quiet_want
      apply Exists.intro
      refine ⟨fun u hu => ?_, ?_⟩
      · obtain ⟨hu0, hu1, hu2, hu3⟩ := hu
        unfold Oper.quietAt
        go_simp
        try rfl
      simp only [Act.put, List.setIfInBounds_toArray, List.set_cons_zero, List.set_cons_succ]
      go_big_quiet_on
      go_big_quiet_want
      apply Exists.intro
      refine ⟨fun u hu => ?_, ?_⟩
      · obtain ⟨hu0, hu1, hu2, hu3⟩ := hu
        unfold Oper.quietAt
        go_simp
        try rfl
      simp only [Act.put, List.setIfInBounds_toArray, List.set_cons_zero, List.set_cons_succ]
      go_big_quiet_on
      go_big_quiet_want
      apply Exists.intro
      refine ⟨fun u hu => ?_, ?_⟩
      · obtain ⟨hu0, hu1, hu2, hu3⟩ := hu
        unfold Oper.quietAt
        go_simp
        try rfl
      simp only [Act.put, List.setIfInBounds_toArray, List.set_cons_zero, List.set_cons_succ]
      go_big_quiet_on
      go_big_quiet_want
      apply Exists.intro
      refine ⟨fun u hu => ?_, ?_⟩
      · obtain ⟨hu0, hu1, hu2, hu3⟩ := hu
        unfold Oper.quietAt
        go_simp
        try rfl
      simp only [Act.put, List.setIfInBounds_toArray, List.set_cons_zero, List.set_cons_succ]
      go_big_quiet_on
      go_big_quiet_want
      apply Exists.intro
      refine ⟨fun u hu => ?_, ?_⟩
      · obtain ⟨hu0, hu1, hu2, hu3⟩ := hu
        unfold Oper.quietAt
        go_simp
        try rfl
      simp only [Act.put, List.setIfInBounds_toArray, List.set_cons_zero, List.set_cons_succ]
      go_big_quiet_on
      refine wpQuiet_nil ?_
      rintro u ⟨k9, _⟩
      replace hk := hk.new k9
      clear KE k9
      obtain ⟨g0, g1, g2⟩ := hk.b.cells3 (Below.refl _ _)
      go_wp2_with fail
      refine (impBellsAt_any).mono ?_
      rintro e w10 ⟨v, rfl, hrow, r⟩
      replace hk := hk.new r
      clear r g0 g1 g2
      obtain ⟨L, hL⟩ : ∃ L, belL (a, b, d) = L := ⟨_, rfl⟩
      rw [hL] at hrow
      have hL1 : decide (0 < L.length) = true := by rw [← hL]; exact (bel_len (a, b, d)).1.trans HSL.out
      have hLp : 0 < L.length := of_decide_eq_true hL1
      have hL4 : L.length ≤ 4 := by rw [← hL]; exact (bel_len (a, b, d)).2
      have HA := Lib.hid (show L.Pairwise (· < ·) by rw [← hL]; exact bel_asc (a, b, d))
      obtain ⟨N, hN⟩ : ∃ N, L.length = N := ⟨_, rfl⟩
      obtain ⟨Al, cl, rfl, hrd, _, _⟩ := hrow.rd (n := N) (by rw [ivs_len, hN])
      rw [hN] at hLp hL4
      have HN := Lib.hid hN
      have HR := Lib.hid hrd
      have h8 := HC.out.below hk.hb
      clear hrow hrd hL1 hL hN
      go_wp2_with fail
      refine (drawTotal h8).mono ?_
      rintro e w11 ⟨v, X, q, rfl, hrow, hx5, r⟩
      replace hk := hk.new r
      have HR2 := Lib.hid (rd_nw HR.out r)
      obtain ⟨Av, cv, rfl, hrx, _, _⟩ := hrow.rd (n := X.length) rfl
      have HX := Lib.hid hrx
      clear hrow hrx r h8
      obtain ⟨T, hT⟩ : ∃ T, totN X q = T := ⟨_, rfl⟩
      have hT0 : 0 ≤ T := by rw [← hT]; exact tot_pos X q
      have HT := Lib.hid hT
      clear hT
      go_wp2_with fail
      refine (ascends_any (S := L) HN (by omega) HA.out HR2.out).mono ?_
      rintro e w12 ⟨rfl, r⟩
      replace hk := hk.new r
      have HX2 := Lib.hid (rd_nw HX.out r)
      clear r
      obtain ⟨g0, g1, g2⟩ := hk.b.cells3 (Below.refl _ _)
      have i1 : (0 : Int) < (N : Int) := by omega
      go_wp2_with fail
      refine (impIsSlot_any).mono ?_
      rintro e w13 ⟨he, r⟩
      rw [HSL.out] at he
      subst he
      replace hk := hk.new r
      have HX3 := Lib.hid (rd_nw HX2.out r)
      clear r g0 g1 g2
      go_wp2_with fail
      refine (impTotalUsed_any (X := X) (Lib.hid rfl) (by omega) HX3.out).mono ?_
      rintro e w14 ⟨he, r⟩
      rw [HT.out] at he
      subst he
      have hbb := hk.hb.trans (r.mono hk.hb.size)
      have i2 : ¬ T < 0 := by omega
      go_wp2_with fail
      go_ret
      exact ⟨rfl, hbb⟩
    · have hK00 : K = 0 := by rw [← HK.out]; unfold spkK; rw [HSL.out, decide_eq_false hm0]; rfl
      have dM : decide (m < K) = true := decide_eq_true (by omega)
      have hmK : m < K := by omega
      have dm : decide (0 ≤ m) = false := decide_eq_false hm0
      have hm1 : ¬ 0 ≤ m := hm0
      clear hkm hK00 hm0
      go_wp2_with fail
      rw [HW5.out]
      rw [HH.out]
      refine (impIsSlot_any).mono ?_
      rintro e w6 ⟨he, r⟩
      rw [HSL.out] at he
      subst he
      replace hk := hk.new r
      have by6 := by5.new r
      clear r g0 g1 g2 q0 q1 q2 by5
      obtain ⟨g0, g1, g2⟩ := hk.b.cells3 (Below.refl _ _)
      obtain ⟨q0, q1, q2⟩ := by6.cells3 (Below.refl _ _)
      go_wp2_with fail
      refine (impIsSlot_any).mono ?_
      rintro e w9 ⟨he, r⟩
      rw [HSU.out] at he
      subst he
      replace hk := hk.new r
      clear r g0 g1 g2 q0 q1 q2 by6
      obtain ⟨g0, g1, g2⟩ := hk.b.cells3 (Below.refl _ _)
      go_wp2_with fail
      have KE := fun (u : World) (q : Below w9.heap.size w9 u) => show Below w9.heap.size w9 u ∧ u.cell? ⟨G, 0, none⟩ = some (.int .i64 a) ∧ u.cell? ⟨G, 1, none⟩ = some (.int .i64 b) ∧ u.cell? ⟨G, 2, none⟩ = some (.int .i64 d) from ⟨q, hk.b.cells3 q⟩
      refine wp_region_quiet (C := fun u => Below w9.heap.size w9 u ∧ u.cell? ⟨G, 0, none⟩ = some (.int .i64 a) ∧ u.cell? ⟨G, 1, none⟩ = some (.int .i64 b) ∧ u.cell? ⟨G, 2, none⟩ = some (.int .i64 d)) (by kernel_rfl) (by kernel_rfl) (KE _ (Below.refl w9.heap.size w9).drew) ?_
      rw [List.toList_toArray]
      go_big_quiet_want
      apply Exists.intro
      refine ⟨fun u hu => ?_, ?_⟩
      · obtain ⟨hu0, hu1, hu2, hu3⟩ := hu
        unfold Oper.quietAt
        go_simp
        try rfl
      simp only [Act.put, List.setIfInBounds_toArray, List.set_cons_zero, List.set_cons_succ]
      go_big_quiet_on
      go_big_quiet_want
      refine ⟨.bool true, fun u hu => ?_, ?_⟩
      · obtain ⟨hu0, hu1, hu2, hu3⟩ := hu
        unfold Oper.quietAt
        go_simp
        refine (impIsSlot_any).mono ?_
        rintro e u9 ⟨he, r9⟩
        rw [HSL.out] at he
        exact ⟨he, KE _ (trans_new hu0 r9)⟩
      simp only [Act.put, List.setIfInBounds_toArray, List.set_cons_zero, List.set_cons_succ]
      go_big_quiet_on
      go_big_quiet_want
      go_big_quiet_op
      go_big_quiet_on
      go_big_quiet_want
      apply Exists.intro
      refine ⟨fun u hu => ?_, ?_⟩
      · obtain ⟨hu0, hu1, hu2, hu3⟩ := hu
        unfold Oper.quietAt
        go_simp
        try rfl
      simp only [Act.put, List.setIfInBounds_toArray, List.set_cons_zero, List.set_cons_succ]
      go_big_quiet_on
      go_big_quiet_want
      refine ⟨.int .i64 F, fun u hu => ?_, ?_⟩
      · obtain ⟨hu0, hu1, hu2, hu3⟩ := hu
        unfold Oper.quietAt
        go_simp
        refine (impLeftOf_any).mono ?_
        rintro e u9 ⟨he, r9⟩
        rw [HF.out] at he
        exact ⟨he, KE _ (trans_new hu0 r9)⟩
      simp only [Act.put, List.setIfInBounds_toArray, List.set_cons_zero, List.set_cons_succ]
      go_big_quiet_on
      go_big_quiet_want
      apply Exists.intro
      refine ⟨fun u hu => ?_, ?_⟩
      · obtain ⟨hu0, hu1, hu2, hu3⟩ := hu
        unfold Oper.quietAt
        go_simp
        try rfl
      simp only [Act.put, List.setIfInBounds_toArray, List.set_cons_zero, List.set_cons_succ]
      go_big_quiet_on
      go_big_quiet_want
      refine ⟨.int .i64 O, fun u hu => ?_, ?_⟩
      · obtain ⟨hu0, hu1, hu2, hu3⟩ := hu
        unfold Oper.quietAt
        go_simp
        refine (impOverBy_any).mono ?_
        rintro e u9 ⟨he, r9⟩
        rw [HO.out] at he
        exact ⟨he, KE _ (trans_new hu0 r9)⟩
      simp only [Act.put, List.setIfInBounds_toArray, List.set_cons_zero, List.set_cons_succ]
      go_big_quiet_on
      go_big_quiet_want
      apply Exists.intro
      refine ⟨fun u hu => ?_, ?_⟩
      · obtain ⟨hu0, hu1, hu2, hu3⟩ := hu
        unfold Oper.quietAt
        go_simp
        try rfl
      simp only [Act.put, List.setIfInBounds_toArray, List.set_cons_zero, List.set_cons_succ]
      go_big_quiet_on
      go_big_quiet_want
      apply Exists.intro
      refine ⟨fun u hu => ?_, ?_⟩
      · obtain ⟨hu0, hu1, hu2, hu3⟩ := hu
        unfold Oper.quietAt
        go_simp
        try rfl
      simp only [Act.put, List.setIfInBounds_toArray, List.set_cons_zero, List.set_cons_succ]
      go_big_quiet_on
      go_big_quiet_want
      apply Exists.intro
      refine ⟨fun u hu => ?_, ?_⟩
      · obtain ⟨hu0, hu1, hu2, hu3⟩ := hu
        unfold Oper.quietAt
        go_simp
        try rfl
      simp only [Act.put, List.setIfInBounds_toArray, List.set_cons_zero, List.set_cons_succ]
      go_big_quiet_on
      go_big_quiet_want
      apply Exists.intro
      refine ⟨fun u hu => ?_, ?_⟩
      · obtain ⟨hu0, hu1, hu2, hu3⟩ := hu
        unfold Oper.quietAt
        go_simp
        try rfl
      simp only [Act.put, List.setIfInBounds_toArray, List.set_cons_zero, List.set_cons_succ]
      go_big_quiet_on
      go_big_quiet_want
      apply Exists.intro
      refine ⟨fun u hu => ?_, ?_⟩
      · obtain ⟨hu0, hu1, hu2, hu3⟩ := hu
        unfold Oper.quietAt
        go_simp
        try rfl
      simp only [Act.put, List.setIfInBounds_toArray, List.set_cons_zero, List.set_cons_succ]
      go_big_quiet_on
      go_big_quiet_want
      apply Exists.intro
      refine ⟨fun u hu => ?_, ?_⟩
      · obtain ⟨hu0, hu1, hu2, hu3⟩ := hu
        unfold Oper.quietAt
        go_simp
        try rfl
      simp only [Act.put, List.setIfInBounds_toArray, List.set_cons_zero, List.set_cons_succ]
      go_big_quiet_on
      go_big_quiet_want
      apply Exists.intro
      refine ⟨fun u hu => ?_, ?_⟩
      · obtain ⟨hu0, hu1, hu2, hu3⟩ := hu
        unfold Oper.quietAt
        go_simp
        try rfl
      simp only [Act.put, List.setIfInBounds_toArray, List.set_cons_zero, List.set_cons_succ]
      go_big_quiet_on
      go_big_quiet_want
      apply Exists.intro
      refine ⟨fun u hu => ?_, ?_⟩
      · obtain ⟨hu0, hu1, hu2, hu3⟩ := hu
        unfold Oper.quietAt
        go_simp
        try rfl
      simp only [Act.put, List.setIfInBounds_toArray, List.set_cons_zero, List.set_cons_succ]
      go_big_quiet_on
      refine wpQuiet_nil ?_
      rintro u ⟨k9, _⟩
      replace hk := hk.new k9
      clear KE k9
      obtain ⟨g0, g1, g2⟩ := hk.b.cells3 (Below.refl _ _)
      go_wp2_with fail
      refine (impBellsAt_any).mono ?_
      rintro e w10 ⟨v, rfl, hrow, r⟩
      replace hk := hk.new r
      clear r g0 g1 g2
      obtain ⟨L, hL⟩ : ∃ L, belL (a, b, d) = L := ⟨_, rfl⟩
      rw [hL] at hrow
      have hL1 : decide (0 < L.length) = true := by rw [← hL]; exact (bel_len (a, b, d)).1.trans HSL.out
      have hLp : 0 < L.length := of_decide_eq_true hL1
      have hL4 : L.length ≤ 4 := by rw [← hL]; exact (bel_len (a, b, d)).2
      have HA := Lib.hid (show L.Pairwise (· < ·) by rw [← hL]; exact bel_asc (a, b, d))
      obtain ⟨N, hN⟩ : ∃ N, L.length = N := ⟨_, rfl⟩
      obtain ⟨Al, cl, rfl, hrd, _, _⟩ := hrow.rd (n := N) (by rw [ivs_len, hN])
      rw [hN] at hLp hL4
      have HN := Lib.hid hN
      have HR := Lib.hid hrd
      have h8 := HC.out.below hk.hb
      clear hrow hrd hL1 hL hN
      go_wp2_with fail
      refine (drawTotal h8).mono ?_
      rintro e w11 ⟨v, X, q, rfl, hrow, hx5, r⟩
      replace hk := hk.new r
      have HR2 := Lib.hid (rd_nw HR.out r)
      obtain ⟨Av, cv, rfl, hrx, _, _⟩ := hrow.rd (n := X.length) rfl
      have HX := Lib.hid hrx
      clear hrow hrx r h8
      obtain ⟨T, hT⟩ : ∃ T, totN X q = T := ⟨_, rfl⟩
      have hT0 : 0 ≤ T := by rw [← hT]; exact tot_pos X q
      have HT := Lib.hid hT
      clear hT
      go_wp2_with fail
      refine (ascends_any (S := L) HN (by omega) HA.out HR2.out).mono ?_
      rintro e w12 ⟨rfl, r⟩
      replace hk := hk.new r
      have HX2 := Lib.hid (rd_nw HX.out r)
      clear r
      obtain ⟨g0, g1, g2⟩ := hk.b.cells3 (Below.refl _ _)
      have i1 : (0 : Int) < (N : Int) := by omega
      go_wp2_with fail
      refine (impIsSlot_any).mono ?_
      rintro e w13 ⟨he, r⟩
      rw [HSL.out] at he
      subst he
      replace hk := hk.new r
      have HX3 := Lib.hid (rd_nw HX2.out r)
      clear r g0 g1 g2
      go_wp2_with fail
      refine (impTotalUsed_any (X := X) (Lib.hid rfl) (by omega) HX3.out).mono ?_
      rintro e w14 ⟨he, r⟩
      rw [HT.out] at he
      subst he
      have hbb := hk.hb.trans (r.mono hk.hb.size)
      have i2 : ¬ T < 0 := by omega
      go_wp2_with fail
      go_ret
      exact ⟨rfl, hbb⟩
  | false =>
    have HSL := Lib.hid hsl
    clear hsl
    go_wp2_with fail
    rw [HW5.out]
    rw [HH.out]
    refine (impIsSlot_any).mono ?_
    rintro e w6 ⟨he, r⟩
    rw [HSL.out] at he
    subst he
    replace hk := hk.new r
    clear r g0 g1 g2 q0 q1 q2 by5
    obtain ⟨w9, hw9⟩ : ∃ v : World, v = w6 := ⟨_, rfl⟩
    subst hw9
    obtain ⟨g0, g1, g2⟩ := hk.b.cells3 (Below.refl _ _)
    go_wp2_with fail
    have KE := fun (u : World) (q : Below w9.heap.size w9 u) => show Below w9.heap.size w9 u ∧ u.cell? ⟨G, 0, none⟩ = some (.int .i64 a) ∧ u.cell? ⟨G, 1, none⟩ = some (.int .i64 b) ∧ u.cell? ⟨G, 2, none⟩ = some (.int .i64 d) from ⟨q, hk.b.cells3 q⟩
    refine wp_region_quiet (C := fun u => Below w9.heap.size w9 u ∧ u.cell? ⟨G, 0, none⟩ = some (.int .i64 a) ∧ u.cell? ⟨G, 1, none⟩ = some (.int .i64 b) ∧ u.cell? ⟨G, 2, none⟩ = some (.int .i64 d)) (by kernel_rfl) (by kernel_rfl) (KE _ (Below.refl w9.heap.size w9).drew) ?_
    rw [List.toList_toArray]
    go_big_quiet_want
    apply Exists.intro
    refine ⟨fun u hu => ?_, ?_⟩
    · obtain ⟨hu0, hu1, hu2, hu3⟩ := hu
      unfold Oper.quietAt
      go_simp
      try rfl
    simp only [Act.put, List.setIfInBounds_toArray, List.set_cons_zero, List.set_cons_succ]
    go_big_quiet_on
    go_big_quiet_want
    refine ⟨.bool false, fun u hu => ?_, ?_⟩
    · obtain ⟨hu0, hu1, hu2, hu3⟩ := hu
      unfold Oper.quietAt
      go_simp
      refine (impIsSlot_any).mono ?_
      rintro e u9 ⟨he, r9⟩
      rw [HSL.out] at he
      exact ⟨he, KE _ (trans_new hu0 r9)⟩
    simp only [Act.put, List.setIfInBounds_toArray, List.set_cons_zero, List.set_cons_succ]
    go_big_quiet_on
    go_big_quiet_want
    go_big_quiet_op
    go_big_quiet_on
    repeat go_big_quiet_skip
    go_big_quiet_want
    apply Exists.intro
    refine ⟨fun u hu => ?_, ?_⟩
    · obtain ⟨hu0, hu1, hu2, hu3⟩ := hu
      unfold Oper.quietAt
      go_simp
      try rfl
    simp only [Act.put, List.setIfInBounds_toArray, List.set_cons_zero, List.set_cons_succ]
    go_big_quiet_on
    refine wpQuiet_nil ?_
    rintro u ⟨k9, _⟩
    replace hk := hk.new k9
    clear KE k9
    obtain ⟨g0, g1, g2⟩ := hk.b.cells3 (Below.refl _ _)
    go_wp2_with fail
    refine (impBellsAt_any).mono ?_
    rintro e w10 ⟨v, rfl, hrow, r⟩
    replace hk := hk.new r
    clear r g0 g1 g2
    obtain ⟨L, hL⟩ : ∃ L, belL (a, b, d) = L := ⟨_, rfl⟩
    rw [hL] at hrow
    have hL1 : decide (0 < L.length) = false := by rw [← hL]; exact (bel_len (a, b, d)).1.trans HSL.out
    have hLp : ¬ 0 < L.length := of_decide_eq_false hL1
    have hL4 : L.length ≤ 4 := by rw [← hL]; exact (bel_len (a, b, d)).2
    have HA := Lib.hid (show L.Pairwise (· < ·) by rw [← hL]; exact bel_asc (a, b, d))
    obtain ⟨N, hN⟩ : ∃ N, L.length = N := ⟨_, rfl⟩
    obtain ⟨Al, cl, rfl, hrd, _, _⟩ := hrow.rd (n := N) (by rw [ivs_len, hN])
    rw [hN] at hLp hL4
    have HN := Lib.hid hN
    have HR := Lib.hid hrd
    have h8 := HC.out.below hk.hb
    clear hrow hrd hL1 hL hN
    go_wp2_with fail
    refine (drawTotal h8).mono ?_
    rintro e w11 ⟨v, X, q, rfl, hrow, hx5, r⟩
    replace hk := hk.new r
    have HR2 := Lib.hid (rd_nw HR.out r)
    obtain ⟨Av, cv, rfl, hrx, _, _⟩ := hrow.rd (n := X.length) rfl
    have HX := Lib.hid hrx
    clear hrow hrx r h8
    obtain ⟨T, hT⟩ : ∃ T, totN X q = T := ⟨_, rfl⟩
    have hT0 : 0 ≤ T := by rw [← hT]; exact tot_pos X q
    have HT := Lib.hid hT
    clear hT
    go_wp2_with fail
    refine (ascends_any (S := L) HN (by omega) HA.out HR2.out).mono ?_
    rintro e w12 ⟨rfl, r⟩
    replace hk := hk.new r
    have HX2 := Lib.hid (rd_nw HX.out r)
    clear r
    obtain ⟨g0, g1, g2⟩ := hk.b.cells3 (Below.refl _ _)
    have i1 : ¬ (0 : Int) < (N : Int) := by omega
    go_wp2_with fail
    refine (impIsSlot_any).mono ?_
    rintro e w13 ⟨he, r⟩
    rw [HSL.out] at he
    subst he
    replace hk := hk.new r
    have HX3 := Lib.hid (rd_nw HX2.out r)
    clear r g0 g1 g2
    go_wp2_with fail
    refine (impTotalUsed_any (X := X) (Lib.hid rfl) (by omega) HX3.out).mono ?_
    rintro e w14 ⟨he, r⟩
    rw [HT.out] at he
    subst he
    have hbb := hk.hb.trans (r.mono hk.hb.size)
    have i2 : ¬ T < 0 := by omega
    go_wp2_with fail
    go_ret
    exact ⟨rfl, hbb⟩
end Go.Proofs.Ytignchefkihdaaa
