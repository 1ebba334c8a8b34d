/- Contracts of the models RepeatsOf and IsTwisted (chapter 26). Condition: the slice has at most 2^40 elements. -/
import Derived.Test.YtdhnhhicjjcmdaaSrcN
import Derived.Test.YtdhnhhicjjcmdaaSrcE
namespace Go.Proofs.Ytdhnhhicjjcmdaa
open Go.ChangeShapes Go.WideShapes Go.ChangeAt Go.RowKit
set_option maxRecDepth 100000
section
variable {w : World} {A : Option Addr} {n c : Nat} {X : List Src}
set_option maxHeartbeats 2000000 in
theorem specRepeatsOf_any {id : Int} (hl : Hid (X.length = n)) (hn : n ≤ 1099511627776) (hnc : n ≤ c) (hr : Rd w w.heap.size A (flE srcE X)) :
    Calls Try.prog 20 #[.slice A n c, .int .i64 id] w (fun e w' => ∃ v, e = .returned v ∧ Row w' w.heap.size w'.heap.size 3 v (ivs (rptL X id)) ∧ Below w.heap.size w w') := by
  obtain ⟨ii, hi, hz0, hz1, hz2⟩ := info_parts IntS_info
  have HROW0 := Lib.hid ((Row.made (w := w) w.heap.size #[] 0 3 (Nat.le_refl _) rfl (Nat.zero_le _)).wide (lo' := w.heap.size) (Nat.le_refl _) (hi' := (w.alloc (Obj.cells #[] 3)).heap.size) (by simp))
  have hb0 := alloc_n w (Obj.cells #[] 3)
  cases hB : srcB X with
  | false =>
    have HB := Lib.hid hB
    have HV := Lib.hid (rpt_no (id := id) hB)
    clear hB
    go_enter Try.func20, Try.ntmps20
    go_wp2_with fail
    go_loopw [5, 6] (fun v i wr => i = .int .i64 0 ∧ Hid (Row wr w.heap.size wr.heap.size 3 v (ivs (rptL X id))) ∧ Below w.heap.size w wr) (fun _ _ _ => 0)
    case atStart => exact ⟨rfl, Lib.hid (by rw [HV.out]; exact HROW0.out), hb0⟩
    case round =>
      obtain ⟨rfl, hrow, hb⟩ := hrel
      clear hb0 HROW0
      by_cases hlt : 0 < n
      · have i1 : (0 : Int) < (n : Int) := by omega
        go_wp2_with fail
        refine (specAreSources_any hl hn hnc ((hr.below hb).more hb.size)).mono ?_
        rintro e w1 ⟨rfl, b1⟩
        rw [HB.out]
        have HRF := Lib.hid ((hrow.out.new b1).wide (lo' := w.heap.size) (Nat.le_refl _) b1.size)
        have hb1 := hb.trans (b1.mono hb.size)
        go_wp2_with fail
        go_ret
        exact ⟨_, rfl, HRF.out, hb1⟩
      · have e : n = 0 := by omega
        subst e
        go_wp2_with fail
        go_ret
        exact ⟨_, rfl, hrow.out, hb⟩
  | true =>
    have HB := Lib.hid hB
    have HV := Lib.hid (rpt_ok (id := id) hB)
    clear hB
    go_enter Try.func20, Try.ntmps20
    go_wp2_with fail
    go_loopw [5, 6] (fun v i wr => ∃ k : Nat, k ≤ n ∧ i = .int .i64 k ∧ Hid (Row wr w.heap.size wr.heap.size 3 v (ivs (rptP X id k))) ∧ Below w.heap.size w wr) (fun _ i _ => n - (intOf i).toNat)
    case atStart => exact ⟨0, Nat.zero_le _, rfl, Lib.hid HROW0.out, hb0⟩
    case round =>
      obtain ⟨k, hk, rfl, hrow, hb⟩ := hrel
      clear hb0 HROW0
      by_cases hlt : k < n
      · have hkx : k < X.length := by rw [hl.out]; exact hlt
        have i0 : (0 : Int) ≤ (k : Int) := by omega
        have i1 : (k : Int) < (n : Int) := by omega
        have HS := Lib.hid (rptP_succ (id := id) hkx)
        have HK := Lib.hid (rpt_eq HB.out hkx id)
        obtain ⟨x, hx⟩ : ∃ x, x = X[k].1 := ⟨_, rfl⟩
        have HXE := Lib.hid hx
        rw [← hx] at HS HK
        clear hx
        go_wp2_with fail
        refine (specAreSources_any hl hn hnc ((hr.below hb).more hb.size)).mono ?_
        rintro e w1 ⟨rfl, b1⟩
        rw [HB.out]
        have hb1 := hb.trans (b1.mono hb.size)
        have HR1 := Lib.hid ((hrow.out.new b1).wide (lo' := w.heap.size) (Nat.le_refl _) b1.size)
        obtain ⟨ad, p, rfl, hp, hab, h0, _, _, _⟩ := src_cells ((hr.below hb1).more hb1.size) hkx
        rw [← HXE.out] at h0
        clear b1 hrow hb
        by_cases hxi : x = id
        · have e0 : (x != id) = false := by simpa using hxi
          have HN := Lib.hid (show rptP X id (k + 1) = rptP X id k by rw [HS.out, HK.out, e0]; rfl)
          clear hxi
          go_wp2_with fail
          go_roundw
          case rel => exact ⟨k + 1, by omega, by go_num, by rw [HN.out]; exact HR1, hb1⟩
          case measure => simp [intOf]; omega
        · have e0 : (x != id) = true := by simpa using hxi
          clear hxi
          go_wp2_with fail
          refine (specRootOf_any hl hn hnc ((hr.below hb1).more hb1.size)).mono ?_
          rintro e w2 ⟨rfl, b2⟩
          have hb2 := hb1.trans (b2.mono hb1.size)
          have HR2 := Lib.hid ((HR1.out.new b2).wide (lo' := w.heap.size) (Nat.le_refl _) b2.size)
          have g0 := nwE b2 h0
          obtain ⟨y, hy⟩ : ∃ y, y = rooI X x := ⟨_, rfl⟩
          rw [← hy] at HK
          rw [← hy]
          clear b2 HR1 hb1 hy h0
          by_cases hyi : y = id
          · have e1 : (y == id) = true := by simpa using hyi
            have HN := Lib.hid (show rptP X id (k + 1) = rptP X id k ++ [x] by rw [HS.out, HK.out, e0, e1]; rfl)
            have hsz := hb2.size
            have b3 := alloc_n w2 (Obj.cells #[.int .i64 x] 3)
            have HRW := Lib.hid ((HR2.out.new b3))
            have HMADE := Lib.hid (show Rd _ _ _ (ivs [x]) from Rd.made w2 #[.int .i64 x] 3)
            have HB1 := Lib.hid (hb2.trans (b3.mono hsz))
            have L1 := Lib.hid (show (ivs (rptP X id k)).length + 1 ≤ maxLen ∧ ((ivs (rptP X id k)).length + 1) * 8 ≤ 140737488355328 by have := rpt_len X id k; rw [ivs_len]; unfold maxLen; omega)
            clear hyi b3
            go_wp2_with (at_builtin; (refine wpList_app rfl (.tmp 36) (.tmp 42) 32 rfl 3 ii _ 8 Try.underlying32 hi hz0 hz1 hz2 rfl rfl rfl HRW.out rfl HMADE.out int_one L1.out.1 L1.out.2 (by simp; omega) ?_; intro v1 w3 hrow1 ho1))
            rw [show ivs (rptP X id k) ++ ivs [x] = ivs (rptP X id k ++ [x]) from (ivs_sn _ _).symm, ← HN.out] at hrow1
            have hb3 := HB1.out.trans (ho1.below (Nat.le_refl _) (by simp; omega))
            go_roundw
            case rel => exact ⟨k + 1, by omega, by go_num, Lib.hid hrow1, hb3⟩
            case measure => simp [intOf]; omega
          · have e1 : (y == id) = false := by simpa using hyi
            have HN := Lib.hid (show rptP X id (k + 1) = rptP X id k by rw [HS.out, HK.out, e0, e1]; rfl)
            clear hyi
            go_wp2_with fail
            go_roundw
            case rel => exact ⟨k + 1, by omega, by go_num, by rw [HN.out]; exact HR2, hb2⟩
            case measure => simp [intOf]; omega
      · have e : k = n := by omega
        subst e
        rw [show rptP X id k = rptL X id by rw [HV.out, hl.out]] at hrow
        go_wp2_with fail
        go_ret
        exact ⟨_, rfl, hrow.out, hb⟩
set_option maxHeartbeats 2000000 in
theorem specIsTwisted_any {id : Int} (hl : Hid (X.length = n)) (hn : n ≤ 1099511627776) (hnc : n ≤ c) (hr : Rd w w.heap.size A (flE srcE X)) :
    Calls Try.prog 30 #[.slice A n c, .int .i64 id] w (Tells (twiB X id) w) := by
  cases hk : fndS X id with
  | none =>
    have HV := Lib.hid (twi_none hk)
    have HF := Lib.hid (show fndR (fndS X id) = -1 by rw [hk]; rfl)
    clear hk
    go_enter Try.func30, Try.ntmps30
    go_wp2_with fail
    refine (l26Find_any hl hn hr).mono ?_
    rintro e u ⟨rfl, rfl⟩
    rw [HF.out]
    go_wp2_with fail
    refine (specRootOf_any hl hn hnc hr).mono ?_
    rintro e w1 ⟨rfl, b1⟩
    go_wp2_with fail
    refine (l26Find_any hl hn (hr.below b1)).mono ?_
    rintro e u ⟨rfl, rfl⟩
    obtain ⟨r0, hr0⟩ : ∃ r0, r0 = fndR (fndS X (rooI X id)) := ⟨_, rfl⟩
    obtain ⟨y, hy⟩ : ∃ y, y = rooI X id := ⟨_, rfl⟩
    rw [← hr0, ← hy]
    clear hr0 hy
    go_wp2_with fail
    refine wp_region_quiet (C := fun u9 => Below w1.heap.size w1 u9) (by kernel_rfl) (by kernel_rfl) (Below.refl _ _).drew ?_
    rw [List.toList_toArray]
    go_big_quiet_want
    go_big_quiet_op
    go_big_quiet_on
    go_big_quiet_want
    apply Exists.intro
    refine ⟨fun u hu => ?_, ?_⟩
    · have hu0 := hu
      unfold Oper.quietAt
      go_simp
      try rfl
    simp only [Act.put, List.setIfInBounds_toArray, List.set_cons_zero, List.set_cons_succ]
    go_big_quiet_on
    go_big_quiet_want
    go_big_quiet_op
    go_big_quiet_on
    repeat go_big_quiet_skip
    go_big_quiet_want
    apply Exists.intro
    refine ⟨fun u hu => ?_, ?_⟩
    · have hu0 := hu
      unfold Oper.quietAt
      go_simp
      try rfl
    simp only [Act.put, List.setIfInBounds_toArray, List.set_cons_zero, List.set_cons_succ]
    go_big_quiet_on
    go_big_quiet_want
    go_big_quiet_op
    go_big_quiet_on
    repeat go_big_quiet_skip
    go_big_quiet_want
    apply Exists.intro
    refine ⟨fun u hu => ?_, ?_⟩
    · have hu0 := hu
      unfold Oper.quietAt
      go_simp
      try rfl
    simp only [Act.put, List.setIfInBounds_toArray, List.set_cons_zero, List.set_cons_succ]
    go_big_quiet_on
    go_big_quiet_want
    go_big_quiet_op
    go_big_quiet_on
    repeat go_big_quiet_skip
    go_big_quiet_want
    apply Exists.intro
    refine ⟨fun u hu => ?_, ?_⟩
    · have hu0 := hu
      unfold Oper.quietAt
      go_simp
      try rfl
    simp only [Act.put, List.setIfInBounds_toArray, List.set_cons_zero, List.set_cons_succ]
    go_big_quiet_on
    go_big_quiet_want
    apply Exists.intro
    refine ⟨fun u hu => ?_, ?_⟩
    · have hu0 := hu
      unfold Oper.quietAt
      go_simp
      try rfl
    simp only [Act.put, List.setIfInBounds_toArray, List.set_cons_zero, List.set_cons_succ]
    go_big_quiet_on
    refine wpQuiet_nil ?_
    rintro u9 r
    go_wp2_with fail
    go_ret
    exact ⟨ret_b HV.out.symm, b1.trans (r.mono b1.size)⟩
  | some k =>
    have hkx := (fnd_lt hk).1
    have HF := Lib.hid (show fndR (fndS X id) = (k : Int) by rw [hk]; rfl)
    have i0 : (0 : Int) ≤ (k : Int) := by omega
    have i1 : (k : Int) < (n : Int) := by have := hl.out; omega
    cases hB : srcB X with
    | false =>
      have HV := Lib.hid (twi_no (id := id) hB)
      have HR := Lib.hid (roo_no (id := id) hB)
      clear hB hk
      go_enter Try.func30, Try.ntmps30
      go_wp2_with fail
      refine (l26Find_any hl hn hr).mono ?_
      rintro e u ⟨rfl, rfl⟩
      rw [HF.out]
      go_wp2_with fail
      refine (specRootOf_any hl hn hnc hr).mono ?_
      rintro e w1 ⟨rfl, b1⟩
      rw [HR.out]
      go_wp2_with fail
      refine (l26Find_any hl hn (hr.below b1)).mono ?_
      rintro e u ⟨rfl, rfl⟩
      obtain ⟨r0, hr0⟩ : ∃ r0, r0 = fndR (fndS X 0) := ⟨_, rfl⟩
      rw [← hr0]
      clear hr0
      go_wp2_with fail
      refine wp_region_quiet (C := fun u9 => Below w1.heap.size w1 u9) (by kernel_rfl) (by kernel_rfl) (Below.refl _ _).drew ?_
      rw [List.toList_toArray]
      go_big_quiet_want
      go_big_quiet_op
      go_big_quiet_on
      go_big_quiet_want
      apply Exists.intro
      refine ⟨fun u hu => ?_, ?_⟩
      · have hu0 := hu
        unfold Oper.quietAt
        go_simp
        try rfl
      simp only [Act.put, List.setIfInBounds_toArray, List.set_cons_zero, List.set_cons_succ]
      go_big_quiet_on
      go_big_quiet_want
      go_big_quiet_op
      go_big_quiet_on
      go_big_quiet_want
      go_big_quiet_op
      go_big_quiet_on
      go_big_quiet_want
      apply Exists.intro
      refine ⟨fun u hu => ?_, ?_⟩
      · have hu0 := hu
        unfold Oper.quietAt
        go_simp
        try rfl
      simp only [Act.put, List.setIfInBounds_toArray, List.set_cons_zero, List.set_cons_succ]
      go_big_quiet_on
      go_big_quiet_want
      apply Exists.intro
      refine ⟨fun u hu => ?_, ?_⟩
      · have hu0 := hu
        unfold Oper.quietAt
        go_simp
        try rfl
      simp only [Act.put, List.setIfInBounds_toArray, List.set_cons_zero, List.set_cons_succ]
      go_big_quiet_on
      go_big_quiet_want
      go_big_quiet_op
      go_big_quiet_on
      repeat go_big_quiet_skip
      go_big_quiet_want
      apply Exists.intro
      refine ⟨fun u hu => ?_, ?_⟩
      · have hu0 := hu
        unfold Oper.quietAt
        go_simp
        try rfl
      simp only [Act.put, List.setIfInBounds_toArray, List.set_cons_zero, List.set_cons_succ]
      go_big_quiet_on
      go_big_quiet_want
      go_big_quiet_op
      go_big_quiet_on
      repeat go_big_quiet_skip
      go_big_quiet_want
      apply Exists.intro
      refine ⟨fun u hu => ?_, ?_⟩
      · have hu0 := hu
        unfold Oper.quietAt
        go_simp
        try rfl
      simp only [Act.put, List.setIfInBounds_toArray, List.set_cons_zero, List.set_cons_succ]
      go_big_quiet_on
      go_big_quiet_want
      apply Exists.intro
      refine ⟨fun u hu => ?_, ?_⟩
      · have hu0 := hu
        unfold Oper.quietAt
        go_simp
        try rfl
      simp only [Act.put, List.setIfInBounds_toArray, List.set_cons_zero, List.set_cons_succ]
      go_big_quiet_on
      refine wpQuiet_nil ?_
      rintro u9 r
      go_wp2_with fail
      go_ret
      exact ⟨ret_b HV.out.symm, b1.trans (r.mono b1.size)⟩
    | true =>
      obtain ⟨r, hr9, hrx⟩ : ∃ r, r = rootS X k ∧ r < X.length := ⟨_, rfl, Nat.lt_of_le_of_lt (root_le X k) hkx⟩
      have HV := Lib.hid (show twiB X id = (X[k].2.2.2 != X[r].2.2.2) by rw [twi_some hB hk, getS hkx, ← hr9, getS hrx])
      have HR := Lib.hid (show rooI X id = X[r].1 by rw [roo_some hB hk, ← hr9, getS hrx])
      have HF2 := Lib.hid (show fndR (fndS X X[r].1) = (r : Int) by rw [fnd_self hB hrx]; rfl)
      have hy1 : 1 ≤ X[r].1 := by have := asc_in (src_parts hB).2.1 (k := r) (by simpa using hrx); simp at this; omega
      have j0 : (0 : Int) ≤ (r : Int) := by omega
      have j1 : (r : Int) < (n : Int) := by have := hl.out; omega
      obtain ⟨y, hy⟩ : ∃ y, y = X[r].1 := ⟨_, rfl⟩
      rw [← hy] at HR HF2 hy1
      have e0 : (y != 0) = true := by simp; omega
      clear hB hk hy hr9 hy1
      go_enter Try.func30, Try.ntmps30
      go_wp2_with fail
      refine (l26Find_any hl hn hr).mono ?_
      rintro e u ⟨rfl, rfl⟩
      rw [HF.out]
      go_wp2_with fail
      refine (specRootOf_any hl hn hnc hr).mono ?_
      rintro e w1 ⟨rfl, b1⟩
      rw [HR.out]
      go_wp2_with fail
      refine (l26Find_any hl hn (hr.below b1)).mono ?_
      rintro e u ⟨rfl, rfl⟩
      rw [HF2.out]
      obtain ⟨ad, p, rfl, hp, hab, _, _, _, h3⟩ := src_cells ((hr.below b1).more b1.size) hkx
      obtain ⟨ad', p', e', hp', hab', _, _, _, g3⟩ := src_cells ((hr.below b1).more b1.size) hrx
      injection e' with e'
      subst e'
      obtain ⟨p1, hp1⟩ : ∃ p1, p1 = X[k].2.2.2 := ⟨_, rfl⟩
      obtain ⟨p2, hp2⟩ : ∃ p2, p2 = X[r].2.2.2 := ⟨_, rfl⟩
      rw [← hp1] at h3 HV
      rw [← hp2] at g3 HV
      clear hp1 hp2
      have KE := fun (u : World) (q : Below w1.heap.size w1 u) => show Below w1.heap.size w1 u ∧ u.cell? ⟨p.block, p.off + 3, none⟩ = some (.bool p1) ∧ u.cell? ⟨p'.block, p'.off + 3, none⟩ = some (.bool p2) from ⟨q, nwE q h3, nwE q g3⟩
      go_wp2_with fail
      refine wp_region_quiet (C := fun u => Below w1.heap.size w1 u ∧ u.cell? ⟨p.block, p.off + 3, none⟩ = some (.bool p1) ∧ u.cell? ⟨p'.block, p'.off + 3, none⟩ = some (.bool p2)) (by kernel_rfl) (by kernel_rfl) (KE _ (Below.refl _ _).drew) ?_
      rw [List.toList_toArray]
      go_big_quiet_want
      go_big_quiet_op
      go_big_quiet_on
      go_big_quiet_want
      apply Exists.intro
      refine ⟨fun u hu => ?_, ?_⟩
      · obtain ⟨hu0, hu1, hu2⟩ := hu
        unfold Oper.quietAt
        go_simp
        try rfl
      simp only [Act.put, List.setIfInBounds_toArray, List.set_cons_zero, List.set_cons_succ]
      go_big_quiet_on
      go_big_quiet_want
      go_big_quiet_op
      go_big_quiet_on
      go_big_quiet_want
      go_big_quiet_op
      go_big_quiet_on
      go_big_quiet_want
      apply Exists.intro
      refine ⟨fun u hu => ?_, ?_⟩
      · obtain ⟨hu0, hu1, hu2⟩ := hu
        unfold Oper.quietAt
        go_simp
        try rfl
      simp only [Act.put, List.setIfInBounds_toArray, List.set_cons_zero, List.set_cons_succ]
      go_big_quiet_on
      go_big_quiet_want
      apply Exists.intro
      refine ⟨fun u hu => ?_, ?_⟩
      · obtain ⟨hu0, hu1, hu2⟩ := hu
        unfold Oper.quietAt
        go_simp
        try rfl
      simp only [Act.put, List.setIfInBounds_toArray, List.set_cons_zero, List.set_cons_succ]
      go_big_quiet_on
      go_big_quiet_want
      go_big_quiet_op
      go_big_quiet_on
      go_big_quiet_want
      go_big_quiet_op
      go_big_quiet_on
      go_big_quiet_want
      apply Exists.intro
      refine ⟨fun u hu => ?_, ?_⟩
      · obtain ⟨hu0, hu1, hu2⟩ := hu
        unfold Oper.quietAt
        go_simp
        try rfl
      simp only [Act.put, List.setIfInBounds_toArray, List.set_cons_zero, List.set_cons_succ]
      go_big_quiet_on
      go_big_quiet_want
      apply Exists.intro
      refine ⟨fun u hu => ?_, ?_⟩
      · obtain ⟨hu0, hu1, hu2⟩ := hu
        unfold Oper.quietAt
        go_simp
        try rfl
      simp only [Act.put, List.setIfInBounds_toArray, List.set_cons_zero, List.set_cons_succ]
      go_big_quiet_on
      go_big_quiet_want
      go_big_quiet_op
      go_big_quiet_on
      go_big_quiet_want
      go_big_quiet_op
      go_big_quiet_on
      go_big_quiet_want
      go_big_quiet_op
      go_big_quiet_on
      go_big_quiet_want
      apply Exists.intro
      refine ⟨fun u hu => ?_, ?_⟩
      · obtain ⟨hu0, hu1, hu2⟩ := hu
        unfold Oper.quietAt
        go_simp
        try rfl
      simp only [Act.put, List.setIfInBounds_toArray, List.set_cons_zero, List.set_cons_succ]
      go_big_quiet_on
      go_big_quiet_want
      apply Exists.intro
      refine ⟨fun u hu => ?_, ?_⟩
      · obtain ⟨hu0, hu1, hu2⟩ := hu
        unfold Oper.quietAt
        go_simp
        try rfl
      simp only [Act.put, List.setIfInBounds_toArray, List.set_cons_zero, List.set_cons_succ]
      go_big_quiet_on
      go_big_quiet_want
      apply Exists.intro
      refine ⟨fun u hu => ?_, ?_⟩
      · obtain ⟨hu0, hu1, hu2⟩ := hu
        unfold Oper.quietAt
        go_simp
        try rfl
      simp only [Act.put, List.setIfInBounds_toArray, List.set_cons_zero, List.set_cons_succ]
      go_big_quiet_on
      go_big_quiet_want
      go_big_quiet_op
      go_big_quiet_on
      go_big_quiet_want
      go_big_quiet_op
      go_big_quiet_on
      go_big_quiet_want
      apply Exists.intro
      refine ⟨fun u hu => ?_, ?_⟩
      · obtain ⟨hu0, hu1, hu2⟩ := hu
        unfold Oper.quietAt
        go_simp
        try rfl
      simp only [Act.put, List.setIfInBounds_toArray, List.set_cons_zero, List.set_cons_succ]
      go_big_quiet_on
      go_big_quiet_want
      apply Exists.intro
      refine ⟨fun u hu => ?_, ?_⟩
      · obtain ⟨hu0, hu1, hu2⟩ := hu
        unfold Oper.quietAt
        go_simp
        try rfl
      simp only [Act.put, List.setIfInBounds_toArray, List.set_cons_zero, List.set_cons_succ]
      go_big_quiet_on
      go_big_quiet_want
      apply Exists.intro
      refine ⟨fun u hu => ?_, ?_⟩
      · obtain ⟨hu0, hu1, hu2⟩ := hu
        unfold Oper.quietAt
        go_simp
        try rfl
      simp only [Act.put, List.setIfInBounds_toArray, List.set_cons_zero, List.set_cons_succ]
      go_big_quiet_on
      go_big_quiet_want
      apply Exists.intro
      refine ⟨fun u hu => ?_, ?_⟩
      · obtain ⟨hu0, hu1, hu2⟩ := hu
        unfold Oper.quietAt
        go_simp
        try rfl
      simp only [Act.put, List.setIfInBounds_toArray, List.set_cons_zero, List.set_cons_succ]
      go_big_quiet_on
      go_big_quiet_want
      apply Exists.intro
      refine ⟨fun u hu => ?_, ?_⟩
      · obtain ⟨hu0, hu1, hu2⟩ := hu
        unfold Oper.quietAt
        go_simp
        try rfl
      simp only [Act.put, List.setIfInBounds_toArray, List.set_cons_zero, List.set_cons_succ]
      go_big_quiet_on
      go_big_quiet_want
      apply Exists.intro
      refine ⟨fun u hu => ?_, ?_⟩
      · obtain ⟨hu0, hu1, hu2⟩ := hu
        unfold Oper.quietAt
        go_simp
        try rfl
      simp only [Act.put, List.setIfInBounds_toArray, List.set_cons_zero, List.set_cons_succ]
      go_big_quiet_on
      refine wpQuiet_nil ?_
      rintro u9 ⟨r9, _⟩
      go_wp2_with fail
      go_ret
      exact ⟨ret_b HV.out.symm, b1.trans (r9.mono b1.size)⟩
end
end Go.Proofs.Ytdhnhhicjjcmdaa
