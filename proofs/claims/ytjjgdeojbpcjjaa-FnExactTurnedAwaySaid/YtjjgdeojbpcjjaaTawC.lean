/- Contracts of the code's slices.IndexFunc at rooms and TurnedAway. Condition: the slices have at most 2^40 and 10^9 elements. -/
import Derived.Test.YtjjgdeojbpcjjaaLarMath
import Derived.Test.YtjjgdeojbpcjjaaRooC
import Derived.BigQuiet
import Derived.Deep.Quiet
namespace Go.Proofs.Ytjjgdeojbpcjjaa
open Go.ChangeShapes Go.WideShapes Go.ChangeAt Go.RowKit
set_option maxRecDepth 100000
theorem alloc_t (w : World) (o : Obj) : Below w.heap.size w (w.alloc o) := (Below.refl _ _).alloc (Nat.le_refl _) o
set_option maxHeartbeats 2000000 in
theorem tawF_any {w : World} {g1 g2 n'' c'' m : Nat} {aq : Addr} {a : Int} {x : T2} (hg1 : w.cell? ⟨g1, 0, none⟩ = some (.slice (some aq) n'' c'')) (hg2 : w.cell? ⟨g2, 0, none⟩ = some (.int .i64 m)) (hga : w.cell? (aq.add m) = some (.int .i64 a)) (hm : m < n'') :
    Calls Try.prog 122 #[.agg #[.int .i64 x.1, .int .i64 x.2], .pointer (some ⟨g1, 0, none⟩), .pointer (some ⟨g2, 0, none⟩)] w (Tells (decide (x.1 = a)) w) := by
  have bx := Bx.made w 131 #[.int .i64 x.1, .int .i64 x.2]
  have hb1 : Below w.heap.size w (w.alloc (Obj.cells #[Value.int .i64 x.1, .int .i64 x.2] 131)) := (Below.refl _ _).alloc (Nat.le_refl _) _
  obtain ⟨W1, hW⟩ : ∃ W1, w.alloc (Obj.cells #[Value.int .i64 x.1, .int .i64 x.2] 131) = W1 := ⟨_, rfl⟩
  rw [hW] at bx hb1
  have x0 := bx.at_ (k := 0) (v := .int .i64 x.1) rfl
  have e1 := nwc hb1 hg1
  have e2 := nwc hb1 hg2
  have e3 := nwc hb1 hga
  have m0 : (0 : Int) ≤ (m : Int) := by omega
  have m1 : (m : Int) < (n'' : Int) := by omega
  have HW := Lib.hid hW
  have KE := fun (u : World) (q : Below W1.heap.size W1 u) => show Below W1.heap.size W1 u ∧ u.cell? ⟨w.heap.size, 0, none⟩ = some (.int .i64 x.1) ∧ u.cell? ⟨g1, 0, none⟩ = some (.slice (some aq) n'' c'') ∧ u.cell? ⟨g2, 0, none⟩ = some (.int .i64 m) ∧ u.cell? (aq.add m) = some (.int .i64 a) from ⟨q, nwc q x0, nwc q e1, nwc q e2, nwc q e3⟩
  clear hW bx hg1 hg2 hga
  by_cases he : x.1 = a
  · have HE := Lib.hid (decide_eq_true he)
    have d1 : (x.1 == a) = true := by simpa using he
    clear he
    go_enter Try.func122, Try.ntmps122
    go_wp2_with fail
    rw [HW.out]
    try (go_wp2_with fail)
    refine wp_region_quiet (C := fun u => Below W1.heap.size W1 u ∧ u.cell? ⟨w.heap.size, 0, none⟩ = some (.int .i64 x.1) ∧ u.cell? ⟨g1, 0, none⟩ = some (.slice (some aq) n'' c'') ∧ u.cell? ⟨g2, 0, none⟩ = some (.int .i64 m) ∧ u.cell? (aq.add m) = some (.int .i64 a)) (by kernel_rfl) (by kernel_rfl) (KE _ (Below.refl W1.heap.size W1).drew) ?_
    rw [List.toList_toArray]
    go_big_quiet_want
    apply Exists.intro
    refine ⟨fun u hu => ?_, ?_⟩
    · obtain ⟨hu0, hu1, hu2, hu3, hu4⟩ := hu
      unfold Oper.quietAt
      go_simp
      try rfl
    simp only [Act.put, List.setIfInBounds_toArray, List.set_cons_zero, List.set_cons_succ]
    go_big_quiet_on
    go_big_quiet_want
    apply Exists.intro
    refine ⟨fun u hu => ?_, ?_⟩
    · obtain ⟨hu0, hu1, hu2, hu3, hu4⟩ := hu
      unfold Oper.quietAt
      go_simp
      try rfl
    simp only [Act.put, List.setIfInBounds_toArray, List.set_cons_zero, List.set_cons_succ]
    go_big_quiet_on
    go_big_quiet_want
    apply Exists.intro
    refine ⟨fun u hu => ?_, ?_⟩
    · obtain ⟨hu0, hu1, hu2, hu3, hu4⟩ := hu
      unfold Oper.quietAt
      go_simp
      try rfl
    simp only [Act.put, List.setIfInBounds_toArray, List.set_cons_zero, List.set_cons_succ]
    go_big_quiet_on
    go_big_quiet_want
    apply Exists.intro
    refine ⟨fun u hu => ?_, ?_⟩
    · obtain ⟨hu0, hu1, hu2, hu3, hu4⟩ := hu
      unfold Oper.quietAt
      go_simp
      try rfl
    simp only [Act.put, List.setIfInBounds_toArray, List.set_cons_zero, List.set_cons_succ]
    go_big_quiet_on
    go_big_quiet_want
    apply Exists.intro
    refine ⟨fun u hu => ?_, ?_⟩
    · obtain ⟨hu0, hu1, hu2, hu3, hu4⟩ := hu
      unfold Oper.quietAt
      go_simp
      try rfl
    simp only [Act.put, List.setIfInBounds_toArray, List.set_cons_zero, List.set_cons_succ]
    go_big_quiet_on
    go_big_quiet_want
    apply Exists.intro
    refine ⟨fun u hu => ?_, ?_⟩
    · obtain ⟨hu0, hu1, hu2, hu3, hu4⟩ := hu
      unfold Oper.quietAt
      go_simp
      try rfl
    simp only [Act.put, List.setIfInBounds_toArray, List.set_cons_zero, List.set_cons_succ]
    go_big_quiet_on
    go_big_quiet_want
    apply Exists.intro
    refine ⟨fun u hu => ?_, ?_⟩
    · obtain ⟨hu0, hu1, hu2, hu3, hu4⟩ := hu
      unfold Oper.quietAt
      go_simp
      try rfl
    simp only [Act.put, List.setIfInBounds_toArray, List.set_cons_zero, List.set_cons_succ]
    go_big_quiet_on
    go_big_quiet_want
    apply Exists.intro
    refine ⟨fun u hu => ?_, ?_⟩
    · obtain ⟨hu0, hu1, hu2, hu3, hu4⟩ := hu
      unfold Oper.quietAt
      go_simp
      try rfl
    simp only [Act.put, List.setIfInBounds_toArray, List.set_cons_zero, List.set_cons_succ]
    go_big_quiet_on
    refine wpQuiet_nil ?_
    rintro u ⟨k9, _⟩
    go_wp2_with fail
    go_ret
    exact ⟨ret_b HE.out.symm, hb1.trans (k9.mono hb1.size)⟩
  · have HE := Lib.hid (decide_eq_false he)
    have d1 : (x.1 == a) = false := by simpa using he
    clear he
    go_enter Try.func122, Try.ntmps122
    go_wp2_with fail
    rw [HW.out]
    try (go_wp2_with fail)
    refine wp_region_quiet (C := fun u => Below W1.heap.size W1 u ∧ u.cell? ⟨w.heap.size, 0, none⟩ = some (.int .i64 x.1) ∧ u.cell? ⟨g1, 0, none⟩ = some (.slice (some aq) n'' c'') ∧ u.cell? ⟨g2, 0, none⟩ = some (.int .i64 m) ∧ u.cell? (aq.add m) = some (.int .i64 a)) (by kernel_rfl) (by kernel_rfl) (KE _ (Below.refl W1.heap.size W1).drew) ?_
    rw [List.toList_toArray]
    go_big_quiet_want
    apply Exists.intro
    refine ⟨fun u hu => ?_, ?_⟩
    · obtain ⟨hu0, hu1, hu2, hu3, hu4⟩ := hu
      unfold Oper.quietAt
      go_simp
      try rfl
    simp only [Act.put, List.setIfInBounds_toArray, List.set_cons_zero, List.set_cons_succ]
    go_big_quiet_on
    go_big_quiet_want
    apply Exists.intro
    refine ⟨fun u hu => ?_, ?_⟩
    · obtain ⟨hu0, hu1, hu2, hu3, hu4⟩ := hu
      unfold Oper.quietAt
      go_simp
      try rfl
    simp only [Act.put, List.setIfInBounds_toArray, List.set_cons_zero, List.set_cons_succ]
    go_big_quiet_on
    go_big_quiet_want
    apply Exists.intro
    refine ⟨fun u hu => ?_, ?_⟩
    · obtain ⟨hu0, hu1, hu2, hu3, hu4⟩ := hu
      unfold Oper.quietAt
      go_simp
      try rfl
    simp only [Act.put, List.setIfInBounds_toArray, List.set_cons_zero, List.set_cons_succ]
    go_big_quiet_on
    go_big_quiet_want
    apply Exists.intro
    refine ⟨fun u hu => ?_, ?_⟩
    · obtain ⟨hu0, hu1, hu2, hu3, hu4⟩ := hu
      unfold Oper.quietAt
      go_simp
      try rfl
    simp only [Act.put, List.setIfInBounds_toArray, List.set_cons_zero, List.set_cons_succ]
    go_big_quiet_on
    go_big_quiet_want
    apply Exists.intro
    refine ⟨fun u hu => ?_, ?_⟩
    · obtain ⟨hu0, hu1, hu2, hu3, hu4⟩ := hu
      unfold Oper.quietAt
      go_simp
      try rfl
    simp only [Act.put, List.setIfInBounds_toArray, List.set_cons_zero, List.set_cons_succ]
    go_big_quiet_on
    go_big_quiet_want
    apply Exists.intro
    refine ⟨fun u hu => ?_, ?_⟩
    · obtain ⟨hu0, hu1, hu2, hu3, hu4⟩ := hu
      unfold Oper.quietAt
      go_simp
      try rfl
    simp only [Act.put, List.setIfInBounds_toArray, List.set_cons_zero, List.set_cons_succ]
    go_big_quiet_on
    go_big_quiet_want
    apply Exists.intro
    refine ⟨fun u hu => ?_, ?_⟩
    · obtain ⟨hu0, hu1, hu2, hu3, hu4⟩ := hu
      unfold Oper.quietAt
      go_simp
      try rfl
    simp only [Act.put, List.setIfInBounds_toArray, List.set_cons_zero, List.set_cons_succ]
    go_big_quiet_on
    go_big_quiet_want
    apply Exists.intro
    refine ⟨fun u hu => ?_, ?_⟩
    · obtain ⟨hu0, hu1, hu2, hu3, hu4⟩ := hu
      unfold Oper.quietAt
      go_simp
      try rfl
    simp only [Act.put, List.setIfInBounds_toArray, List.set_cons_zero, List.set_cons_succ]
    go_big_quiet_on
    refine wpQuiet_nil ?_
    rintro u ⟨k9, _⟩
    go_wp2_with fail
    go_ret
    exact ⟨ret_b HE.out.symm, hb1.trans (k9.mono hb1.size)⟩
set_option maxHeartbeats 2000000 in
theorem idxRoom_any {w : World} {A : Option Addr} {n c g1 g2 n'' c'' m : Nat} {aq : Addr} {a : Int} {X : List T2} (hl : Hid (X.length = n)) (hn : n ≤ 1099511627776) (hasc : Hid (ascB (roIds X) = true)) (hr : Rd w w.heap.size A (t2s X)) (hg1 : w.cell? ⟨g1, 0, none⟩ = some (.slice (some aq) n'' c'')) (hg2 : w.cell? ⟨g2, 0, none⟩ = some (.int .i64 m)) (hga : w.cell? (aq.add m) = some (.int .i64 a)) (hm : m < n'') :
    Calls Try.prog 121 #[.slice A n c, .func (.func 122) #[] #[.pointer (some ⟨g1, 0, none⟩), .pointer (some ⟨g2, 0, none⟩)]] w (fun e w' => e = .returned (.int .i64 (optI (lstI X a n))) ∧ Below w.heap.size w w') := by
  have HG := Lib.hid (And.intro hg1 (And.intro hg2 hga))
  clear hg1 hg2 hga
  go_enter Try.func121, Try.ntmps121
  go_wp2_with fail
  go_loopw [8] (fun i wr => ∃ k : Nat, k ≤ n ∧ i = .int .i64 k ∧ Below w.heap.size w wr ∧ Hid (∀ j, j < k → (X.getD j (0, 0)).1 ≠ a)) (fun i _ => n - (intOf i).toNat)
  case atStart => exact ⟨0, Nat.zero_le _, rfl, Below.refl _ _, Lib.hid (fun j hj => absurd hj (Nat.not_lt_zero _))⟩
  case round =>
    obtain ⟨k, hk, rfl, hbw, hno⟩ := hrel
    have hsz := hbw.size
    by_cases hlt : k < n
    · have hkz : k < X.length := by rw [hl.out]; exact hlt
      obtain ⟨ad, p, rfl, hp, hab, h0, h1⟩ := t2_cells ((hr.below hbw).more hsz) hkz
      have hD := rD hkz
      have HYS := Lib.hid (fun (h : (X.getD k (0, 0)).1 = a) => lst_at hasc.out hkz h)
      obtain ⟨x, hx⟩ : ∃ x, x = X[k] := ⟨_, rfl⟩
      rw [← hx] at h0 h1 hD
      have HD := Lib.hid hD
      have i0 : (0 : Int) ≤ (k : Int) := by omega
      have i1 : (k : Int) < (n : Int) := by omega
      have g1' := nwc hbw HG.out.1
      have g2' := nwc hbw HG.out.2.1
      have g3' := nwc hbw HG.out.2.2
      have HG2 := Lib.hid (And.intro g1' (And.intro g2' g3'))
      clear hx hD g1' g2' g3'
      by_cases he : x.1 = a
      · have HV := Lib.hid (HYS.out (by rw [HD.out]; exact he))
        have HE := Lib.hid (decide_eq_true he)
        clear he
        go_wp2_with fail
        refine (tawF_any HG2.out.1 HG2.out.2.1 HG2.out.2.2 hm).mono ?_
        rintro e w1 ⟨rfl, r⟩
        rw [HE.out]
        go_wp2_with fail
        go_ret
        exact ⟨ret_i (by rw [← hl.out, HV.out]; rfl), hbw.trans (r.mono hsz)⟩
      · have HN := Lib.hid (show ∀ j, j < k + 1 → (X.getD j (0, 0)).1 ≠ a from fun j hj => by
          by_cases e : j = k
          · rw [e, HD.out]; exact he
          · exact hno.out j (by omega))
        have HE := Lib.hid (decide_eq_false he)
        clear he
        go_wp2_with fail
        refine (tawF_any HG2.out.1 HG2.out.2.1 HG2.out.2.2 hm).mono ?_
        rintro e w1 ⟨rfl, r⟩
        rw [HE.out]
        have q := hbw.trans (r.mono hsz)
        go_wp2_with fail
        go_roundw
        case rel => exact ⟨k + 1, by omega, by go_num, q, HN⟩
        case measure => simp [intOf]; omega
    · have e : k = n := by omega
      subst e
      have HV := Lib.hid (lst_none hno.out)
      go_wp2_with fail
      go_ret
      exact ⟨ret_i (by rw [HV.out]; rfl), hbw⟩
set_option maxHeartbeats 4000000 in
theorem impTurnedAway_any {w : World} {A A' A'' : Option Addr} {n c n' c' n'' c'' : Nat} {X : List T2} {H S : List Int} (hl : Hid (X.length = n)) (hn : n ≤ 1099511627776) (hl' : Hid (H.length = n')) (hn' : n' ≤ 1000000000) (hl'' : Hid (S.length = n'')) (hn'' : n'' ≤ 1000000000) (hr : Rd w w.heap.size A (t2s X)) (hr' : Rd w w.heap.size A' (ivs H)) (hr'' : Rd w w.heap.size A'' (ivs S)) :
    Calls Try.prog 63 #[.slice A n c, .slice A' n' c', .slice A'' n'' c''] w (fun e w' => e = .returned (.int .i64 (tawI X H S)) ∧ Below w.heap.size w w') := by
  have bx := Bx.made w 27 #[.slice A'' n'' c'']
  have hba := alloc_t w (Obj.cells #[.slice A'' n'' c''] 27)
  obtain ⟨W1, hW⟩ : ∃ v : World, w.alloc (Obj.cells #[.slice A'' n'' c''] 27) = v := ⟨_, rfl⟩
  rw [hW] at bx hba
  have hs1 : W1.heap.size = w.heap.size + 1 := by rw [← hW]; exact World.size_alloc ..
  have x0 := bx.at_ (k := 0) (v := .slice A'' n'' c'') rfl
  have HW := Lib.hid hW
  have HX := Lib.hid x0
  clear hW bx
  cases hB : roB X with
  | false =>
    have HV := Lib.hid (taw_noB (H := H) (S := S) hB)
    have HB := Lib.hid hB
    clear hB
    go_enter Try.func63, Try.ntmps63
    go_wp2_with fail
    try rw [HW.out]
    refine (impAreRooms_any hl hn ((hr.below hba).more hba.size)).mono ?_
    rintro e w1 ⟨rfl, hb1⟩
    rw [HB.out]
    go_wp2_with fail
    go_ret
    exact ⟨ret_i HV.out.symm, hba.trans (hb1.mono hba.size)⟩
  | true =>
    have HB := Lib.hid hB
    clear hB
    by_cases hne : n'' ≠ n'
    · have HV := Lib.hid (taw_noL (X := X) (H := H) (S := S) (by rw [hl'.out, hl''.out]; exact hne))
      have h1 : ¬ (n'' : Int) = (n' : Int) := by omega
      have h2 : ((n'' : Int) != (n' : Int)) = true := by simpa using h1
      go_enter Try.func63, Try.ntmps63
      go_wp2_with fail
      try rw [HW.out]
      refine (impAreRooms_any hl hn ((hr.below hba).more hba.size)).mono ?_
      rintro e w1 ⟨rfl, hb1⟩
      rw [HB.out]
      have y0 := nwc hb1 x0
      go_wp2_with fail
      go_ret
      exact ⟨ret_i HV.out.symm, hba.trans (hb1.mono hba.size)⟩
    have hne := Decidable.not_not.1 hne
    subst hne
    have HASC := Lib.hid (ro_parts HB.out).1
    go_enter Try.func63, Try.ntmps63
    go_wp2_with fail
    try rw [HW.out]
    refine (impAreRooms_any hl hn ((hr.below hba).more hba.size)).mono ?_
    rintro e w1 ⟨rfl, hb1⟩
    rw [HB.out]
    have y0 := nwc hb1 x0
    go_wp2_with fail
    go_loopw [7, 23] (fun m i wr => ∃ (k : Nat) (z : Int), k ≤ n'' ∧ i = .int .i64 k ∧ m = .int .i64 z ∧ Hid (tawS X H S k = some z) ∧ Below W1.heap.size W1 wr) (fun _ i _ => n'' - (intOf i).toNat)
    case atStart => exact ⟨0, 0, Nat.zero_le _, rfl, rfl, Lib.hid rfl, hb1⟩
    case round =>
      obtain ⟨k, z, hk, rfl, rfl, ht, hbw⟩ := hrel
      have hb := hba.trans (hbw.mono hba.size)
      have hsz := hb.size
      by_cases hlt : k < n''
      · have hkh : k < H.length := by rw [hl'.out]; exact hlt
        have hks : k < S.length := by rw [hl''.out]; exact hlt
        have hzb := taw_in HB.out ht.out
        have hrr := (hr.below hb).more hsz
        obtain ⟨ah, rfl, hah, g0⟩ := ivs_at ((hr'.below hb).more hsz) hkh
        obtain ⟨aq, rfl, has, f0⟩ := ivs_at ((hr''.below hb).more hsz) hks
        have hDh : H.getD k 0 = H[k] := by simp [List.getD, List.getElem?_eq_getElem hkh]
        have hDs : S.getD k 0 = S[k] := by simp [List.getD, List.getElem?_eq_getElem hks]
        obtain ⟨h, hh⟩ : ∃ h, h = H[k] := ⟨_, rfl⟩
        obtain ⟨a, ha⟩ : ∃ h, h = S[k] := ⟨_, rfl⟩
        rw [← hh] at g0 hDh
        rw [← ha] at f0 hDs
        have i0 : (0 : Int) ≤ (k : Int) := by omega
        have i1 : (k : Int) < (n'' : Int) := by omega
        have HDh := Lib.hid hDh
        have HDs := Lib.hid hDs
        have HSK := Lib.hid hks
        have hba2 := alloc_t wr (Obj.cells #[.int .i64 k] 3)
        have bk := Bx.made wr 3 #[.int .i64 k]
        obtain ⟨W2, hW2⟩ : ∃ v : World, wr.alloc (Obj.cells #[.int .i64 k] 3) = v := ⟨_, rfl⟩
        rw [hW2] at hba2 bk
        have HW2 := Lib.hid hW2
        have k0 := bk.at_ (k := 0) (v := .int .i64 k) rfl
        have z0 := nwc hba2 (nwc hbw HX.out)
        have f1 := nwc hba2 f0
        have hr2 := (hrr.below hba2).more hba2.size
        have hb2 := hb.trans (hba2.mono hsz)
        have HF := Lib.hid (And.intro z0 (And.intro k0 f1))
        clear hh ha hDh hDs hW2 bk k0 z0 f1
        go_wp2_with fail
        rw [HW2.out]
        try (go_wp2_with fail)
        refine (idxRoom_any hl hn HASC hr2 HF.out.1 HF.out.2.1 HF.out.2.2 hlt).mono ?_
        rintro e w4 ⟨rfl, hb4⟩
        have hb5 := hb2.trans (hb4.mono hb2.size)
        have hr4 := (hr2.below hb4).more hb4.size
        cases hq : lstI X a n with
        | none =>
          rw [show optI none = -1 from rfl]
          have HV := Lib.hid (taw_noS (k := k + 1) HSK.out (taw_bad1 (H := H) HDs.out (by rw [hl.out]; exact hq)))
          clear hq
          go_wp2_with fail
          go_ret
          exact ⟨ret_i HV.out.symm, hb5⟩
        | some b =>
          rw [show optI (some b) = (b : Int) from rfl]
          have HQ := Lib.hid (show lstI X a X.length = some b by rw [hl.out]; exact hq)
          have hbj := (lst_lt hq).1
          have hbz : b < X.length := by rw [hl.out]; exact hbj
          have b0 : (0 : Int) ≤ (b : Int) := by omega
          have b1 : (b : Int) < (n : Int) := by omega
          have b2 : ¬ (b : Int) < 0 := by omega
          clear hq
          cases hi : inr h 0 10000 with
          | false =>
            have HV := Lib.hid (taw_noS (k := k + 1) HSK.out (taw_bad2 (X := X) (S := S) HDh.out hi))
            have HI := Lib.hid hi
            clear hi
            go_wp2_with fail
            refine (inRange_any _ _ _ _).mono ?_
            rintro e u9 ⟨rfl, rfl⟩
            rw [HI.out]
            go_wp2_with fail
            go_ret
            exact ⟨ret_i HV.out.symm, hb5⟩
          | true =>
            obtain ⟨ad, p, rfl, hp, hab, h0, h1⟩ := t2_cells hr4 hbz
            have hD := rD hbz
            have hseat := (ro_parts HB.out).2.1 X[b] (List.getElem_mem _)
            obtain ⟨x, hx⟩ : ∃ x, x = X[b] := ⟨_, rfl⟩
            rw [← hx] at h0 h1 hD hseat
            have HP := Lib.hid (taw_ok HDs.out HDh.out hi HQ.out hD ht.out)
            have HI := Lib.hid hi
            have hh4 : 0 ≤ h ∧ h ≤ 10000 := by unfold inr at hi; simpa using hi
            obtain ⟨y, hy⟩ : ∃ y, mx 0 (h - x.2) = y := ⟨_, rfl⟩
            have hyb : 0 ≤ y ∧ y ≤ 10000 := by rw [← hy]; unfold mx; split <;> omega
            rw [hy] at HP
            have HY := Lib.hid hy
            have w1 : IntKind.i64.wrap (h - x.2) = h - x.2 := IntWalk.i64_in _ (by omega)
            have w2 : IntKind.i64.wrap (z + y) = z + y := IntWalk.i64_in _ (by omega)
            have hb6 := (Below.trans hb5 ((Below.refl w4.heap.size w4).alloc (Nat.le_refl _) (Obj.cells #[Value.int .i64 (h - x.2)] 3) |>.mono hb5.size))
            have hb7 : Below W1.heap.size W1 (w4.alloc (Obj.cells #[Value.int .i64 (h - x.2)] 3)) := Below.trans (hbw.trans ((hba2.trans (hb4.mono hba2.size)).mono hbw.size)) ((Below.refl w4.heap.size w4).alloc (Nat.le_refl _) (Obj.cells #[Value.int .i64 (h - x.2)] 3) |>.mono (hbw.trans ((hba2.trans (hb4.mono hba2.size)).mono hbw.size)).size)
            clear hi hx hD hy
            go_wp2_with fail
            refine (inRange_any _ _ _ _).mono ?_
            rintro e u9 ⟨rfl, rfl⟩
            rw [HI.out]
            go_wp2_with fail
            refine (max_any _ _ _).mono ?_
            rintro e u9 ⟨rfl, rfl⟩
            rw [HY.out]
            go_wp2_with fail
            go_roundw
            case rel => exact ⟨k + 1, z + y, by omega, by go_num, by go_num, HP, hb7⟩
            case measure => simp [intOf]; omega
      · have e : k = n'' := by omega
        subst e
        have HV := Lib.hid (taw_end (X := X) (H := H) (S := S) HB.out (by rw [hl'.out, hl''.out]) (by rw [hl''.out]; exact ht.out))
        go_wp2_with fail
        go_ret
        exact ⟨ret_i HV.out.symm, hb⟩
end Go.Proofs.Ytjjgdeojbpcjjaa
