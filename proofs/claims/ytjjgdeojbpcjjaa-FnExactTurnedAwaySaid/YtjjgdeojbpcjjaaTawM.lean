/- Contract of the model's TurnedAway. Condition: the slices have at most 2^40 and 10^9 elements. -/
import Derived.Test.YtjjgdeojbpcjjaaLarMath
import Derived.Test.YtjjgdeojbpcjjaaRooM
namespace Go.Proofs.Ytjjgdeojbpcjjaa
open Go.ChangeShapes Go.WideShapes Go.ChangeAt Go.RowKit
set_option maxRecDepth 100000
set_option maxHeartbeats 8000000 in
theorem specTurnedAway_any {w : World} {A A' A'' : Option Addr} {n c n' c' n'' c'' : Nat} {X : List T2} {H S : List Int} (hl : Hid (X.length = n)) (hn : n ≤ 1099511627776) (hl' : Hid (H.length = n')) (hn' : n' ≤ 1000000000) (hl'' : Hid (S.length = n'')) (hn'' : n'' ≤ 1000000000) (hr : Rd w w.heap.size A (t2s X)) (hr' : Rd w w.heap.size A' (ivs H)) (hr'' : Rd w w.heap.size A'' (ivs S)) :
    Calls Try.prog 61 #[.slice A n c, .slice A' n' c', .slice A'' n'' c''] w (fun e w' => e = .returned (.int .i64 (tawI X H S)) ∧ Below w.heap.size w w') := by
  by_cases hne : n'' ≠ n'
  · have HV := Lib.hid (taw_noL (X := X) (H := H) (S := S) (by rw [hl'.out, hl''.out]; exact hne))
    have h1 : ¬ (n'' : Int) = (n' : Int) := by omega
    have h2 : ((n'' : Int) != (n' : Int)) = true := by simpa using h1
    go_enter Try.func61, Try.ntmps61
    go_wp2_with fail
    go_ret
    exact ⟨ret_i HV.out.symm, Below.refl _ _⟩
  have hne := Decidable.not_not.1 hne
  subst hne
  cases hB : roB X with
  | false =>
    have HV := Lib.hid (taw_noB (H := H) (S := S) hB)
    have HB := Lib.hid hB
    clear hB
    go_enter Try.func61, Try.ntmps61
    go_wp2_with fail
    refine (specAreRooms_any hl hn hr).mono ?_
    rintro e w1 ⟨rfl, hb1⟩
    rw [HB.out]
    go_wp2_with fail
    go_ret
    exact ⟨ret_i HV.out.symm, hb1⟩
  | true =>
    have HB := Lib.hid hB
    clear hB
    go_enter Try.func61, Try.ntmps61
    go_wp2_with fail
    refine (specAreRooms_any hl hn hr).mono ?_
    rintro e w1 ⟨rfl, hb1⟩
    rw [HB.out]
    go_wp2_with fail
    go_loopw [7, 8] (fun m i wr => ∃ (k : Nat) (z : Int), k ≤ n'' ∧ i = .int .i64 k ∧ m = .int .i64 z ∧ Hid (tawS X H S k = some z) ∧ Below w.heap.size w wr) (fun _ i _ => n'' - (intOf i).toNat)
    case atStart => exact ⟨0, 0, Nat.zero_le _, rfl, rfl, Lib.hid rfl, hb1⟩
    case round =>
      obtain ⟨k, z, hk, rfl, rfl, ht, hb⟩ := hrel
      have hsz := hb.size
      by_cases hlt : k < n''
      · have hkh : k < H.length := by rw [hl'.out]; exact hlt
        have hks : k < S.length := by rw [hl''.out]; exact hlt
        have hzb := taw_in HB.out ht.out
        have hrr := (hr.below hb).more hsz
        obtain ⟨ah, rfl, hah, g0⟩ := ivs_at ((hr'.below hb).more hsz) hkh
        obtain ⟨aq, rfl, has, f0⟩ := ivs_at ((hr''.below hb).more hsz) hks
        have hDh : H.getD k 0 = H[k] := by simp [List.getD, List.getElem?_eq_getElem hkh]
        have hDs : S.getD k 0 = S[k] := by simp [List.getD, List.getElem?_eq_getElem hks]
        obtain ⟨h, hh⟩ : ∃ h, h = H[k] := ⟨_, rfl⟩
        obtain ⟨a, ha⟩ : ∃ h, h = S[k] := ⟨_, rfl⟩
        rw [← hh] at g0 hDh
        rw [← ha] at f0 hDs
        have i0 : (0 : Int) ≤ (k : Int) := by omega
        have i1 : (k : Int) < (n'' : Int) := by omega
        have HDh := Lib.hid hDh
        have HDs := Lib.hid hDs
        have HSK := Lib.hid hks
        clear hh ha hDh hDs
        go_wp2_with fail
        have hb0 := Below.refl wr.heap.size wr
        obtain ⟨wo, hwo⟩ : ∃ wo, wo = wr := ⟨_, rfl⟩
        subst hwo
        go_loopw [9, 10] (fun o i wr => ∃ j : Nat, j ≤ n ∧ i = .int .i64 j ∧ o = .int .i64 (optI (lstI X a j)) ∧ Below wo.heap.size wo wr) (fun _ i _ => n - (intOf i).toNat)
        case atStart => exact ⟨0, Nat.zero_le _, rfl, rfl, by first | exact hb0 | exact Below.refl _ _⟩
        case round =>
          obtain ⟨j, hj, rfl, rfl, hb3⟩ := hrel
          by_cases hlj : j < n
          · have hjz : j < X.length := by rw [hl.out]; exact hlj
            obtain ⟨ad, p, rfl, hp, hab, h0, h1⟩ := t2_cells ((hrr.below hb3).more hb3.size) hjz
            have f1 := nwc2 hb3 f0
            have hD := rD hjz
            obtain ⟨x, hx⟩ : ∃ x, x = X[j] := ⟨_, rfl⟩
            rw [← hx] at h0 h1 hD
            have j0 : (0 : Int) ≤ (j : Int) := by omega
            have j1 : (j : Int) < (n : Int) := by omega
            have HD := Lib.hid hD
            obtain ⟨o, ho⟩ : ∃ o, optI (lstI X a j) = o := ⟨_, rfl⟩
            rw [ho]
            have HO := Lib.hid ho
            clear hx hD ho
            have KE := fun (u : World) (q : Below wr.heap.size wr u) => show Below wr.heap.size wr u ∧ u.cell? p = some (.int .i64 x.1) ∧ u.cell? (aq.add k) = some (.int .i64 a) from ⟨q, nwc2 q h0, nwc2 q f1⟩
            by_cases he : x.1 = a
            · have HL := Lib.hid (lst_hit HD.out he)
              have d1 : (x.1 == a) = true := by simpa using he
              clear he
              go_wp2_with fail
              refine wp_region_quiet (C := fun u => Below wr.heap.size wr u ∧ u.cell? p = some (.int .i64 x.1) ∧ u.cell? (aq.add k) = some (.int .i64 a)) (by kernel_rfl) (by kernel_rfl) (KE _ (Below.refl wr.heap.size wr).drew) ?_
              rw [List.toList_toArray]
              go_big_quiet_want
              go_big_quiet_op
              go_big_quiet_on
              go_big_quiet_want
              go_big_quiet_op
              go_big_quiet_on
              go_big_quiet_want
              apply Exists.intro
              refine ⟨fun u hu => ?_, ?_⟩
              · obtain ⟨hu0, hu1, hu2⟩ := hu
                unfold Oper.quietAt
                go_simp
                try rfl
              simp only [Act.put, List.setIfInBounds_toArray, List.set_cons_zero, List.set_cons_succ]
              go_big_quiet_on
              go_big_quiet_want
              apply Exists.intro
              refine ⟨fun u hu => ?_, ?_⟩
              · obtain ⟨hu0, hu1, hu2⟩ := hu
                unfold Oper.quietAt
                go_simp
                try rfl
              simp only [Act.put, List.setIfInBounds_toArray, List.set_cons_zero, List.set_cons_succ]
              go_big_quiet_on
              go_big_quiet_want
              apply Exists.intro
              refine ⟨fun u hu => ?_, ?_⟩
              · obtain ⟨hu0, hu1, hu2⟩ := hu
                unfold Oper.quietAt
                go_simp
                try rfl
              simp only [Act.put, List.setIfInBounds_toArray, List.set_cons_zero, List.set_cons_succ]
              go_big_quiet_on
              go_big_quiet_want
              go_big_quiet_op
              go_big_quiet_on
              go_big_quiet_want
              go_big_quiet_op
              go_big_quiet_on
              go_big_quiet_want
              apply Exists.intro
              refine ⟨fun u hu => ?_, ?_⟩
              · obtain ⟨hu0, hu1, hu2⟩ := hu
                unfold Oper.quietAt
                go_simp
                try rfl
              simp only [Act.put, List.setIfInBounds_toArray, List.set_cons_zero, List.set_cons_succ]
              go_big_quiet_on
              go_big_quiet_want
              apply Exists.intro
              refine ⟨fun u hu => ?_, ?_⟩
              · obtain ⟨hu0, hu1, hu2⟩ := hu
                unfold Oper.quietAt
                go_simp
                try rfl
              simp only [Act.put, List.setIfInBounds_toArray, List.set_cons_zero, List.set_cons_succ]
              go_big_quiet_on
              go_big_quiet_want
              apply Exists.intro
              refine ⟨fun u hu => ?_, ?_⟩
              · obtain ⟨hu0, hu1, hu2⟩ := hu
                unfold Oper.quietAt
                go_simp
                try rfl
              simp only [Act.put, List.setIfInBounds_toArray, List.set_cons_zero, List.set_cons_succ]
              go_big_quiet_on
              refine wpQuiet_nil ?_
              rintro u ⟨k9, _⟩
              go_wp2_with fail
              go_roundw
              case rel => exact ⟨j + 1, by omega, by go_num, by rw [HL.out]; rfl, hb3.trans (k9.mono hb3.size)⟩
              case measure => simp [intOf]; omega
            · have HL := Lib.hid (lst_no (a := a) HD.out he)
              have d1 : (x.1 == a) = false := by simpa using he
              clear he
              go_wp2_with fail
              refine wp_region_quiet (C := fun u => Below wr.heap.size wr u ∧ u.cell? p = some (.int .i64 x.1) ∧ u.cell? (aq.add k) = some (.int .i64 a)) (by kernel_rfl) (by kernel_rfl) (KE _ (Below.refl wr.heap.size wr).drew) ?_
              rw [List.toList_toArray]
              go_big_quiet_want
              go_big_quiet_op
              go_big_quiet_on
              go_big_quiet_want
              go_big_quiet_op
              go_big_quiet_on
              go_big_quiet_want
              apply Exists.intro
              refine ⟨fun u hu => ?_, ?_⟩
              · obtain ⟨hu0, hu1, hu2⟩ := hu
                unfold Oper.quietAt
                go_simp
                try rfl
              simp only [Act.put, List.setIfInBounds_toArray, List.set_cons_zero, List.set_cons_succ]
              go_big_quiet_on
              go_big_quiet_want
              apply Exists.intro
              refine ⟨fun u hu => ?_, ?_⟩
              · obtain ⟨hu0, hu1, hu2⟩ := hu
                unfold Oper.quietAt
                go_simp
                try rfl
              simp only [Act.put, List.setIfInBounds_toArray, List.set_cons_zero, List.set_cons_succ]
              go_big_quiet_on
              go_big_quiet_want
              apply Exists.intro
              refine ⟨fun u hu => ?_, ?_⟩
              · obtain ⟨hu0, hu1, hu2⟩ := hu
                unfold Oper.quietAt
                go_simp
                try rfl
              simp only [Act.put, List.setIfInBounds_toArray, List.set_cons_zero, List.set_cons_succ]
              go_big_quiet_on
              go_big_quiet_want
              go_big_quiet_op
              go_big_quiet_on
              go_big_quiet_want
              go_big_quiet_op
              go_big_quiet_on
              go_big_quiet_want
              apply Exists.intro
              refine ⟨fun u hu => ?_, ?_⟩
              · obtain ⟨hu0, hu1, hu2⟩ := hu
                unfold Oper.quietAt
                go_simp
                try rfl
              simp only [Act.put, List.setIfInBounds_toArray, List.set_cons_zero, List.set_cons_succ]
              go_big_quiet_on
              go_big_quiet_want
              apply Exists.intro
              refine ⟨fun u hu => ?_, ?_⟩
              · obtain ⟨hu0, hu1, hu2⟩ := hu
                unfold Oper.quietAt
                go_simp
                try rfl
              simp only [Act.put, List.setIfInBounds_toArray, List.set_cons_zero, List.set_cons_succ]
              go_big_quiet_on
              go_big_quiet_want
              apply Exists.intro
              refine ⟨fun u hu => ?_, ?_⟩
              · obtain ⟨hu0, hu1, hu2⟩ := hu
                unfold Oper.quietAt
                go_simp
                try rfl
              simp only [Act.put, List.setIfInBounds_toArray, List.set_cons_zero, List.set_cons_succ]
              go_big_quiet_on
              refine wpQuiet_nil ?_
              rintro u ⟨k9, _⟩
              go_wp2_with fail
              go_roundw
              case rel => exact ⟨j + 1, by omega, by go_num, by rw [HL.out, HO.out], hb3.trans (k9.mono hb3.size)⟩
              case measure => simp [intOf]; omega
          · have e : j = n := by omega
            subst e
            have hb4 := hb.trans (hb3.mono hsz)
            have hz4 := hb4.size
            have g1 := nwc2 hb3 g0
            cases hq : lstI X a j with
            | none =>
              rw [show optI none = -1 from rfl]
              have HV := Lib.hid (taw_noS (k := k + 1) HSK.out (taw_bad1 (H := H) HDs.out (by rw [hl.out]; exact hq)))
              clear hq
              go_wp2_with fail
              go_ret
              exact ⟨ret_i HV.out.symm, hb4⟩
            | some b =>
              rw [show optI (some b) = (b : Int) from rfl]
              have HQ := Lib.hid (show lstI X a X.length = some b by rw [hl.out]; exact hq)
              have hbj := (lst_lt hq).1
              have hbz : b < X.length := by rw [hl.out]; exact hbj
              have b0 : (0 : Int) ≤ (b : Int) := by omega
              have b1 : (b : Int) < (j : Int) := by omega
              have b2 : ¬ (b : Int) < 0 := by omega
              clear hq
              cases hi : inr h 0 10000 with
              | false =>
                have HV := Lib.hid (taw_noS (k := k + 1) HSK.out (taw_bad2 (X := X) (S := S) HDh.out hi))
                have HI := Lib.hid hi
                clear hi
                go_wp2_with fail
                refine (l1In_any _ _ _ _).mono ?_
                rintro e u9 ⟨rfl, rfl⟩
                rw [HI.out]
                go_wp2_with fail
                go_ret
                exact ⟨ret_i HV.out.symm, hb4⟩
              | true =>
                obtain ⟨ad, p, rfl, hp, hab, h0, h1⟩ := t2_cells ((hrr.below hb3).more hb3.size) hbz
                have hD := rD hbz
                have hseat := (ro_parts HB.out).2.1 X[b] (List.getElem_mem _)
                obtain ⟨x, hx⟩ : ∃ x, x = X[b] := ⟨_, rfl⟩
                rw [← hx] at h0 h1 hD hseat
                have HP := Lib.hid (taw_ok HDs.out HDh.out hi HQ.out hD ht.out)
                have HI := Lib.hid hi
                have hh4 : 0 ≤ h ∧ h ≤ 10000 := by unfold inr at hi; simpa using hi
                obtain ⟨y, hy⟩ : ∃ y, mx 0 (h - x.2) = y := ⟨_, rfl⟩
                have hyb : 0 ≤ y ∧ y ≤ 10000 := by rw [← hy]; unfold mx; split <;> omega
                rw [hy] at HP
                have HY := Lib.hid hy
                have w1 : IntKind.i64.wrap (h - x.2) = h - x.2 := IntWalk.i64_in _ (by omega)
                have w2 : IntKind.i64.wrap (z + y) = z + y := IntWalk.i64_in _ (by omega)
                clear hi hx hD hy
                have KE := fun (u : World) (q : Below wr.heap.size wr u) => show Below wr.heap.size wr u ∧ u.cell? ⟨p.block, p.off + 1, none⟩ = some (.int .i64 x.2) ∧ u.cell? (ah.add k) = some (.int .i64 h) from ⟨q, nwc2 q h1, nwc2 q g1⟩
                go_wp2_with fail
                refine (l1In_any _ _ _ _).mono ?_
                rintro e u9 ⟨rfl, rfl⟩
                rw [HI.out]
                go_wp2_with fail
                refine wp_region_quiet (C := fun u => Below wr.heap.size wr u ∧ u.cell? ⟨p.block, p.off + 1, none⟩ = some (.int .i64 x.2) ∧ u.cell? (ah.add k) = some (.int .i64 h)) (by kernel_rfl) (by kernel_rfl) (KE _ (Below.refl wr.heap.size wr).drew) ?_
                rw [List.toList_toArray]
                go_big_quiet_want
                go_big_quiet_op
                go_big_quiet_on
                go_big_quiet_want
                go_big_quiet_op
                go_big_quiet_on
                go_big_quiet_want
                go_big_quiet_op
                go_big_quiet_on
                go_big_quiet_want
                apply Exists.intro
                refine ⟨fun u hu => ?_, ?_⟩
                · obtain ⟨hu0, hu1, hu2⟩ := hu
                  unfold Oper.quietAt
                  go_simp
                  try rfl
                simp only [Act.put, List.setIfInBounds_toArray, List.set_cons_zero, List.set_cons_succ]
                go_big_quiet_on
                go_big_quiet_want
                apply Exists.intro
                refine ⟨fun u hu => ?_, ?_⟩
                · obtain ⟨hu0, hu1, hu2⟩ := hu
                  unfold Oper.quietAt
                  go_simp
                  try rfl
                simp only [Act.put, List.setIfInBounds_toArray, List.set_cons_zero, List.set_cons_succ]
                go_big_quiet_on
                go_big_quiet_want
                go_big_quiet_op
                go_big_quiet_on
                go_big_quiet_want
                go_big_quiet_op
                go_big_quiet_on
                go_big_quiet_want
                apply Exists.intro
                refine ⟨fun u hu => ?_, ?_⟩
                · obtain ⟨hu0, hu1, hu2⟩ := hu
                  unfold Oper.quietAt
                  go_simp
                  try rfl
                simp only [Act.put, List.setIfInBounds_toArray, List.set_cons_zero, List.set_cons_succ]
                go_big_quiet_on
                go_big_quiet_want
                apply Exists.intro
                refine ⟨fun u hu => ?_, ?_⟩
                · obtain ⟨hu0, hu1, hu2⟩ := hu
                  unfold Oper.quietAt
                  go_simp
                  try rfl
                simp only [Act.put, List.setIfInBounds_toArray, List.set_cons_zero, List.set_cons_succ]
                go_big_quiet_on
                go_big_quiet_want
                apply Exists.intro
                refine ⟨fun u hu => ?_, ?_⟩
                · obtain ⟨hu0, hu1, hu2⟩ := hu
                  unfold Oper.quietAt
                  go_simp
                  try rfl
                simp only [Act.put, List.setIfInBounds_toArray, List.set_cons_zero, List.set_cons_succ]
                go_big_quiet_on
                go_big_quiet_want
                apply Exists.intro
                refine ⟨fun u hu => ?_, ?_⟩
                · obtain ⟨hu0, hu1, hu2⟩ := hu
                  unfold Oper.quietAt
                  go_simp
                  try rfl
                simp only [Act.put, List.setIfInBounds_toArray, List.set_cons_zero, List.set_cons_succ]
                go_big_quiet_on
                go_big_quiet_want
                refine ⟨.int .i64 y, fun u hu => ?_, ?_⟩
                · obtain ⟨hu0, hu1, hu2⟩ := hu
                  unfold Oper.quietAt
                  go_simp
                  refine (smax_any _ _ _).mono ?_
                  rintro e u9 ⟨he, rfl⟩
                  rw [HY.out] at he
                  exact ⟨he, KE _ hu0⟩
                simp only [Act.put, List.setIfInBounds_toArray, List.set_cons_zero, List.set_cons_succ]
                go_big_quiet_on
                go_big_quiet_want
                apply Exists.intro
                refine ⟨fun u hu => ?_, ?_⟩
                · obtain ⟨hu0, hu1, hu2⟩ := hu
                  unfold Oper.quietAt
                  go_simp
                  try rfl
                simp only [Act.put, List.setIfInBounds_toArray, List.set_cons_zero, List.set_cons_succ]
                go_big_quiet_on
                go_big_quiet_want
                apply Exists.intro
                refine ⟨fun u hu => ?_, ?_⟩
                · obtain ⟨hu0, hu1, hu2⟩ := hu
                  unfold Oper.quietAt
                  go_simp
                  try rfl
                simp only [Act.put, List.setIfInBounds_toArray, List.set_cons_zero, List.set_cons_succ]
                go_big_quiet_on
                refine wpQuiet_nil ?_
                rintro u ⟨k9, _⟩
                go_wp2_with fail
                go_roundw
                case rel => exact ⟨k + 1, z + y, by omega, by go_num, by go_num, HP, hb4.trans (k9.mono hz4)⟩
                case measure => simp [intOf]; omega
      · have e : k = n'' := by omega
        subst e
        have HV := Lib.hid (taw_end (X := X) (H := H) (S := S) HB.out (by rw [hl'.out, hl''.out]) (by rw [hl''.out]; exact ht.out))
        go_wp2_with fail
        go_ret
        exact ⟨ret_i HV.out.symm, hb⟩
end Go.Proofs.Ytjjgdeojbpcjjaa
