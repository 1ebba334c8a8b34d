/- Contract of the model Strike (chapter 24). Condition: the slices have at most 2^40 elements. -/
import Derived.Test.YteffhbboeacogaaStrC
import Derived.Test.YteffhbboeacogaaInts
import Derived.BigQuiet
import Derived.Deep.Quiet
namespace Go.Proofs.Yteffhbboeacogaa
open Go.ChangeShapes Go.WideShapes Go.ChangeAt Go.RowKit
set_option maxRecDepth 100000
theorem nwT {w w' : World} {p : Addr} {v : Value} (r : Below w.heap.size w w') (h : w.cell? p = some v) : w'.cell? p = some v := (r.cell (p := p) (cell_lt h)).trans h
theorem rd_nT {w w' : World} {A : Option Addr} {xs : List Value} (h : Rd w w.heap.size A xs) (r : Below w.heap.size w w') : Rd w' w'.heap.size A xs := (h.below r).more r.size
section
variable {w : World} {A A' : Option Addr} {n c n' c' : Nat} {L W : List Int}
set_option maxHeartbeats 8000000 in
theorem specStrike_any (hl : Hid (L.length = n)) (hn : n ≤ 1099511627776) (hnc : n ≤ c) (hr : Rd w w.heap.size A (ivs L)) (hl' : Hid (W.length = n')) (hn' : n' ≤ 1099511627776) (hnc' : n' ≤ c') (hr' : Rd w w.heap.size A' (ivs W)) :
    Calls Try.prog 27 #[.slice A n c, .slice A' n' c'] w (fun e w' => e = .returned (.tuple #[.int .i64 (strV L W), .bool (strB L W)]) ∧ Below w.heap.size w w') := by
  have wn1 := IntWalk.i64_in ((n : Int) - 1) (by omega)
  go_enter Try.func27, Try.ntmps27
  go_wp2_with fail
  go_loopw [6] (fun i wr => ∃ k : Nat, k ≤ n ∧ i = .int .i64 k ∧ Hid ((L.take k).Nodup) ∧ Below w.heap.size w wr) (fun i _ => n - (intOf i).toNat)
  case atStart => exact ⟨0, Nat.zero_le _, rfl, Lib.hid (by simp), Below.refl _ _⟩
  case round =>
    obtain ⟨k, hk, rfl, hno, hb⟩ := hrel
    by_cases hlt : k < n
    · have hkz : k < L.length := by rw [hl.out]; exact hlt
      have HR := Lib.hid (rd_nT hr hb)
      obtain ⟨ad, rfl, hab, hc⟩ := ivs_at HR.out hkz
      have i0 : (0 : Int) ≤ (k : Int) := by omega
      have i1 : (k : Int) < (n : Int) := by omega
      have HY := Lib.hid (fun h => nd_no hkz h)
      have HS := Lib.hid (fun h => nd_step hkz hno.out h)
      have HT := Lib.hid (show (L.take k).length = k by rw [List.length_take]; omega)
      have hsl := fun W => run_to (P := Try.prog) W 24 3 Try.underlying24 ivs_set1 (some ad) (n := n) (c := c) (k := k) (by omega)
      have hsz := hb.size
      obtain ⟨x, hx⟩ : ∃ x, x = L[k] := ⟨_, rfl⟩
      rw [← hx] at hc HY HS
      clear hx
      have KE := fun (u : World) (q : Below wr.heap.size wr u) => show Below wr.heap.size wr u ∧ u.cell? (ad.add k) = some (.int .i64 x) from ⟨q, nwT q hc⟩
      cases q : (L.take k).contains x with
      | true =>
        have HV := Lib.hid (str_no (L := L) (W := W) fun h => HY.out q h.2.1)
        have HQ := Lib.hid q
        clear q
        go_wp2_with fail
        refine wp_region_quiet (C := fun u => Below wr.heap.size wr u ∧ u.cell? (ad.add k) = some (.int .i64 x)) (by kernel_rfl) (by kernel_rfl) (KE _ (Below.refl _ _).drew) ?_
        rw [List.toList_toArray]
        go_big_quiet_want
        go_big_quiet_op
        go_big_quiet_on
        go_big_quiet_want
        go_big_quiet_op
        go_big_quiet_on
        go_big_quiet_want
        apply Exists.intro
        refine ⟨fun u hu => ?_, ?_⟩
        · obtain ⟨hu0, hu1⟩ := hu
          unfold Oper.quietAt
          go_simp
          try rfl
        simp only [Act.put, List.setIfInBounds_toArray, List.set_cons_zero, List.set_cons_succ]
        go_big_quiet_on
        go_big_quiet_want
        go_big_quiet_op
        go_big_quiet_on
        go_big_quiet_want
        go_big_quiet_op
        go_big_quiet_on
        go_big_quiet_want
        apply Exists.intro
        refine ⟨fun u hu => ?_, ?_⟩
        · obtain ⟨hu0, hu1⟩ := hu
          unfold Oper.quietAt
          go_simp
          try rfl
        simp only [Act.put, List.setIfInBounds_toArray, List.set_cons_zero, List.set_cons_succ]
        go_big_quiet_on
        go_big_quiet_want
        apply Exists.intro
        refine ⟨fun u hu => ?_, ?_⟩
        · obtain ⟨hu0, hu1⟩ := hu
          unfold Oper.quietAt
          go_simp
          try rfl
        simp only [Act.put, List.setIfInBounds_toArray, List.set_cons_zero, List.set_cons_succ]
        go_big_quiet_on
        go_big_quiet_want
        refine ⟨.bool true, fun u hu => ?_, ?_⟩
        · obtain ⟨hu0, hu1⟩ := hu
          unfold Oper.quietAt
          go_simp
          refine (l4h_any (S := L.take k) HT (by omega) (rd_nT (ivs_hd HR.out) hu0)).mono ?_
          rintro e u9 ⟨rfl, rfl⟩
          rw [HQ.out]
          exact ⟨rfl, ⟨hu0, hu1⟩⟩
        simp only [Act.put, List.setIfInBounds_toArray, List.set_cons_zero, List.set_cons_succ]
        go_big_quiet_on
        refine wpQuiet_nil ?_
        rintro u ⟨r, _⟩
        go_wp2_with fail
        go_ret2
        exact ⟨by rw [HV.out.1, HV.out.2]; rfl, hb.trans (r.mono hsz)⟩
      | false =>
        have HN := Lib.hid (HS.out q)
        have HQ := Lib.hid q
        clear q
        go_wp2_with fail
        refine wp_region_quiet (C := fun u => Below wr.heap.size wr u ∧ u.cell? (ad.add k) = some (.int .i64 x)) (by kernel_rfl) (by kernel_rfl) (KE _ (Below.refl _ _).drew) ?_
        rw [List.toList_toArray]
        go_big_quiet_want
        go_big_quiet_op
        go_big_quiet_on
        go_big_quiet_want
        go_big_quiet_op
        go_big_quiet_on
        go_big_quiet_want
        apply Exists.intro
        refine ⟨fun u hu => ?_, ?_⟩
        · obtain ⟨hu0, hu1⟩ := hu
          unfold Oper.quietAt
          go_simp
          try rfl
        simp only [Act.put, List.setIfInBounds_toArray, List.set_cons_zero, List.set_cons_succ]
        go_big_quiet_on
        go_big_quiet_want
        go_big_quiet_op
        go_big_quiet_on
        go_big_quiet_want
        go_big_quiet_op
        go_big_quiet_on
        go_big_quiet_want
        apply Exists.intro
        refine ⟨fun u hu => ?_, ?_⟩
        · obtain ⟨hu0, hu1⟩ := hu
          unfold Oper.quietAt
          go_simp
          try rfl
        simp only [Act.put, List.setIfInBounds_toArray, List.set_cons_zero, List.set_cons_succ]
        go_big_quiet_on
        go_big_quiet_want
        apply Exists.intro
        refine ⟨fun u hu => ?_, ?_⟩
        · obtain ⟨hu0, hu1⟩ := hu
          unfold Oper.quietAt
          go_simp
          try rfl
        simp only [Act.put, List.setIfInBounds_toArray, List.set_cons_zero, List.set_cons_succ]
        go_big_quiet_on
        go_big_quiet_want
        refine ⟨.bool false, fun u hu => ?_, ?_⟩
        · obtain ⟨hu0, hu1⟩ := hu
          unfold Oper.quietAt
          go_simp
          refine (l4h_any (S := L.take k) HT (by omega) (rd_nT (ivs_hd HR.out) hu0)).mono ?_
          rintro e u9 ⟨rfl, rfl⟩
          rw [HQ.out]
          exact ⟨rfl, ⟨hu0, hu1⟩⟩
        simp only [Act.put, List.setIfInBounds_toArray, List.set_cons_zero, List.set_cons_succ]
        go_big_quiet_on
        refine wpQuiet_nil ?_
        rintro u ⟨r, _⟩
        go_wp2_with fail
        go_roundw
        case rel => exact ⟨k + 1, by omega, by go_num, HN, hb.trans (r.mono hsz)⟩
        case measure => simp [intOf]; omega
    · have e : k = n := by omega
      subst e
      have HND := Lib.hid (show L.Nodup by have := hno.out; rwa [List.take_of_length_le (by rw [hl.out]; exact Nat.le_refl _)] at this)
      clear hno
      cases hi : inr (k : Int) 1 9 with
      | false =>
        have HV := Lib.hid (str_no (L := L) (W := W) fun h => by
          have := h.1
          rw [hl.out] at this
          unfold inr at hi
          simp at hi
          omega)
        have HI := Lib.hid hi
        clear hi
        go_wp2_with fail
        refine (l1In_any _ _ _ _).mono ?_
        rintro e u ⟨rfl, rfl⟩
        rw [HI.out]
        go_wp2_with fail
        go_ret2
        exact ⟨by rw [HV.out.1, HV.out.2]; rfl, hb⟩
      | true =>
        have h19 : 1 ≤ k ∧ k ≤ 9 := by unfold inr at hi; simp at hi; omega
        have HI := Lib.hid hi
        clear hi
        by_cases hw : n' + 1 = k
        · have e0 : ((n' : Int) != (k : Int) - 1) = false := by simp; omega
          go_wp2_with fail
          refine (l1In_any _ _ _ _).mono ?_
          rintro e u ⟨rfl, rfl⟩
          rw [HI.out]
          obtain ⟨w1, hw1⟩ : ∃ w1, w1 = wr := ⟨_, rfl⟩
          rw [← hw1]
          rw [← hw1] at hb
          clear hw1
          go_wp2_with fail
          go_loopw [7] (fun i wr => ∃ j : Nat, j ≤ n' ∧ i = .int .i64 j ∧ Hid ((W.take j).Nodup ∧ ∀ m ∈ W.take j, m ∈ L) ∧ Below w.heap.size w wr) (fun i _ => n' - (intOf i).toNat)
          case atStart => exact ⟨0, Nat.zero_le _, rfl, Lib.hid ⟨by simp, fun m hm => by simp at hm⟩, hb⟩
          case round =>
            obtain ⟨j, hj, rfl, hst, hb2⟩ := hrel
            clear hb
            have HR := Lib.hid (rd_nT hr hb2)
            have HR' := Lib.hid (rd_nT hr' hb2)
            by_cases hlt : j < n'
            · have hkz : j < W.length := by rw [hl'.out]; exact hlt
              obtain ⟨ad, rfl, hab, hc⟩ := ivs_at HR'.out hkz
              have i0 : (0 : Int) ≤ (j : Int) := by omega
              have i1 : (j : Int) < (n' : Int) := by omega
              have HY := Lib.hid (fun h => nd_no hkz h)
              have HS := Lib.hid (fun h => nd_step hkz hst.out.1 h)
              have HTK := Lib.hid (List.take_succ_eq_append_getElem hkz)
              have HWM := Lib.hid (List.getElem_mem hkz)
              have HT := Lib.hid (show (W.take j).length = j by rw [List.length_take]; omega)
              have hsl := fun W => run_to (P := Try.prog) W 24 3 Try.underlying24 ivs_set1 (some ad) (n := n') (c := c') (k := j) (by omega)
              have hsz := hb2.size
              obtain ⟨x, hx⟩ : ∃ x, x = W[j] := ⟨_, rfl⟩
              rw [← hx] at hc HY HS HTK HWM
              clear hx
              have KE := fun (u : World) (q : Below wr.heap.size wr u) => show Below wr.heap.size wr u ∧ u.cell? (ad.add j) = some (.int .i64 x) from ⟨q, nwT q hc⟩
              cases q1 : L.contains x with
              | false =>
                have HV := Lib.hid (str_no (L := L) (W := W) fun h => by
                  rw [List.contains_iff_mem.2 (h.2.2.2.2 x HWM.out)] at q1
                  cases q1)
                have HQ := Lib.hid q1
                clear q1
                go_wp2_with fail
                refine wp_region_quiet (C := fun u => Below wr.heap.size wr u ∧ u.cell? (ad.add j) = some (.int .i64 x)) (by kernel_rfl) (by kernel_rfl) (KE _ (Below.refl _ _).drew) ?_
                rw [List.toList_toArray]
                go_big_quiet_want
                go_big_quiet_op
                go_big_quiet_on
                go_big_quiet_want
                go_big_quiet_op
                go_big_quiet_on
                go_big_quiet_want
                go_big_quiet_op
                go_big_quiet_on
                go_big_quiet_want
                apply Exists.intro
                refine ⟨fun u hu => ?_, ?_⟩
                · obtain ⟨hu0, hu1⟩ := hu
                  unfold Oper.quietAt
                  go_simp
                  try rfl
                simp only [Act.put, List.setIfInBounds_toArray, List.set_cons_zero, List.set_cons_succ]
                go_big_quiet_on
                go_big_quiet_want
                apply Exists.intro
                refine ⟨fun u hu => ?_, ?_⟩
                · obtain ⟨hu0, hu1⟩ := hu
                  unfold Oper.quietAt
                  go_simp
                  try rfl
                simp only [Act.put, List.setIfInBounds_toArray, List.set_cons_zero, List.set_cons_succ]
                go_big_quiet_on
                go_big_quiet_want
                refine ⟨.bool false, fun u hu => ?_, ?_⟩
                · obtain ⟨hu0, hu1⟩ := hu
                  unfold Oper.quietAt
                  go_simp
                  refine (l4h_any (S := L) hl (by omega) (rd_nT HR.out hu0)).mono ?_
                  rintro e u9 ⟨rfl, rfl⟩
                  rw [HQ.out]
                  exact ⟨rfl, ⟨hu0, hu1⟩⟩
                simp only [Act.put, List.setIfInBounds_toArray, List.set_cons_zero, List.set_cons_succ]
                go_big_quiet_on
                go_big_quiet_want
                apply Exists.intro
                refine ⟨fun u hu => ?_, ?_⟩
                · obtain ⟨hu0, hu1⟩ := hu
                  unfold Oper.quietAt
                  go_simp
                  try rfl
                simp only [Act.put, List.setIfInBounds_toArray, List.set_cons_zero, List.set_cons_succ]
                go_big_quiet_on
                go_big_quiet_want
                go_big_quiet_op
                go_big_quiet_on
                repeat go_big_quiet_skip
                go_big_quiet_want
                apply Exists.intro
                refine ⟨fun u hu => ?_, ?_⟩
                · obtain ⟨hu0, hu1⟩ := hu
                  unfold Oper.quietAt
                  go_simp
                  try rfl
                simp only [Act.put, List.setIfInBounds_toArray, List.set_cons_zero, List.set_cons_succ]
                go_big_quiet_on
                refine wpQuiet_nil ?_
                rintro u ⟨r, _⟩
                go_wp2_with fail
                go_ret2
                exact ⟨by rw [HV.out.1, HV.out.2]; rfl, hb2.trans (r.mono hsz)⟩
              | true =>
                have HQ := Lib.hid q1
                cases q2 : (W.take j).contains x with
                | true =>
                  have HV := Lib.hid (str_no (L := L) (W := W) fun h => HY.out q2 h.2.2.2.1)
                  have HQ2 := Lib.hid q2
                  clear q1 q2
                  go_wp2_with fail
                  refine wp_region_quiet (C := fun u => Below wr.heap.size wr u ∧ u.cell? (ad.add j) = some (.int .i64 x)) (by kernel_rfl) (by kernel_rfl) (KE _ (Below.refl _ _).drew) ?_
                  rw [List.toList_toArray]
                  go_big_quiet_want
                  go_big_quiet_op
                  go_big_quiet_on
                  go_big_quiet_want
                  go_big_quiet_op
                  go_big_quiet_on
                  go_big_quiet_want
                  go_big_quiet_op
                  go_big_quiet_on
                  go_big_quiet_want
                  apply Exists.intro
                  refine ⟨fun u hu => ?_, ?_⟩
                  · obtain ⟨hu0, hu1⟩ := hu
                    unfold Oper.quietAt
                    go_simp
                    try rfl
                  simp only [Act.put, List.setIfInBounds_toArray, List.set_cons_zero, List.set_cons_succ]
                  go_big_quiet_on
                  go_big_quiet_want
                  apply Exists.intro
                  refine ⟨fun u hu => ?_, ?_⟩
                  · obtain ⟨hu0, hu1⟩ := hu
                    unfold Oper.quietAt
                    go_simp
                    try rfl
                  simp only [Act.put, List.setIfInBounds_toArray, List.set_cons_zero, List.set_cons_succ]
                  go_big_quiet_on
                  go_big_quiet_want
                  refine ⟨.bool true, fun u hu => ?_, ?_⟩
                  · obtain ⟨hu0, hu1⟩ := hu
                    unfold Oper.quietAt
                    go_simp
                    refine (l4h_any (S := L) hl (by omega) (rd_nT HR.out hu0)).mono ?_
                    rintro e u9 ⟨rfl, rfl⟩
                    rw [HQ.out]
                    exact ⟨rfl, ⟨hu0, hu1⟩⟩
                  simp only [Act.put, List.setIfInBounds_toArray, List.set_cons_zero, List.set_cons_succ]
                  go_big_quiet_on
                  go_big_quiet_want
                  apply Exists.intro
                  refine ⟨fun u hu => ?_, ?_⟩
                  · obtain ⟨hu0, hu1⟩ := hu
                    unfold Oper.quietAt
                    go_simp
                    try rfl
                  simp only [Act.put, List.setIfInBounds_toArray, List.set_cons_zero, List.set_cons_succ]
                  go_big_quiet_on
                  go_big_quiet_want
                  go_big_quiet_op
                  go_big_quiet_on
                  go_big_quiet_want
                  go_big_quiet_op
                  go_big_quiet_on
                  go_big_quiet_want
                  go_big_quiet_op
                  go_big_quiet_on
                  go_big_quiet_want
                  apply Exists.intro
                  refine ⟨fun u hu => ?_, ?_⟩
                  · obtain ⟨hu0, hu1⟩ := hu
                    unfold Oper.quietAt
                    go_simp
                    try rfl
                  simp only [Act.put, List.setIfInBounds_toArray, List.set_cons_zero, List.set_cons_succ]
                  go_big_quiet_on
                  go_big_quiet_want
                  go_big_quiet_op
                  go_big_quiet_on
                  go_big_quiet_want
                  go_big_quiet_op
                  go_big_quiet_on
                  go_big_quiet_want
                  apply Exists.intro
                  refine ⟨fun u hu => ?_, ?_⟩
                  · obtain ⟨hu0, hu1⟩ := hu
                    unfold Oper.quietAt
                    go_simp
                    try rfl
                  simp only [Act.put, List.setIfInBounds_toArray, List.set_cons_zero, List.set_cons_succ]
                  go_big_quiet_on
                  go_big_quiet_want
                  apply Exists.intro
                  refine ⟨fun u hu => ?_, ?_⟩
                  · obtain ⟨hu0, hu1⟩ := hu
                    unfold Oper.quietAt
                    go_simp
                    try rfl
                  simp only [Act.put, List.setIfInBounds_toArray, List.set_cons_zero, List.set_cons_succ]
                  go_big_quiet_on
                  go_big_quiet_want
                  refine ⟨.bool true, fun u hu => ?_, ?_⟩
                  · obtain ⟨hu0, hu1⟩ := hu
                    unfold Oper.quietAt
                    go_simp
                    refine (l4h_any (S := W.take j) HT (by omega) (rd_nT (ivs_hd HR'.out) hu0)).mono ?_
                    rintro e u9 ⟨rfl, rfl⟩
                    rw [HQ2.out]
                    exact ⟨rfl, ⟨hu0, hu1⟩⟩
                  simp only [Act.put, List.setIfInBounds_toArray, List.set_cons_zero, List.set_cons_succ]
                  go_big_quiet_on
                  go_big_quiet_want
                  apply Exists.intro
                  refine ⟨fun u hu => ?_, ?_⟩
                  · obtain ⟨hu0, hu1⟩ := hu
                    unfold Oper.quietAt
                    go_simp
                    try rfl
                  simp only [Act.put, List.setIfInBounds_toArray, List.set_cons_zero, List.set_cons_succ]
                  go_big_quiet_on
                  refine wpQuiet_nil ?_
                  rintro u ⟨r, _⟩
                  go_wp2_with fail
                  go_ret2
                  exact ⟨by rw [HV.out.1, HV.out.2]; rfl, hb2.trans (r.mono hsz)⟩
                | false =>
                  have HST := Lib.hid (show (W.take (j + 1)).Nodup ∧ ∀ m ∈ W.take (j + 1), m ∈ L from ⟨HS.out q2, fun z hz => by
                    rw [HTK.out] at hz
                    rcases List.mem_append.1 hz with h1 | h1
                    · exact hst.out.2 z h1
                    · rw [List.mem_singleton.1 h1]; exact List.contains_iff_mem.1 q1⟩)
                  have HQ2 := Lib.hid q2
                  clear q1 q2
                  go_wp2_with fail
                  refine wp_region_quiet (C := fun u => Below wr.heap.size wr u ∧ u.cell? (ad.add j) = some (.int .i64 x)) (by kernel_rfl) (by kernel_rfl) (KE _ (Below.refl _ _).drew) ?_
                  rw [List.toList_toArray]
                  go_big_quiet_want
                  go_big_quiet_op
                  go_big_quiet_on
                  go_big_quiet_want
                  go_big_quiet_op
                  go_big_quiet_on
                  go_big_quiet_want
                  go_big_quiet_op
                  go_big_quiet_on
                  go_big_quiet_want
                  apply Exists.intro
                  refine ⟨fun u hu => ?_, ?_⟩
                  · obtain ⟨hu0, hu1⟩ := hu
                    unfold Oper.quietAt
                    go_simp
                    try rfl
                  simp only [Act.put, List.setIfInBounds_toArray, List.set_cons_zero, List.set_cons_succ]
                  go_big_quiet_on
                  go_big_quiet_want
                  apply Exists.intro
                  refine ⟨fun u hu => ?_, ?_⟩
                  · obtain ⟨hu0, hu1⟩ := hu
                    unfold Oper.quietAt
                    go_simp
                    try rfl
                  simp only [Act.put, List.setIfInBounds_toArray, List.set_cons_zero, List.set_cons_succ]
                  go_big_quiet_on
                  go_big_quiet_want
                  refine ⟨.bool true, fun u hu => ?_, ?_⟩
                  · obtain ⟨hu0, hu1⟩ := hu
                    unfold Oper.quietAt
                    go_simp
                    refine (l4h_any (S := L) hl (by omega) (rd_nT HR.out hu0)).mono ?_
                    rintro e u9 ⟨rfl, rfl⟩
                    rw [HQ.out]
                    exact ⟨rfl, ⟨hu0, hu1⟩⟩
                  simp only [Act.put, List.setIfInBounds_toArray, List.set_cons_zero, List.set_cons_succ]
                  go_big_quiet_on
                  go_big_quiet_want
                  apply Exists.intro
                  refine ⟨fun u hu => ?_, ?_⟩
                  · obtain ⟨hu0, hu1⟩ := hu
                    unfold Oper.quietAt
                    go_simp
                    try rfl
                  simp only [Act.put, List.setIfInBounds_toArray, List.set_cons_zero, List.set_cons_succ]
                  go_big_quiet_on
                  go_big_quiet_want
                  go_big_quiet_op
                  go_big_quiet_on
                  go_big_quiet_want
                  go_big_quiet_op
                  go_big_quiet_on
                  go_big_quiet_want
                  go_big_quiet_op
                  go_big_quiet_on
                  go_big_quiet_want
                  apply Exists.intro
                  refine ⟨fun u hu => ?_, ?_⟩
                  · obtain ⟨hu0, hu1⟩ := hu
                    unfold Oper.quietAt
                    go_simp
                    try rfl
                  simp only [Act.put, List.setIfInBounds_toArray, List.set_cons_zero, List.set_cons_succ]
                  go_big_quiet_on
                  go_big_quiet_want
                  go_big_quiet_op
                  go_big_quiet_on
                  go_big_quiet_want
                  go_big_quiet_op
                  go_big_quiet_on
                  go_big_quiet_want
                  apply Exists.intro
                  refine ⟨fun u hu => ?_, ?_⟩
                  · obtain ⟨hu0, hu1⟩ := hu
                    unfold Oper.quietAt
                    go_simp
                    try rfl
                  simp only [Act.put, List.setIfInBounds_toArray, List.set_cons_zero, List.set_cons_succ]
                  go_big_quiet_on
                  go_big_quiet_want
                  apply Exists.intro
                  refine ⟨fun u hu => ?_, ?_⟩
                  · obtain ⟨hu0, hu1⟩ := hu
                    unfold Oper.quietAt
                    go_simp
                    try rfl
                  simp only [Act.put, List.setIfInBounds_toArray, List.set_cons_zero, List.set_cons_succ]
                  go_big_quiet_on
                  go_big_quiet_want
                  refine ⟨.bool false, fun u hu => ?_, ?_⟩
                  · obtain ⟨hu0, hu1⟩ := hu
                    unfold Oper.quietAt
                    go_simp
                    refine (l4h_any (S := W.take j) HT (by omega) (rd_nT (ivs_hd HR'.out) hu0)).mono ?_
                    rintro e u9 ⟨rfl, rfl⟩
                    rw [HQ2.out]
                    exact ⟨rfl, ⟨hu0, hu1⟩⟩
                  simp only [Act.put, List.setIfInBounds_toArray, List.set_cons_zero, List.set_cons_succ]
                  go_big_quiet_on
                  go_big_quiet_want
                  apply Exists.intro
                  refine ⟨fun u hu => ?_, ?_⟩
                  · obtain ⟨hu0, hu1⟩ := hu
                    unfold Oper.quietAt
                    go_simp
                    try rfl
                  simp only [Act.put, List.setIfInBounds_toArray, List.set_cons_zero, List.set_cons_succ]
                  go_big_quiet_on
                  refine wpQuiet_nil ?_
                  rintro u ⟨r, _⟩
                  go_wp2_with fail
                  go_roundw
                  case rel => exact ⟨j + 1, by omega, by go_num, HST, hb2.trans (r.mono hsz)⟩
                  case measure => simp [intOf]; omega
            · have e : j = n' := by omega
              subst e
              have hst' := hst.out
              rw [List.take_of_length_le (by rw [hl'.out]; exact Nat.le_refl _)] at hst'
              obtain ⟨hB, z, hz, hV⟩ := str_one (L := L) (W := W) (by rw [hl.out]; exact h19) HND.out (by rw [hl.out, hl'.out]; omega) hst'.1 hst'.2
              have HZ := Lib.hid hz
              have HBV := Lib.hid (And.intro hB hV)
              obtain ⟨w2, hw2⟩ : ∃ w2, w2 = wr := ⟨_, rfl⟩
              rw [← hw2]
              rw [← hw2] at hb2 HR HR'
              clear hst' hst hB hz hV hw2
              go_wp2_with fail
              go_loopw [8] (fun i wr => ∃ p : Nat, p ≤ k ∧ i = .int .i64 p ∧ Hid (∀ x ∈ L.take p, W.contains x = true) ∧ wr = w2) (fun i _ => k - (intOf i).toNat)
              case atStart => exact ⟨0, Nat.zero_le _, rfl, Lib.hid (fun m hm => by simp at hm), rfl⟩
              case round =>
                obtain ⟨p, hp, rfl, hall, rfl⟩ := hrel
                by_cases hlt : p < k
                · have hkz : p < L.length := by rw [hl.out]; exact hlt
                  obtain ⟨ad, rfl, hab, hc⟩ := ivs_at HR.out hkz
                  have i0 : (0 : Int) ≤ (p : Int) := by omega
                  have i1 : (p : Int) < (k : Int) := by omega
                  have HH := Lib.hid (fun h => str_head hkz hall.out h HZ.out)
                  have HTK := Lib.hid (List.take_succ_eq_append_getElem hkz)
                  obtain ⟨x, hx⟩ : ∃ x, x = L[p] := ⟨_, rfl⟩
                  rw [← hx] at hc HH HTK
                  clear hx
                  cases q : W.contains x with
                  | false =>
                    have HX := Lib.hid (HH.out q)
                    have HQ := Lib.hid q
                    clear q
                    go_wp2_with fail
                    refine (l4h_any (S := W) hl' (by omega) HR'.out).mono ?_
                    rintro e u ⟨rfl, rfl⟩
                    rw [HQ.out]
                    go_wp2_with fail
                    go_ret2
                    exact ⟨by rw [HBV.out.1, HBV.out.2, HX.out]; rfl, hb2⟩
                  | true =>
                    have HN := Lib.hid (show ∀ x ∈ L.take (p + 1), W.contains x = true from fun y hy => by
                      rw [HTK.out] at hy
                      rcases List.mem_append.1 hy with h1 | h1
                      · exact hall.out y h1
                      · rw [List.mem_singleton.1 h1]; exact q)
                    have HQ := Lib.hid q
                    clear q
                    go_wp2_with fail
                    refine (l4h_any (S := W) hl' (by omega) HR'.out).mono ?_
                    rintro e u ⟨rfl, rfl⟩
                    rw [HQ.out]
                    go_wp2_with fail
                    go_roundw
                    case rel => exact ⟨p + 1, by omega, by go_num, HN, trivial⟩
                    case measure => simp [intOf]; omega
                · have e : p = k := by omega
                  subst e
                  exact absurd (str_all (by have := hall.out; rwa [List.take_of_length_le (by rw [hl.out]; exact Nat.le_refl _)] at this) HZ.out) id
        · have e0 : ((n' : Int) != (k : Int) - 1) = true := by simp; omega
          have HV := Lib.hid (str_no (L := L) (W := W) fun h => by
            have := h.2.2.1
            rw [hl.out, hl'.out] at this
            exact hw this)
          go_wp2_with fail
          refine (l1In_any _ _ _ _).mono ?_
          rintro e u ⟨rfl, rfl⟩
          rw [HI.out]
          go_wp2_with fail
          go_ret2
          exact ⟨by rw [HV.out.1, HV.out.2]; rfl, hb⟩
end
end Go.Proofs.Yteffhbboeacogaa
