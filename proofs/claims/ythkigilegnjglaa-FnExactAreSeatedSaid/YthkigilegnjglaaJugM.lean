/- Contract of the model's AreJudges. Condition: the slice has at most 2^40 elements, each judge's at most 2^20. -/
import Derived.Test.YthkigilegnjglaaMg9
import Derived.Test.YthkigilegnjglaaMg4
import Derived.Test.YthkigilegnjglaaMg11
import Derived.BigQuiet
import Derived.Deep.Quiet
namespace Go.Proofs.Ythkigilegnjglaa
open Go.ChangeShapes Go.WideShapes Go.ChangeAt Go.RowKit
set_option maxRecDepth 100000
theorem nwc3 {w w' : World} {p : Addr} {v : Value} (r : Below w.heap.size w w') (h : w.cell? p = some v) : w'.cell? p = some v := (r.cell (p := p) (cell_lt h)).trans h
set_option maxHeartbeats 8000000 in
theorem specAreJudges_any {w : World} {A : Option Addr} {n c : Nat} {X : List Jd} (hl : Hid (X.length = n)) (hn : n ≤ 1099511627776) (hs : Hid (∀ x ∈ X, x.seen.length ≤ 1048576)) (hr : RdJ w w.heap.size A X) :
    Calls Try.prog 102 #[.slice A n c] w (Tells (juB X) w) := by
  go_enter Try.func102, Try.ntmps102
  go_wp2_with fail
  go_loopw [3] (fun i wr => ∃ k : Nat, k ≤ n ∧ i = .int .i64 k ∧ Hid ((List.range k).all (juAt X) = true) ∧ Below w.heap.size w wr) (fun i _ => n - (intOf i).toNat)
  case atStart => exact ⟨0, Nat.zero_le _, rfl, Lib.hid rfl, Below.refl _ _⟩
  case round =>
    obtain ⟨k, hk, rfl, ha, hb⟩ := hrel
    by_cases hlt : k < n
    · have hkz : k < X.length := by rw [hl.out]; exact hlt
      have hsz := hb.size
      have hrr := (hr.below hb).more hb.size
      obtain ⟨ad, p, rfl, hp, hab, Aj, cj, h0, h1, h2, _, _, hrj⟩ := hrr.at_ hkz
      have i0 : (0 : Int) ≤ (k : Int) := by omega
      have i1 : (k : Int) < (n : Int) := by omega
      have hD := juD hkz
      have hsn := hs.out _ (List.getElem_mem hkz)
      have HAT := Lib.hid (juAt_at hkz)
      obtain ⟨x, hx⟩ : ∃ x, x = X[k] := ⟨_, rfl⟩
      rw [← hx] at h0 h1 h2 hrj hD hsn HAT
      have HD := Lib.hid hD
      clear hx hD

      cases q1 : inr x.id 1 99 with
      | false =>
        have HV := Lib.hid (ju_no hkz (juAt_a HAT.out (asc_0 HD.out q1)))
        have H1 := Lib.hid q1
        clear q1
        have KE := fun (u : World) (q : Below wr.heap.size wr u) => show Below wr.heap.size wr u ∧ u.cell? p = some (.int .i64 x.id) ∧ u.cell? ⟨p.block, p.off + 1, none⟩ = some (.int .i64 x.club) from ⟨q, nwc3 q h0, nwc3 q h1⟩
        go_wp2_with fail
        refine wp_region_quiet (C := fun u => Below wr.heap.size wr u ∧ u.cell? p = some (.int .i64 x.id) ∧ u.cell? ⟨p.block, p.off + 1, none⟩ = some (.int .i64 x.club)) (by kernel_rfl) (by kernel_rfl) (KE _ (Below.refl wr.heap.size wr).drew) ?_
        rw [List.toList_toArray]
        go_big_quiet_want
        go_big_quiet_op
        go_big_quiet_on
        go_big_quiet_want
        go_big_quiet_op
        go_big_quiet_on
        go_big_quiet_want
        apply Exists.intro
        refine ⟨fun u hu => ?_, ?_⟩
        · obtain ⟨hu0, hu1, hu2⟩ := hu
          unfold Oper.quietAt
          go_simp
          try rfl
        simp only [Act.put, List.setIfInBounds_toArray, List.set_cons_zero, List.set_cons_succ]
        go_big_quiet_on
        go_big_quiet_want
        apply Exists.intro
        refine ⟨fun u hu => ?_, ?_⟩
        · obtain ⟨hu0, hu1, hu2⟩ := hu
          unfold Oper.quietAt
          go_simp
          try rfl
        simp only [Act.put, List.setIfInBounds_toArray, List.set_cons_zero, List.set_cons_succ]
        go_big_quiet_on
        go_big_quiet_want
        apply Exists.intro
        refine ⟨fun u hu => ?_, ?_⟩
        · obtain ⟨hu0, hu1, hu2⟩ := hu
          unfold Oper.quietAt
          go_simp
          try rfl
        simp only [Act.put, List.setIfInBounds_toArray, List.set_cons_zero, List.set_cons_succ]
        go_big_quiet_on
        go_big_quiet_want
        refine ⟨.bool false, fun u hu => ?_, ?_⟩
        · obtain ⟨hu0, hu1, hu2⟩ := hu
          unfold Oper.quietAt
          go_simp
          refine (l1In_any _ _ _ _).mono ?_
          rintro e u9 ⟨he, rfl⟩
          rw [H1.out] at he
          exact ⟨he, KE _ hu0⟩
        simp only [Act.put, List.setIfInBounds_toArray, List.set_cons_zero, List.set_cons_succ]
        go_big_quiet_on
        go_big_quiet_want
        apply Exists.intro
        refine ⟨fun u hu => ?_, ?_⟩
        · obtain ⟨hu0, hu1, hu2⟩ := hu
          unfold Oper.quietAt
          go_simp
          try rfl
        simp only [Act.put, List.setIfInBounds_toArray, List.set_cons_zero, List.set_cons_succ]
        go_big_quiet_on
        go_big_quiet_want
        go_big_quiet_op
        go_big_quiet_on
        repeat go_big_quiet_skip
        go_big_quiet_want
        apply Exists.intro
        refine ⟨fun u hu => ?_, ?_⟩
        · obtain ⟨hu0, hu1, hu2⟩ := hu
          unfold Oper.quietAt
          go_simp
          try rfl
        simp only [Act.put, List.setIfInBounds_toArray, List.set_cons_zero, List.set_cons_succ]
        go_big_quiet_on
        go_big_quiet_want
        go_big_quiet_op
        go_big_quiet_on
        repeat go_big_quiet_skip
        go_big_quiet_want
        apply Exists.intro
        refine ⟨fun u hu => ?_, ?_⟩
        · obtain ⟨hu0, hu1, hu2⟩ := hu
          unfold Oper.quietAt
          go_simp
          try rfl
        simp only [Act.put, List.setIfInBounds_toArray, List.set_cons_zero, List.set_cons_succ]
        go_big_quiet_on
        refine wpQuiet_nil ?_
        rintro u ⟨k9, _⟩
        go_wp2_with fail
        go_ret
        exact ⟨ret_b HV.out.symm, hb.trans (k9.mono hsz)⟩
      | true =>
        cases q2 : inr x.club 1 99 with
        | false =>
          have HV := Lib.hid (ju_no hkz (juAt_c HAT.out q2))
          have H1 := Lib.hid q1
          have H2 := Lib.hid q2
          clear q1 q2
          have KE := fun (u : World) (q : Below wr.heap.size wr u) => show Below wr.heap.size wr u ∧ u.cell? p = some (.int .i64 x.id) ∧ u.cell? ⟨p.block, p.off + 1, none⟩ = some (.int .i64 x.club) from ⟨q, nwc3 q h0, nwc3 q h1⟩
          go_wp2_with fail
          refine wp_region_quiet (C := fun u => Below wr.heap.size wr u ∧ u.cell? p = some (.int .i64 x.id) ∧ u.cell? ⟨p.block, p.off + 1, none⟩ = some (.int .i64 x.club)) (by kernel_rfl) (by kernel_rfl) (KE _ (Below.refl wr.heap.size wr).drew) ?_
          rw [List.toList_toArray]
          go_big_quiet_want
          go_big_quiet_op
          go_big_quiet_on
          go_big_quiet_want
          go_big_quiet_op
          go_big_quiet_on
          go_big_quiet_want
          apply Exists.intro
          refine ⟨fun u hu => ?_, ?_⟩
          · obtain ⟨hu0, hu1, hu2⟩ := hu
            unfold Oper.quietAt
            go_simp
            try rfl
          simp only [Act.put, List.setIfInBounds_toArray, List.set_cons_zero, List.set_cons_succ]
          go_big_quiet_on
          go_big_quiet_want
          apply Exists.intro
          refine ⟨fun u hu => ?_, ?_⟩
          · obtain ⟨hu0, hu1, hu2⟩ := hu
            unfold Oper.quietAt
            go_simp
            try rfl
          simp only [Act.put, List.setIfInBounds_toArray, List.set_cons_zero, List.set_cons_succ]
          go_big_quiet_on
          go_big_quiet_want
          apply Exists.intro
          refine ⟨fun u hu => ?_, ?_⟩
          · obtain ⟨hu0, hu1, hu2⟩ := hu
            unfold Oper.quietAt
            go_simp
            try rfl
          simp only [Act.put, List.setIfInBounds_toArray, List.set_cons_zero, List.set_cons_succ]
          go_big_quiet_on
          go_big_quiet_want
          refine ⟨.bool true, fun u hu => ?_, ?_⟩
          · obtain ⟨hu0, hu1, hu2⟩ := hu
            unfold Oper.quietAt
            go_simp
            refine (l1In_any _ _ _ _).mono ?_
            rintro e u9 ⟨he, rfl⟩
            rw [H1.out] at he
            exact ⟨he, KE _ hu0⟩
          simp only [Act.put, List.setIfInBounds_toArray, List.set_cons_zero, List.set_cons_succ]
          go_big_quiet_on
          go_big_quiet_want
          apply Exists.intro
          refine ⟨fun u hu => ?_, ?_⟩
          · obtain ⟨hu0, hu1, hu2⟩ := hu
            unfold Oper.quietAt
            go_simp
            try rfl
          simp only [Act.put, List.setIfInBounds_toArray, List.set_cons_zero, List.set_cons_succ]
          go_big_quiet_on
          go_big_quiet_want
          go_big_quiet_op
          go_big_quiet_on
          go_big_quiet_want
          go_big_quiet_op
          go_big_quiet_on
          go_big_quiet_want
          go_big_quiet_op
          go_big_quiet_on
          go_big_quiet_want
          apply Exists.intro
          refine ⟨fun u hu => ?_, ?_⟩
          · obtain ⟨hu0, hu1, hu2⟩ := hu
            unfold Oper.quietAt
            go_simp
            try rfl
          simp only [Act.put, List.setIfInBounds_toArray, List.set_cons_zero, List.set_cons_succ]
          go_big_quiet_on
          go_big_quiet_want
          apply Exists.intro
          refine ⟨fun u hu => ?_, ?_⟩
          · obtain ⟨hu0, hu1, hu2⟩ := hu
            unfold Oper.quietAt
            go_simp
            try rfl
          simp only [Act.put, List.setIfInBounds_toArray, List.set_cons_zero, List.set_cons_succ]
          go_big_quiet_on
          go_big_quiet_want
          apply Exists.intro
          refine ⟨fun u hu => ?_, ?_⟩
          · obtain ⟨hu0, hu1, hu2⟩ := hu
            unfold Oper.quietAt
            go_simp
            try rfl
          simp only [Act.put, List.setIfInBounds_toArray, List.set_cons_zero, List.set_cons_succ]
          go_big_quiet_on
          go_big_quiet_want
          refine ⟨.bool false, fun u hu => ?_, ?_⟩
          · obtain ⟨hu0, hu1, hu2⟩ := hu
            unfold Oper.quietAt
            go_simp
            refine (l1In_any _ _ _ _).mono ?_
            rintro e u9 ⟨he, rfl⟩
            rw [H2.out] at he
            exact ⟨he, KE _ hu0⟩
          simp only [Act.put, List.setIfInBounds_toArray, List.set_cons_zero, List.set_cons_succ]
          go_big_quiet_on
          go_big_quiet_want
          apply Exists.intro
          refine ⟨fun u hu => ?_, ?_⟩
          · obtain ⟨hu0, hu1, hu2⟩ := hu
            unfold Oper.quietAt
            go_simp
            try rfl
          simp only [Act.put, List.setIfInBounds_toArray, List.set_cons_zero, List.set_cons_succ]
          go_big_quiet_on
          go_big_quiet_want
          apply Exists.intro
          refine ⟨fun u hu => ?_, ?_⟩
          · obtain ⟨hu0, hu1, hu2⟩ := hu
            unfold Oper.quietAt
            go_simp
            try rfl
          simp only [Act.put, List.setIfInBounds_toArray, List.set_cons_zero, List.set_cons_succ]
          go_big_quiet_on
          go_big_quiet_want
          go_big_quiet_op
          go_big_quiet_on
          repeat go_big_quiet_skip
          go_big_quiet_want
          apply Exists.intro
          refine ⟨fun u hu => ?_, ?_⟩
          · obtain ⟨hu0, hu1, hu2⟩ := hu
            unfold Oper.quietAt
            go_simp
            try rfl
          simp only [Act.put, List.setIfInBounds_toArray, List.set_cons_zero, List.set_cons_succ]
          go_big_quiet_on
          refine wpQuiet_nil ?_
          rintro u ⟨k9, _⟩
          go_wp2_with fail
          go_ret
          exact ⟨ret_b HV.out.symm, hb.trans (k9.mono hsz)⟩
        | true =>
          by_cases hk0 : k = 0
          · subst hk0
            have HOK := Lib.hid (asc_1 HD.out q1)
            have H1 := Lib.hid q1
            have H2 := Lib.hid q2
            clear q1 q2
            have KE := fun (u : World) (q : Below wr.heap.size wr u) => show Below wr.heap.size wr u ∧ u.cell? p = some (.int .i64 x.id) ∧ u.cell? ⟨p.block, p.off + 1, none⟩ = some (.int .i64 x.club) from ⟨q, nwc3 q h0, nwc3 q h1⟩
            go_wp2_with fail
            refine wp_region_quiet (C := fun u => Below wr.heap.size wr u ∧ u.cell? p = some (.int .i64 x.id) ∧ u.cell? ⟨p.block, p.off + 1, none⟩ = some (.int .i64 x.club)) (by kernel_rfl) (by kernel_rfl) (KE _ (Below.refl wr.heap.size wr).drew) ?_
            rw [List.toList_toArray]
            go_big_quiet_want
            go_big_quiet_op
            go_big_quiet_on
            go_big_quiet_want
            go_big_quiet_op
            go_big_quiet_on
            go_big_quiet_want
            apply Exists.intro
            refine ⟨fun u hu => ?_, ?_⟩
            · obtain ⟨hu0, hu1, hu2⟩ := hu
              unfold Oper.quietAt
              go_simp
              try rfl
            simp only [Act.put, List.setIfInBounds_toArray, List.set_cons_zero, List.set_cons_succ]
            go_big_quiet_on
            go_big_quiet_want
            apply Exists.intro
            refine ⟨fun u hu => ?_, ?_⟩
            · obtain ⟨hu0, hu1, hu2⟩ := hu
              unfold Oper.quietAt
              go_simp
              try rfl
            simp only [Act.put, List.setIfInBounds_toArray, List.set_cons_zero, List.set_cons_succ]
            go_big_quiet_on
            go_big_quiet_want
            apply Exists.intro
            refine ⟨fun u hu => ?_, ?_⟩
            · obtain ⟨hu0, hu1, hu2⟩ := hu
              unfold Oper.quietAt
              go_simp
              try rfl
            simp only [Act.put, List.setIfInBounds_toArray, List.set_cons_zero, List.set_cons_succ]
            go_big_quiet_on
            go_big_quiet_want
            refine ⟨.bool true, fun u hu => ?_, ?_⟩
            · obtain ⟨hu0, hu1, hu2⟩ := hu
              unfold Oper.quietAt
              go_simp
              refine (l1In_any _ _ _ _).mono ?_
              rintro e u9 ⟨he, rfl⟩
              rw [H1.out] at he
              exact ⟨he, KE _ hu0⟩
            simp only [Act.put, List.setIfInBounds_toArray, List.set_cons_zero, List.set_cons_succ]
            go_big_quiet_on
            go_big_quiet_want
            apply Exists.intro
            refine ⟨fun u hu => ?_, ?_⟩
            · obtain ⟨hu0, hu1, hu2⟩ := hu
              unfold Oper.quietAt
              go_simp
              try rfl
            simp only [Act.put, List.setIfInBounds_toArray, List.set_cons_zero, List.set_cons_succ]
            go_big_quiet_on
            go_big_quiet_want
            go_big_quiet_op
            go_big_quiet_on
            go_big_quiet_want
            go_big_quiet_op
            go_big_quiet_on
            go_big_quiet_want
            go_big_quiet_op
            go_big_quiet_on
            go_big_quiet_want
            apply Exists.intro
            refine ⟨fun u hu => ?_, ?_⟩
            · obtain ⟨hu0, hu1, hu2⟩ := hu
              unfold Oper.quietAt
              go_simp
              try rfl
            simp only [Act.put, List.setIfInBounds_toArray, List.set_cons_zero, List.set_cons_succ]
            go_big_quiet_on
            go_big_quiet_want
            apply Exists.intro
            refine ⟨fun u hu => ?_, ?_⟩
            · obtain ⟨hu0, hu1, hu2⟩ := hu
              unfold Oper.quietAt
              go_simp
              try rfl
            simp only [Act.put, List.setIfInBounds_toArray, List.set_cons_zero, List.set_cons_succ]
            go_big_quiet_on
            go_big_quiet_want
            apply Exists.intro
            refine ⟨fun u hu => ?_, ?_⟩
            · obtain ⟨hu0, hu1, hu2⟩ := hu
              unfold Oper.quietAt
              go_simp
              try rfl
            simp only [Act.put, List.setIfInBounds_toArray, List.set_cons_zero, List.set_cons_succ]
            go_big_quiet_on
            go_big_quiet_want
            refine ⟨.bool true, fun u hu => ?_, ?_⟩
            · obtain ⟨hu0, hu1, hu2⟩ := hu
              unfold Oper.quietAt
              go_simp
              refine (l1In_any _ _ _ _).mono ?_
              rintro e u9 ⟨he, rfl⟩
              rw [H2.out] at he
              exact ⟨he, KE _ hu0⟩
            simp only [Act.put, List.setIfInBounds_toArray, List.set_cons_zero, List.set_cons_succ]
            go_big_quiet_on
            go_big_quiet_want
            apply Exists.intro
            refine ⟨fun u hu => ?_, ?_⟩
            · obtain ⟨hu0, hu1, hu2⟩ := hu
              unfold Oper.quietAt
              go_simp
              try rfl
            simp only [Act.put, List.setIfInBounds_toArray, List.set_cons_zero, List.set_cons_succ]
            go_big_quiet_on
            go_big_quiet_want
            apply Exists.intro
            refine ⟨fun u hu => ?_, ?_⟩
            · obtain ⟨hu0, hu1, hu2⟩ := hu
              unfold Oper.quietAt
              go_simp
              try rfl
            simp only [Act.put, List.setIfInBounds_toArray, List.set_cons_zero, List.set_cons_succ]
            go_big_quiet_on
            go_big_quiet_want
            go_big_quiet_op
            go_big_quiet_on
            go_big_quiet_want
            go_big_quiet_op
            go_big_quiet_on
            go_big_quiet_want
            apply Exists.intro
            refine ⟨fun u hu => ?_, ?_⟩
            · obtain ⟨hu0, hu1, hu2⟩ := hu
              unfold Oper.quietAt
              go_simp
              try rfl
            simp only [Act.put, List.setIfInBounds_toArray, List.set_cons_zero, List.set_cons_succ]
            go_big_quiet_on
            go_big_quiet_want
            go_big_quiet_op
            go_big_quiet_on
            repeat go_big_quiet_skip
            go_big_quiet_want
            apply Exists.intro
            refine ⟨fun u hu => ?_, ?_⟩
            · obtain ⟨hu0, hu1, hu2⟩ := hu
              unfold Oper.quietAt
              go_simp
              try rfl
            simp only [Act.put, List.setIfInBounds_toArray, List.set_cons_zero, List.set_cons_succ]
            go_big_quiet_on
            go_big_quiet_want
            apply Exists.intro
            refine ⟨fun u hu => ?_, ?_⟩
            · obtain ⟨hu0, hu1, hu2⟩ := hu
              unfold Oper.quietAt
              go_simp
              try rfl
            simp only [Act.put, List.setIfInBounds_toArray, List.set_cons_zero, List.set_cons_succ]
            go_big_quiet_on
            refine wpQuiet_nil ?_
            rintro u ⟨k9, _⟩
            have hbw := hb.trans (k9.mono hsz)
            have hs2u := nwc3 k9 h2
            have hru := (hrj.below k9).more k9.size
            have hbz := hbw.size
            obtain ⟨m9, hm9⟩ : ∃ m, x.seen.length = m := ⟨_, rfl⟩
            rw [hm9] at hs2u hsn
            have HM9 := Lib.hid hm9
            clear h0 h1 h2 hrj KE hm9 k9
            go_wp2_with fail
            go_loopw [4] (fun i wr => ∃ m : Nat, m ≤ m9 ∧ i = .int .i64 m ∧ Hid ((List.range m).all (ascAt x.seen) = true) ∧ Below u.heap.size u wr) (fun i _ => m9 - (intOf i).toNat)
            case atStart => exact ⟨0, Nat.zero_le _, rfl, Lib.hid rfl, Below.refl _ _⟩
            case round =>
              obtain ⟨m, hm, rfl, hma, hb3⟩ := hrel
              have hs2 := nwc3 hb3 hs2u
              by_cases hlm : m < m9
              · have hmz : m < x.seen.length := by rw [HM9.out]; exact hlm
                obtain ⟨aj, rfl, haj, e0⟩ := ivs_at ((hru.below hb3).more hb3.size) hmz
                obtain ⟨q, hq⟩ : ∃ q, aj.add m = q := ⟨_, rfl⟩
                rw [hq] at e0
                have hE : x.seen.getD m 0 = x.seen[m] := ascD hmz
                have HN := Lib.hid (fun h => ju_no hkz (juAt_s HAT.out (asc_no hmz h)))
                obtain ⟨z, hz⟩ : ∃ z, z = x.seen[m] := ⟨_, rfl⟩
                rw [← hz] at e0 hE
                have HE := Lib.hid hE
                have m0 : (0 : Int) ≤ (m : Int) := by omega
                have m1 : (m : Int) < (m9 : Int) := by omega
                clear hz hE
                cases q1 : inr z 1 99 with
                | false =>
                  have HV := Lib.hid (HN.out (asc_0 HE.out q1))
                  have H1 := Lib.hid q1
                  clear q1
                  have KE := fun (u : World) (q9 : Below wr.heap.size wr u) => show Below wr.heap.size wr u ∧ u.cell? ⟨p.block, p.off + 2, none⟩ = some (.slice (some aj) m9 cj) ∧ u.cell? q = some (.int .i64 z) from ⟨q9, nwc3 q9 hs2, nwc3 q9 e0⟩
                  go_wp2_with fail
                  refine wp_region_quiet (C := fun u => Below wr.heap.size wr u ∧ u.cell? ⟨p.block, p.off + 2, none⟩ = some (.slice (some aj) m9 cj) ∧ u.cell? q = some (.int .i64 z)) (by kernel_rfl) (by kernel_rfl) (KE _ (Below.refl wr.heap.size wr).drew) ?_
                  rw [List.toList_toArray]
                  go_big_quiet_want
                  go_big_quiet_op
                  go_big_quiet_on
                  go_big_quiet_want
                  go_big_quiet_op
                  go_big_quiet_on
                  go_big_quiet_want
                  apply Exists.intro
                  refine ⟨fun u hu => ?_, ?_⟩
                  · obtain ⟨hu0, hu1, hu2⟩ := hu
                    unfold Oper.quietAt
                    go_simp
                    try rfl
                  simp only [Act.put, List.setIfInBounds_toArray, List.set_cons_zero, List.set_cons_succ]
                  go_big_quiet_on
                  go_big_quiet_want
                  apply Exists.intro
                  refine ⟨fun u hu => ?_, ?_⟩
                  · obtain ⟨hu0, hu1, hu2⟩ := hu
                    unfold Oper.quietAt
                    go_simp
                    try rfl
                  simp only [Act.put, List.setIfInBounds_toArray, List.set_cons_zero, List.set_cons_succ]
                  go_big_quiet_on
                  go_big_quiet_want
                  apply Exists.intro
                  refine ⟨fun u hu => ?_, ?_⟩
                  · obtain ⟨hu0, hu1, hu2⟩ := hu
                    unfold Oper.quietAt
                    go_simp
                    try rfl
                  simp only [Act.put, List.setIfInBounds_toArray, List.set_cons_zero, List.set_cons_succ]
                  go_big_quiet_on
                  go_big_quiet_want
                  go_big_quiet_op
                  go_big_quiet_on
                  go_big_quiet_want
                  apply Exists.intro
                  refine ⟨fun u hu => ?_, ?_⟩
                  · obtain ⟨hu0, hu1, hu2⟩ := hu
                    unfold Oper.quietAt
                    go_simp
                    try rfl
                  simp only [Act.put, List.setIfInBounds_toArray, List.set_cons_zero, List.set_cons_succ]
                  go_big_quiet_on
                  go_big_quiet_want
                  apply Exists.intro
                  refine ⟨fun u hu => ?_, ?_⟩
                  · obtain ⟨hu0, hu1, hu2⟩ := hu
                    unfold Oper.quietAt
                    go_simp
                    try rfl
                  simp only [Act.put, List.setIfInBounds_toArray, List.set_cons_zero, List.set_cons_succ]
                  go_big_quiet_on
                  go_big_quiet_want
                  refine ⟨.bool false, fun u hu => ?_, ?_⟩
                  · obtain ⟨hu0, hu1, hu2⟩ := hu
                    unfold Oper.quietAt
                    go_simp
                    refine (l1In_any _ _ _ _).mono ?_
                    rintro e u9 ⟨he, rfl⟩
                    rw [H1.out] at he
                    exact ⟨he, KE _ hu0⟩
                  simp only [Act.put, List.setIfInBounds_toArray, List.set_cons_zero, List.set_cons_succ]
                  go_big_quiet_on
                  go_big_quiet_want
                  apply Exists.intro
                  refine ⟨fun u hu => ?_, ?_⟩
                  · obtain ⟨hu0, hu1, hu2⟩ := hu
                    unfold Oper.quietAt
                    go_simp
                    try rfl
                  simp only [Act.put, List.setIfInBounds_toArray, List.set_cons_zero, List.set_cons_succ]
                  go_big_quiet_on
                  go_big_quiet_want
                  go_big_quiet_op
                  go_big_quiet_on
                  repeat go_big_quiet_skip
                  go_big_quiet_want
                  apply Exists.intro
                  refine ⟨fun u hu => ?_, ?_⟩
                  · obtain ⟨hu0, hu1, hu2⟩ := hu
                    unfold Oper.quietAt
                    go_simp
                    try rfl
                  simp only [Act.put, List.setIfInBounds_toArray, List.set_cons_zero, List.set_cons_succ]
                  go_big_quiet_on
                  refine wpQuiet_nil ?_
                  rintro u3 ⟨k9, _⟩
                  go_wp2_with fail
                  go_ret
                  exact ⟨ret_b HV.out.symm, hbw.trans ((hb3.trans (k9.mono hb3.size)).mono hbw.size)⟩
                | true =>
                  by_cases hm0 : m = 0
                  · subst hm0
                    have HP := Lib.hid (asc_snoc hma.out (asc_1 HE.out q1))
                    have H1 := Lib.hid q1
                    clear q1
                    have KE := fun (u : World) (q9 : Below wr.heap.size wr u) => show Below wr.heap.size wr u ∧ u.cell? ⟨p.block, p.off + 2, none⟩ = some (.slice (some aj) m9 cj) ∧ u.cell? q = some (.int .i64 z) from ⟨q9, nwc3 q9 hs2, nwc3 q9 e0⟩
                    go_wp2_with fail
                    refine wp_region_quiet (C := fun u => Below wr.heap.size wr u ∧ u.cell? ⟨p.block, p.off + 2, none⟩ = some (.slice (some aj) m9 cj) ∧ u.cell? q = some (.int .i64 z)) (by kernel_rfl) (by kernel_rfl) (KE _ (Below.refl wr.heap.size wr).drew) ?_
                    rw [List.toList_toArray]
                    go_big_quiet_want
                    go_big_quiet_op
                    go_big_quiet_on
                    go_big_quiet_want
                    go_big_quiet_op
                    go_big_quiet_on
                    go_big_quiet_want
                    apply Exists.intro
                    refine ⟨fun u hu => ?_, ?_⟩
                    · obtain ⟨hu0, hu1, hu2⟩ := hu
                      unfold Oper.quietAt
                      go_simp
                      try rfl
                    simp only [Act.put, List.setIfInBounds_toArray, List.set_cons_zero, List.set_cons_succ]
                    go_big_quiet_on
                    go_big_quiet_want
                    apply Exists.intro
                    refine ⟨fun u hu => ?_, ?_⟩
                    · obtain ⟨hu0, hu1, hu2⟩ := hu
                      unfold Oper.quietAt
                      go_simp
                      try rfl
                    simp only [Act.put, List.setIfInBounds_toArray, List.set_cons_zero, List.set_cons_succ]
                    go_big_quiet_on
                    go_big_quiet_want
                    apply Exists.intro
                    refine ⟨fun u hu => ?_, ?_⟩
                    · obtain ⟨hu0, hu1, hu2⟩ := hu
                      unfold Oper.quietAt
                      go_simp
                      try rfl
                    simp only [Act.put, List.setIfInBounds_toArray, List.set_cons_zero, List.set_cons_succ]
                    go_big_quiet_on
                    go_big_quiet_want
                    go_big_quiet_op
                    go_big_quiet_on
                    go_big_quiet_want
                    apply Exists.intro
                    refine ⟨fun u hu => ?_, ?_⟩
                    · obtain ⟨hu0, hu1, hu2⟩ := hu
                      unfold Oper.quietAt
                      go_simp
                      try rfl
                    simp only [Act.put, List.setIfInBounds_toArray, List.set_cons_zero, List.set_cons_succ]
                    go_big_quiet_on
                    go_big_quiet_want
                    apply Exists.intro
                    refine ⟨fun u hu => ?_, ?_⟩
                    · obtain ⟨hu0, hu1, hu2⟩ := hu
                      unfold Oper.quietAt
                      go_simp
                      try rfl
                    simp only [Act.put, List.setIfInBounds_toArray, List.set_cons_zero, List.set_cons_succ]
                    go_big_quiet_on
                    go_big_quiet_want
                    refine ⟨.bool true, fun u hu => ?_, ?_⟩
                    · obtain ⟨hu0, hu1, hu2⟩ := hu
                      unfold Oper.quietAt
                      go_simp
                      refine (l1In_any _ _ _ _).mono ?_
                      rintro e u9 ⟨he, rfl⟩
                      rw [H1.out] at he
                      exact ⟨he, KE _ hu0⟩
                    simp only [Act.put, List.setIfInBounds_toArray, List.set_cons_zero, List.set_cons_succ]
                    go_big_quiet_on
                    go_big_quiet_want
                    apply Exists.intro
                    refine ⟨fun u hu => ?_, ?_⟩
                    · obtain ⟨hu0, hu1, hu2⟩ := hu
                      unfold Oper.quietAt
                      go_simp
                      try rfl
                    simp only [Act.put, List.setIfInBounds_toArray, List.set_cons_zero, List.set_cons_succ]
                    go_big_quiet_on
                    go_big_quiet_want
                    go_big_quiet_op
                    go_big_quiet_on
                    go_big_quiet_want
                    go_big_quiet_op
                    go_big_quiet_on
                    go_big_quiet_want
                    apply Exists.intro
                    refine ⟨fun u hu => ?_, ?_⟩
                    · obtain ⟨hu0, hu1, hu2⟩ := hu
                      unfold Oper.quietAt
                      go_simp
                      try rfl
                    simp only [Act.put, List.setIfInBounds_toArray, List.set_cons_zero, List.set_cons_succ]
                    go_big_quiet_on
                    go_big_quiet_want
                    go_big_quiet_op
                    go_big_quiet_on
                    repeat go_big_quiet_skip
                    go_big_quiet_want
                    apply Exists.intro
                    refine ⟨fun u hu => ?_, ?_⟩
                    · obtain ⟨hu0, hu1, hu2⟩ := hu
                      unfold Oper.quietAt
                      go_simp
                      try rfl
                    simp only [Act.put, List.setIfInBounds_toArray, List.set_cons_zero, List.set_cons_succ]
                    go_big_quiet_on
                    go_big_quiet_want
                    apply Exists.intro
                    refine ⟨fun u hu => ?_, ?_⟩
                    · obtain ⟨hu0, hu1, hu2⟩ := hu
                      unfold Oper.quietAt
                      go_simp
                      try rfl
                    simp only [Act.put, List.setIfInBounds_toArray, List.set_cons_zero, List.set_cons_succ]
                    go_big_quiet_on
                    refine wpQuiet_nil ?_
                    rintro u3 ⟨k9, _⟩
                    go_wp2_with fail
                    go_roundw
                    case rel => exact ⟨1, by omega, by go_num, HP, hb3.trans (k9.mono hb3.size)⟩
                    case measure => simp [intOf]; omega
                  · obtain ⟨j2, hj2⟩ : ∃ j, m = j + 1 := ⟨m - 1, by omega⟩
                    have hmk1 : j2 < x.seen.length := by omega
                    have jj0 : (0 : Int) ≤ (j2 : Int) := by omega
                    have jj1 : (j2 : Int) < (m9 : Int) := by omega
                    have hwj2 : IntKind.i64.wrap ((m : Int) - 1) = (j2 : Int) := (IntWalk.i64_in ((m : Int) - 1) (by omega)).trans (by omega)
                    have hmp : 0 < m := by omega
                    have hmp' : (0 : Int) < (m : Int) := by omega
                    have dm : decide ((0 : Int) < (m : Int)) = true := decide_eq_true hmp'
                    obtain ⟨aj', ej', haj', f0⟩ := ivs_at ((hru.below hb3).more hb3.size) hmk1
                    injection ej' with ej'
                    subst ej'
                    obtain ⟨q', hq'⟩ : ∃ q, aj.add j2 = q := ⟨_, rfl⟩
                    rw [hq'] at f0
                    have hEj : x.seen.getD j2 0 = x.seen[j2] := ascD hmk1
                    obtain ⟨y2, hy2⟩ : ∃ z, z = x.seen[j2] := ⟨_, rfl⟩
                    rw [← hy2] at f0 hEj
                    have HA2 := Lib.hid (asc_2 HE.out hj2 hEj q1)
                    have H1 := Lib.hid q1
                    clear q1 hj2 hy2 hEj
                    by_cases hxy2 : y2 < z
                    · have HP := Lib.hid (asc_snoc hma.out (HA2.out.trans (decide_eq_true hxy2)))
                      have d1 : decide (z ≤ y2) = false := decide_eq_false (by omega)
                      have KE := fun (u : World) (q9 : Below wr.heap.size wr u) => show Below wr.heap.size wr u ∧ u.cell? ⟨p.block, p.off + 2, none⟩ = some (.slice (some aj) m9 cj) ∧ u.cell? q = some (.int .i64 z) ∧ u.cell? q' = some (.int .i64 y2) from ⟨q9, nwc3 q9 hs2, nwc3 q9 e0, nwc3 q9 f0⟩
                      go_wp2_with fail
                      refine wp_region_quiet (C := fun u => Below wr.heap.size wr u ∧ u.cell? ⟨p.block, p.off + 2, none⟩ = some (.slice (some aj) m9 cj) ∧ u.cell? q = some (.int .i64 z) ∧ u.cell? q' = some (.int .i64 y2)) (by kernel_rfl) (by kernel_rfl) (KE _ (Below.refl wr.heap.size wr).drew) ?_
                      rw [List.toList_toArray]
                      go_big_quiet_want
                      go_big_quiet_op
                      go_big_quiet_on
                      go_big_quiet_want
                      go_big_quiet_op
                      go_big_quiet_on
                      go_big_quiet_want
                      apply Exists.intro
                      refine ⟨fun u hu => ?_, ?_⟩
                      · obtain ⟨hu0, hu1, hu2, hu3⟩ := hu
                        unfold Oper.quietAt
                        go_simp
                        try rfl
                      simp only [Act.put, List.setIfInBounds_toArray, List.set_cons_zero, List.set_cons_succ]
                      go_big_quiet_on
                      go_big_quiet_want
                      apply Exists.intro
                      refine ⟨fun u hu => ?_, ?_⟩
                      · obtain ⟨hu0, hu1, hu2, hu3⟩ := hu
                        unfold Oper.quietAt
                        go_simp
                        try rfl
                      simp only [Act.put, List.setIfInBounds_toArray, List.set_cons_zero, List.set_cons_succ]
                      go_big_quiet_on
                      go_big_quiet_want
                      apply Exists.intro
                      refine ⟨fun u hu => ?_, ?_⟩
                      · obtain ⟨hu0, hu1, hu2, hu3⟩ := hu
                        unfold Oper.quietAt
                        go_simp
                        try rfl
                      simp only [Act.put, List.setIfInBounds_toArray, List.set_cons_zero, List.set_cons_succ]
                      go_big_quiet_on
                      go_big_quiet_want
                      go_big_quiet_op
                      go_big_quiet_on
                      go_big_quiet_want
                      apply Exists.intro
                      refine ⟨fun u hu => ?_, ?_⟩
                      · obtain ⟨hu0, hu1, hu2, hu3⟩ := hu
                        unfold Oper.quietAt
                        go_simp
                        try rfl
                      simp only [Act.put, List.setIfInBounds_toArray, List.set_cons_zero, List.set_cons_succ]
                      go_big_quiet_on
                      go_big_quiet_want
                      apply Exists.intro
                      refine ⟨fun u hu => ?_, ?_⟩
                      · obtain ⟨hu0, hu1, hu2, hu3⟩ := hu
                        unfold Oper.quietAt
                        go_simp
                        try rfl
                      simp only [Act.put, List.setIfInBounds_toArray, List.set_cons_zero, List.set_cons_succ]
                      go_big_quiet_on
                      go_big_quiet_want
                      refine ⟨.bool true, fun u hu => ?_, ?_⟩
                      · obtain ⟨hu0, hu1, hu2, hu3⟩ := hu
                        unfold Oper.quietAt
                        go_simp
                        refine (l1In_any _ _ _ _).mono ?_
                        rintro e u9 ⟨he, rfl⟩
                        rw [H1.out] at he
                        exact ⟨he, KE _ hu0⟩
                      simp only [Act.put, List.setIfInBounds_toArray, List.set_cons_zero, List.set_cons_succ]
                      go_big_quiet_on
                      go_big_quiet_want
                      apply Exists.intro
                      refine ⟨fun u hu => ?_, ?_⟩
                      · obtain ⟨hu0, hu1, hu2, hu3⟩ := hu
                        unfold Oper.quietAt
                        go_simp
                        try rfl
                      simp only [Act.put, List.setIfInBounds_toArray, List.set_cons_zero, List.set_cons_succ]
                      go_big_quiet_on
                      go_big_quiet_want
                      go_big_quiet_op
                      go_big_quiet_on
                      go_big_quiet_want
                      go_big_quiet_op
                      go_big_quiet_on
                      go_big_quiet_want
                      apply Exists.intro
                      refine ⟨fun u hu => ?_, ?_⟩
                      · obtain ⟨hu0, hu1, hu2, hu3⟩ := hu
                        unfold Oper.quietAt
                        go_simp
                        try rfl
                      simp only [Act.put, List.setIfInBounds_toArray, List.set_cons_zero, List.set_cons_succ]
                      go_big_quiet_on
                      go_big_quiet_want
                      go_big_quiet_op
                      go_big_quiet_on
                      go_big_quiet_want
                      go_big_quiet_op
                      go_big_quiet_on
                      go_big_quiet_want
                      go_big_quiet_op
                      go_big_quiet_on
                      go_big_quiet_want
                      apply Exists.intro
                      refine ⟨fun u hu => ?_, ?_⟩
                      · obtain ⟨hu0, hu1, hu2, hu3⟩ := hu
                        unfold Oper.quietAt
                        go_simp
                        try rfl
                      simp only [Act.put, List.setIfInBounds_toArray, List.set_cons_zero, List.set_cons_succ]
                      go_big_quiet_on
                      go_big_quiet_want
                      apply Exists.intro
                      refine ⟨fun u hu => ?_, ?_⟩
                      · obtain ⟨hu0, hu1, hu2, hu3⟩ := hu
                        unfold Oper.quietAt
                        go_simp
                        try rfl
                      simp only [Act.put, List.setIfInBounds_toArray, List.set_cons_zero, List.set_cons_succ]
                      go_big_quiet_on
                      go_big_quiet_want
                      apply Exists.intro
                      refine ⟨fun u hu => ?_, ?_⟩
                      · obtain ⟨hu0, hu1, hu2, hu3⟩ := hu
                        unfold Oper.quietAt
                        go_simp
                        try rfl
                      simp only [Act.put, List.setIfInBounds_toArray, List.set_cons_zero, List.set_cons_succ]
                      go_big_quiet_on
                      go_big_quiet_want
                      go_big_quiet_op
                      go_big_quiet_on
                      go_big_quiet_want
                      apply Exists.intro
                      refine ⟨fun u hu => ?_, ?_⟩
                      · obtain ⟨hu0, hu1, hu2, hu3⟩ := hu
                        unfold Oper.quietAt
                        go_simp
                        try rfl
                      simp only [Act.put, List.setIfInBounds_toArray, List.set_cons_zero, List.set_cons_succ]
                      go_big_quiet_on
                      go_big_quiet_want
                      apply Exists.intro
                      refine ⟨fun u hu => ?_, ?_⟩
                      · obtain ⟨hu0, hu1, hu2, hu3⟩ := hu
                        unfold Oper.quietAt
                        go_simp
                        try rfl
                      simp only [Act.put, List.setIfInBounds_toArray, List.set_cons_zero, List.set_cons_succ]
                      go_big_quiet_on
                      go_big_quiet_want
                      apply Exists.intro
                      refine ⟨fun u hu => ?_, ?_⟩
                      · obtain ⟨hu0, hu1, hu2, hu3⟩ := hu
                        unfold Oper.quietAt
                        go_simp
                        try rfl
                      simp only [Act.put, List.setIfInBounds_toArray, List.set_cons_zero, List.set_cons_succ]
                      go_big_quiet_on
                      go_big_quiet_want
                      go_big_quiet_op
                      go_big_quiet_on
                      go_big_quiet_want
                      go_big_quiet_op
                      go_big_quiet_on
                      go_big_quiet_want
                      apply Exists.intro
                      refine ⟨fun u hu => ?_, ?_⟩
                      · obtain ⟨hu0, hu1, hu2, hu3⟩ := hu
                        unfold Oper.quietAt
                        go_simp
                        try rfl
                      simp only [Act.put, List.setIfInBounds_toArray, List.set_cons_zero, List.set_cons_succ]
                      go_big_quiet_on
                      go_big_quiet_want
                      apply Exists.intro
                      refine ⟨fun u hu => ?_, ?_⟩
                      · obtain ⟨hu0, hu1, hu2, hu3⟩ := hu
                        unfold Oper.quietAt
                        go_simp
                        try rfl
                      simp only [Act.put, List.setIfInBounds_toArray, List.set_cons_zero, List.set_cons_succ]
                      go_big_quiet_on
                      go_big_quiet_want
                      apply Exists.intro
                      refine ⟨fun u hu => ?_, ?_⟩
                      · obtain ⟨hu0, hu1, hu2, hu3⟩ := hu
                        unfold Oper.quietAt
                        go_simp
                        try rfl
                      simp only [Act.put, List.setIfInBounds_toArray, List.set_cons_zero, List.set_cons_succ]
                      go_big_quiet_on
                      go_big_quiet_want
                      go_big_quiet_op
                      go_big_quiet_on
                      go_big_quiet_want
                      apply Exists.intro
                      refine ⟨fun u hu => ?_, ?_⟩
                      · obtain ⟨hu0, hu1, hu2, hu3⟩ := hu
                        unfold Oper.quietAt
                        go_simp
                        try rfl
                      simp only [Act.put, List.setIfInBounds_toArray, List.set_cons_zero, List.set_cons_succ]
                      go_big_quiet_on
                      go_big_quiet_want
                      apply Exists.intro
                      refine ⟨fun u hu => ?_, ?_⟩
                      · obtain ⟨hu0, hu1, hu2, hu3⟩ := hu
                        unfold Oper.quietAt
                        go_simp
                        try rfl
                      simp only [Act.put, List.setIfInBounds_toArray, List.set_cons_zero, List.set_cons_succ]
                      go_big_quiet_on
                      go_big_quiet_want
                      apply Exists.intro
                      refine ⟨fun u hu => ?_, ?_⟩
                      · obtain ⟨hu0, hu1, hu2, hu3⟩ := hu
                        unfold Oper.quietAt
                        go_simp
                        try rfl
                      simp only [Act.put, List.setIfInBounds_toArray, List.set_cons_zero, List.set_cons_succ]
                      go_big_quiet_on
                      go_big_quiet_want
                      apply Exists.intro
                      refine ⟨fun u hu => ?_, ?_⟩
                      · obtain ⟨hu0, hu1, hu2, hu3⟩ := hu
                        unfold Oper.quietAt
                        go_simp
                        try rfl
                      simp only [Act.put, List.setIfInBounds_toArray, List.set_cons_zero, List.set_cons_succ]
                      go_big_quiet_on
                      go_big_quiet_want
                      apply Exists.intro
                      refine ⟨fun u hu => ?_, ?_⟩
                      · obtain ⟨hu0, hu1, hu2, hu3⟩ := hu
                        unfold Oper.quietAt
                        go_simp
                        try rfl
                      simp only [Act.put, List.setIfInBounds_toArray, List.set_cons_zero, List.set_cons_succ]
                      go_big_quiet_on
                      refine wpQuiet_nil ?_
                      rintro u3 ⟨k9, _⟩
                      go_wp2_with fail
                      go_roundw
                      case rel => exact ⟨m + 1, by omega, by go_num, HP, hb3.trans (k9.mono hb3.size)⟩
                      case measure => simp [intOf]; omega
                    · have HV := Lib.hid (HN.out (HA2.out.trans (decide_eq_false hxy2)))
                      have d1 : decide (z ≤ y2) = true := decide_eq_true (by omega)
                      have KE := fun (u : World) (q9 : Below wr.heap.size wr u) => show Below wr.heap.size wr u ∧ u.cell? ⟨p.block, p.off + 2, none⟩ = some (.slice (some aj) m9 cj) ∧ u.cell? q = some (.int .i64 z) ∧ u.cell? q' = some (.int .i64 y2) from ⟨q9, nwc3 q9 hs2, nwc3 q9 e0, nwc3 q9 f0⟩
                      go_wp2_with fail
                      refine wp_region_quiet (C := fun u => Below wr.heap.size wr u ∧ u.cell? ⟨p.block, p.off + 2, none⟩ = some (.slice (some aj) m9 cj) ∧ u.cell? q = some (.int .i64 z) ∧ u.cell? q' = some (.int .i64 y2)) (by kernel_rfl) (by kernel_rfl) (KE _ (Below.refl wr.heap.size wr).drew) ?_
                      rw [List.toList_toArray]
                      go_big_quiet_want
                      go_big_quiet_op
                      go_big_quiet_on
                      go_big_quiet_want
                      go_big_quiet_op
                      go_big_quiet_on
                      go_big_quiet_want
                      apply Exists.intro
                      refine ⟨fun u hu => ?_, ?_⟩
                      · obtain ⟨hu0, hu1, hu2, hu3⟩ := hu
                        unfold Oper.quietAt
                        go_simp
                        try rfl
                      simp only [Act.put, List.setIfInBounds_toArray, List.set_cons_zero, List.set_cons_succ]
                      go_big_quiet_on
                      go_big_quiet_want
                      apply Exists.intro
                      refine ⟨fun u hu => ?_, ?_⟩
                      · obtain ⟨hu0, hu1, hu2, hu3⟩ := hu
                        unfold Oper.quietAt
                        go_simp
                        try rfl
                      simp only [Act.put, List.setIfInBounds_toArray, List.set_cons_zero, List.set_cons_succ]
                      go_big_quiet_on
                      go_big_quiet_want
                      apply Exists.intro
                      refine ⟨fun u hu => ?_, ?_⟩
                      · obtain ⟨hu0, hu1, hu2, hu3⟩ := hu
                        unfold Oper.quietAt
                        go_simp
                        try rfl
                      simp only [Act.put, List.setIfInBounds_toArray, List.set_cons_zero, List.set_cons_succ]
                      go_big_quiet_on
                      go_big_quiet_want
                      go_big_quiet_op
                      go_big_quiet_on
                      go_big_quiet_want
                      apply Exists.intro
                      refine ⟨fun u hu => ?_, ?_⟩
                      · obtain ⟨hu0, hu1, hu2, hu3⟩ := hu
                        unfold Oper.quietAt
                        go_simp
                        try rfl
                      simp only [Act.put, List.setIfInBounds_toArray, List.set_cons_zero, List.set_cons_succ]
                      go_big_quiet_on
                      go_big_quiet_want
                      apply Exists.intro
                      refine ⟨fun u hu => ?_, ?_⟩
                      · obtain ⟨hu0, hu1, hu2, hu3⟩ := hu
                        unfold Oper.quietAt
                        go_simp
                        try rfl
                      simp only [Act.put, List.setIfInBounds_toArray, List.set_cons_zero, List.set_cons_succ]
                      go_big_quiet_on
                      go_big_quiet_want
                      refine ⟨.bool true, fun u hu => ?_, ?_⟩
                      · obtain ⟨hu0, hu1, hu2, hu3⟩ := hu
                        unfold Oper.quietAt
                        go_simp
                        refine (l1In_any _ _ _ _).mono ?_
                        rintro e u9 ⟨he, rfl⟩
                        rw [H1.out] at he
                        exact ⟨he, KE _ hu0⟩
                      simp only [Act.put, List.setIfInBounds_toArray, List.set_cons_zero, List.set_cons_succ]
                      go_big_quiet_on
                      go_big_quiet_want
                      apply Exists.intro
                      refine ⟨fun u hu => ?_, ?_⟩
                      · obtain ⟨hu0, hu1, hu2, hu3⟩ := hu
                        unfold Oper.quietAt
                        go_simp
                        try rfl
                      simp only [Act.put, List.setIfInBounds_toArray, List.set_cons_zero, List.set_cons_succ]
                      go_big_quiet_on
                      go_big_quiet_want
                      go_big_quiet_op
                      go_big_quiet_on
                      go_big_quiet_want
                      go_big_quiet_op
                      go_big_quiet_on
                      go_big_quiet_want
                      apply Exists.intro
                      refine ⟨fun u hu => ?_, ?_⟩
                      · obtain ⟨hu0, hu1, hu2, hu3⟩ := hu
                        unfold Oper.quietAt
                        go_simp
                        try rfl
                      simp only [Act.put, List.setIfInBounds_toArray, List.set_cons_zero, List.set_cons_succ]
                      go_big_quiet_on
                      go_big_quiet_want
                      go_big_quiet_op
                      go_big_quiet_on
                      go_big_quiet_want
                      go_big_quiet_op
                      go_big_quiet_on
                      go_big_quiet_want
                      go_big_quiet_op
                      go_big_quiet_on
                      go_big_quiet_want
                      apply Exists.intro
                      refine ⟨fun u hu => ?_, ?_⟩
                      · obtain ⟨hu0, hu1, hu2, hu3⟩ := hu
                        unfold Oper.quietAt
                        go_simp
                        try rfl
                      simp only [Act.put, List.setIfInBounds_toArray, List.set_cons_zero, List.set_cons_succ]
                      go_big_quiet_on
                      go_big_quiet_want
                      apply Exists.intro
                      refine ⟨fun u hu => ?_, ?_⟩
                      · obtain ⟨hu0, hu1, hu2, hu3⟩ := hu
                        unfold Oper.quietAt
                        go_simp
                        try rfl
                      simp only [Act.put, List.setIfInBounds_toArray, List.set_cons_zero, List.set_cons_succ]
                      go_big_quiet_on
                      go_big_quiet_want
                      apply Exists.intro
                      refine ⟨fun u hu => ?_, ?_⟩
                      · obtain ⟨hu0, hu1, hu2, hu3⟩ := hu
                        unfold Oper.quietAt
                        go_simp
                        try rfl
                      simp only [Act.put, List.setIfInBounds_toArray, List.set_cons_zero, List.set_cons_succ]
                      go_big_quiet_on
                      go_big_quiet_want
                      go_big_quiet_op
                      go_big_quiet_on
                      go_big_quiet_want
                      apply Exists.intro
                      refine ⟨fun u hu => ?_, ?_⟩
                      · obtain ⟨hu0, hu1, hu2, hu3⟩ := hu
                        unfold Oper.quietAt
                        go_simp
                        try rfl
                      simp only [Act.put, List.setIfInBounds_toArray, List.set_cons_zero, List.set_cons_succ]
                      go_big_quiet_on
                      go_big_quiet_want
                      apply Exists.intro
                      refine ⟨fun u hu => ?_, ?_⟩
                      · obtain ⟨hu0, hu1, hu2, hu3⟩ := hu
                        unfold Oper.quietAt
                        go_simp
                        try rfl
                      simp only [Act.put, List.setIfInBounds_toArray, List.set_cons_zero, List.set_cons_succ]
                      go_big_quiet_on
                      go_big_quiet_want
                      apply Exists.intro
                      refine ⟨fun u hu => ?_, ?_⟩
                      · obtain ⟨hu0, hu1, hu2, hu3⟩ := hu
                        unfold Oper.quietAt
                        go_simp
                        try rfl
                      simp only [Act.put, List.setIfInBounds_toArray, List.set_cons_zero, List.set_cons_succ]
                      go_big_quiet_on
                      go_big_quiet_want
                      go_big_quiet_op
                      go_big_quiet_on
                      go_big_quiet_want
                      go_big_quiet_op
                      go_big_quiet_on
                      go_big_quiet_want
                      apply Exists.intro
                      refine ⟨fun u hu => ?_, ?_⟩
                      · obtain ⟨hu0, hu1, hu2, hu3⟩ := hu
                        unfold Oper.quietAt
                        go_simp
                        try rfl
                      simp only [Act.put, List.setIfInBounds_toArray, List.set_cons_zero, List.set_cons_succ]
                      go_big_quiet_on
                      go_big_quiet_want
                      apply Exists.intro
                      refine ⟨fun u hu => ?_, ?_⟩
                      · obtain ⟨hu0, hu1, hu2, hu3⟩ := hu
                        unfold Oper.quietAt
                        go_simp
                        try rfl
                      simp only [Act.put, List.setIfInBounds_toArray, List.set_cons_zero, List.set_cons_succ]
                      go_big_quiet_on
                      go_big_quiet_want
                      apply Exists.intro
                      refine ⟨fun u hu => ?_, ?_⟩
                      · obtain ⟨hu0, hu1, hu2, hu3⟩ := hu
                        unfold Oper.quietAt
                        go_simp
                        try rfl
                      simp only [Act.put, List.setIfInBounds_toArray, List.set_cons_zero, List.set_cons_succ]
                      go_big_quiet_on
                      go_big_quiet_want
                      go_big_quiet_op
                      go_big_quiet_on
                      go_big_quiet_want
                      apply Exists.intro
                      refine ⟨fun u hu => ?_, ?_⟩
                      · obtain ⟨hu0, hu1, hu2, hu3⟩ := hu
                        unfold Oper.quietAt
                        go_simp
                        try rfl
                      simp only [Act.put, List.setIfInBounds_toArray, List.set_cons_zero, List.set_cons_succ]
                      go_big_quiet_on
                      go_big_quiet_want
                      apply Exists.intro
                      refine ⟨fun u hu => ?_, ?_⟩
                      · obtain ⟨hu0, hu1, hu2, hu3⟩ := hu
                        unfold Oper.quietAt
                        go_simp
                        try rfl
                      simp only [Act.put, List.setIfInBounds_toArray, List.set_cons_zero, List.set_cons_succ]
                      go_big_quiet_on
                      go_big_quiet_want
                      apply Exists.intro
                      refine ⟨fun u hu => ?_, ?_⟩
                      · obtain ⟨hu0, hu1, hu2, hu3⟩ := hu
                        unfold Oper.quietAt
                        go_simp
                        try rfl
                      simp only [Act.put, List.setIfInBounds_toArray, List.set_cons_zero, List.set_cons_succ]
                      go_big_quiet_on
                      go_big_quiet_want
                      apply Exists.intro
                      refine ⟨fun u hu => ?_, ?_⟩
                      · obtain ⟨hu0, hu1, hu2, hu3⟩ := hu
                        unfold Oper.quietAt
                        go_simp
                        try rfl
                      simp only [Act.put, List.setIfInBounds_toArray, List.set_cons_zero, List.set_cons_succ]
                      go_big_quiet_on
                      go_big_quiet_want
                      apply Exists.intro
                      refine ⟨fun u hu => ?_, ?_⟩
                      · obtain ⟨hu0, hu1, hu2, hu3⟩ := hu
                        unfold Oper.quietAt
                        go_simp
                        try rfl
                      simp only [Act.put, List.setIfInBounds_toArray, List.set_cons_zero, List.set_cons_succ]
                      go_big_quiet_on
                      refine wpQuiet_nil ?_
                      rintro u3 ⟨k9, _⟩
                      go_wp2_with fail
                      go_ret
                      exact ⟨ret_b HV.out.symm, hbw.trans ((hb3.trans (k9.mono hb3.size)).mono hbw.size)⟩
              · have e : m = m9 := by omega
                subst e
                have HP := Lib.hid (ju_snoc ha.out (juAt_y HAT.out HOK.out H2.out (asc_end HM9.out hma.out)))
                have hb4 := hbw.trans (hb3.mono hbz)
                go_wp2_with fail
                go_roundw
                case rel => exact ⟨1, by omega, by go_num, HP, hb4⟩
                case measure => simp [intOf]; omega
          · obtain ⟨j, hj⟩ : ∃ j, k = j + 1 := ⟨k - 1, by omega⟩
            have hk1 : j < X.length := by omega
            have j0 : (0 : Int) ≤ (j : Int) := by omega
            have j1 : (j : Int) < (n : Int) := by omega
            have hwj : IntKind.i64.wrap ((k : Int) - 1) = (j : Int) := (IntWalk.i64_in ((k : Int) - 1) (by omega)).trans (by omega)
            have hkp : 0 < k := by omega
            have hkp' : (0 : Int) < (k : Int) := by omega
            have dk : decide ((0 : Int) < (k : Int)) = true := decide_eq_true hkp'
            obtain ⟨ad', p', e', hp', hab', _, _, g0, _⟩ := hrr.at_ hk1
            injection e' with e'
            subst e'
            have hDj := juD hk1
            obtain ⟨y, hy⟩ : ∃ y, y = X[j] := ⟨_, rfl⟩
            rw [← hy] at g0 hDj
            have HA := Lib.hid (asc_2 HD.out hj hDj q1)
            have H1 := Lib.hid q1
            have H2 := Lib.hid q2
            clear q1 q2 hj hy hDj
            by_cases hxy : y.id < x.id
            · have HOK := Lib.hid (HA.out.trans (decide_eq_true hxy))
              have d1 : decide (x.id ≤ y.id) = false := decide_eq_false (by omega)
              have KE := fun (u : World) (q : Below wr.heap.size wr u) => show Below wr.heap.size wr u ∧ u.cell? p = some (.int .i64 x.id) ∧ u.cell? ⟨p.block, p.off + 1, none⟩ = some (.int .i64 x.club) ∧ u.cell? p' = some (.int .i64 y.id) from ⟨q, nwc3 q h0, nwc3 q h1, nwc3 q g0⟩
              go_wp2_with fail
              refine wp_region_quiet (C := fun u => Below wr.heap.size wr u ∧ u.cell? p = some (.int .i64 x.id) ∧ u.cell? ⟨p.block, p.off + 1, none⟩ = some (.int .i64 x.club) ∧ u.cell? p' = some (.int .i64 y.id)) (by kernel_rfl) (by kernel_rfl) (KE _ (Below.refl wr.heap.size wr).drew) ?_
              rw [List.toList_toArray]
              go_big_quiet_want
              go_big_quiet_op
              go_big_quiet_on
              go_big_quiet_want
              go_big_quiet_op
              go_big_quiet_on
              go_big_quiet_want
              apply Exists.intro
              refine ⟨fun u hu => ?_, ?_⟩
              · obtain ⟨hu0, hu1, hu2, hu3⟩ := hu
                unfold Oper.quietAt
                go_simp
                try rfl
              simp only [Act.put, List.setIfInBounds_toArray, List.set_cons_zero, List.set_cons_succ]
              go_big_quiet_on
              go_big_quiet_want
              apply Exists.intro
              refine ⟨fun u hu => ?_, ?_⟩
              · obtain ⟨hu0, hu1, hu2, hu3⟩ := hu
                unfold Oper.quietAt
                go_simp
                try rfl
              simp only [Act.put, List.setIfInBounds_toArray, List.set_cons_zero, List.set_cons_succ]
              go_big_quiet_on
              go_big_quiet_want
              apply Exists.intro
              refine ⟨fun u hu => ?_, ?_⟩
              · obtain ⟨hu0, hu1, hu2, hu3⟩ := hu
                unfold Oper.quietAt
                go_simp
                try rfl
              simp only [Act.put, List.setIfInBounds_toArray, List.set_cons_zero, List.set_cons_succ]
              go_big_quiet_on
              go_big_quiet_want
              refine ⟨.bool true, fun u hu => ?_, ?_⟩
              · obtain ⟨hu0, hu1, hu2, hu3⟩ := hu
                unfold Oper.quietAt
                go_simp
                refine (l1In_any _ _ _ _).mono ?_
                rintro e u9 ⟨he, rfl⟩
                rw [H1.out] at he
                exact ⟨he, KE _ hu0⟩
              simp only [Act.put, List.setIfInBounds_toArray, List.set_cons_zero, List.set_cons_succ]
              go_big_quiet_on
              go_big_quiet_want
              apply Exists.intro
              refine ⟨fun u hu => ?_, ?_⟩
              · obtain ⟨hu0, hu1, hu2, hu3⟩ := hu
                unfold Oper.quietAt
                go_simp
                try rfl
              simp only [Act.put, List.setIfInBounds_toArray, List.set_cons_zero, List.set_cons_succ]
              go_big_quiet_on
              go_big_quiet_want
              go_big_quiet_op
              go_big_quiet_on
              go_big_quiet_want
              go_big_quiet_op
              go_big_quiet_on
              go_big_quiet_want
              go_big_quiet_op
              go_big_quiet_on
              go_big_quiet_want
              apply Exists.intro
              refine ⟨fun u hu => ?_, ?_⟩
              · obtain ⟨hu0, hu1, hu2, hu3⟩ := hu
                unfold Oper.quietAt
                go_simp
                try rfl
              simp only [Act.put, List.setIfInBounds_toArray, List.set_cons_zero, List.set_cons_succ]
              go_big_quiet_on
              go_big_quiet_want
              apply Exists.intro
              refine ⟨fun u hu => ?_, ?_⟩
              · obtain ⟨hu0, hu1, hu2, hu3⟩ := hu
                unfold Oper.quietAt
                go_simp
                try rfl
              simp only [Act.put, List.setIfInBounds_toArray, List.set_cons_zero, List.set_cons_succ]
              go_big_quiet_on
              go_big_quiet_want
              apply Exists.intro
              refine ⟨fun u hu => ?_, ?_⟩
              · obtain ⟨hu0, hu1, hu2, hu3⟩ := hu
                unfold Oper.quietAt
                go_simp
                try rfl
              simp only [Act.put, List.setIfInBounds_toArray, List.set_cons_zero, List.set_cons_succ]
              go_big_quiet_on
              go_big_quiet_want
              refine ⟨.bool true, fun u hu => ?_, ?_⟩
              · obtain ⟨hu0, hu1, hu2, hu3⟩ := hu
                unfold Oper.quietAt
                go_simp
                refine (l1In_any _ _ _ _).mono ?_
                rintro e u9 ⟨he, rfl⟩
                rw [H2.out] at he
                exact ⟨he, KE _ hu0⟩
              simp only [Act.put, List.setIfInBounds_toArray, List.set_cons_zero, List.set_cons_succ]
              go_big_quiet_on
              go_big_quiet_want
              apply Exists.intro
              refine ⟨fun u hu => ?_, ?_⟩
              · obtain ⟨hu0, hu1, hu2, hu3⟩ := hu
                unfold Oper.quietAt
                go_simp
                try rfl
              simp only [Act.put, List.setIfInBounds_toArray, List.set_cons_zero, List.set_cons_succ]
              go_big_quiet_on
              go_big_quiet_want
              apply Exists.intro
              refine ⟨fun u hu => ?_, ?_⟩
              · obtain ⟨hu0, hu1, hu2, hu3⟩ := hu
                unfold Oper.quietAt
                go_simp
                try rfl
              simp only [Act.put, List.setIfInBounds_toArray, List.set_cons_zero, List.set_cons_succ]
              go_big_quiet_on
              go_big_quiet_want
              go_big_quiet_op
              go_big_quiet_on
              go_big_quiet_want
              go_big_quiet_op
              go_big_quiet_on
              go_big_quiet_want
              apply Exists.intro
              refine ⟨fun u hu => ?_, ?_⟩
              · obtain ⟨hu0, hu1, hu2, hu3⟩ := hu
                unfold Oper.quietAt
                go_simp
                try rfl
              simp only [Act.put, List.setIfInBounds_toArray, List.set_cons_zero, List.set_cons_succ]
              go_big_quiet_on
              go_big_quiet_want
              go_big_quiet_op
              go_big_quiet_on
              go_big_quiet_want
              go_big_quiet_op
              go_big_quiet_on
              go_big_quiet_want
              go_big_quiet_op
              go_big_quiet_on
              go_big_quiet_want
              apply Exists.intro
              refine ⟨fun u hu => ?_, ?_⟩
              · obtain ⟨hu0, hu1, hu2, hu3⟩ := hu
                unfold Oper.quietAt
                go_simp
                try rfl
              simp only [Act.put, List.setIfInBounds_toArray, List.set_cons_zero, List.set_cons_succ]
              go_big_quiet_on
              go_big_quiet_want
              apply Exists.intro
              refine ⟨fun u hu => ?_, ?_⟩
              · obtain ⟨hu0, hu1, hu2, hu3⟩ := hu
                unfold Oper.quietAt
                go_simp
                try rfl
              simp only [Act.put, List.setIfInBounds_toArray, List.set_cons_zero, List.set_cons_succ]
              go_big_quiet_on
              go_big_quiet_want
              apply Exists.intro
              refine ⟨fun u hu => ?_, ?_⟩
              · obtain ⟨hu0, hu1, hu2, hu3⟩ := hu
                unfold Oper.quietAt
                go_simp
                try rfl
              simp only [Act.put, List.setIfInBounds_toArray, List.set_cons_zero, List.set_cons_succ]
              go_big_quiet_on
              go_big_quiet_want
              apply Exists.intro
              refine ⟨fun u hu => ?_, ?_⟩
              · obtain ⟨hu0, hu1, hu2, hu3⟩ := hu
                unfold Oper.quietAt
                go_simp
                try rfl
              simp only [Act.put, List.setIfInBounds_toArray, List.set_cons_zero, List.set_cons_succ]
              go_big_quiet_on
              go_big_quiet_want
              go_big_quiet_op
              go_big_quiet_on
              go_big_quiet_want
              go_big_quiet_op
              go_big_quiet_on
              go_big_quiet_want
              apply Exists.intro
              refine ⟨fun u hu => ?_, ?_⟩
              · obtain ⟨hu0, hu1, hu2, hu3⟩ := hu
                unfold Oper.quietAt
                go_simp
                try rfl
              simp only [Act.put, List.setIfInBounds_toArray, List.set_cons_zero, List.set_cons_succ]
              go_big_quiet_on
              go_big_quiet_want
              apply Exists.intro
              refine ⟨fun u hu => ?_, ?_⟩
              · obtain ⟨hu0, hu1, hu2, hu3⟩ := hu
                unfold Oper.quietAt
                go_simp
                try rfl
              simp only [Act.put, List.setIfInBounds_toArray, List.set_cons_zero, List.set_cons_succ]
              go_big_quiet_on
              go_big_quiet_want
              apply Exists.intro
              refine ⟨fun u hu => ?_, ?_⟩
              · obtain ⟨hu0, hu1, hu2, hu3⟩ := hu
                unfold Oper.quietAt
                go_simp
                try rfl
              simp only [Act.put, List.setIfInBounds_toArray, List.set_cons_zero, List.set_cons_succ]
              go_big_quiet_on
              go_big_quiet_want
              apply Exists.intro
              refine ⟨fun u hu => ?_, ?_⟩
              · obtain ⟨hu0, hu1, hu2, hu3⟩ := hu
                unfold Oper.quietAt
                go_simp
                try rfl
              simp only [Act.put, List.setIfInBounds_toArray, List.set_cons_zero, List.set_cons_succ]
              go_big_quiet_on
              go_big_quiet_want
              apply Exists.intro
              refine ⟨fun u hu => ?_, ?_⟩
              · obtain ⟨hu0, hu1, hu2, hu3⟩ := hu
                unfold Oper.quietAt
                go_simp
                try rfl
              simp only [Act.put, List.setIfInBounds_toArray, List.set_cons_zero, List.set_cons_succ]
              go_big_quiet_on
              go_big_quiet_want
              apply Exists.intro
              refine ⟨fun u hu => ?_, ?_⟩
              · obtain ⟨hu0, hu1, hu2, hu3⟩ := hu
                unfold Oper.quietAt
                go_simp
                try rfl
              simp only [Act.put, List.setIfInBounds_toArray, List.set_cons_zero, List.set_cons_succ]
              go_big_quiet_on
              refine wpQuiet_nil ?_
              rintro u ⟨k9, _⟩
              have hbw := hb.trans (k9.mono hsz)
              have hs2u := nwc3 k9 h2
              have hru := (hrj.below k9).more k9.size
              have hbz := hbw.size
              obtain ⟨m9, hm9⟩ : ∃ m, x.seen.length = m := ⟨_, rfl⟩
              rw [hm9] at hs2u hsn
              have HM9 := Lib.hid hm9
              clear h0 h1 h2 hrj KE hm9 k9
              go_wp2_with fail
              go_loopw [4] (fun i wr => ∃ m : Nat, m ≤ m9 ∧ i = .int .i64 m ∧ Hid ((List.range m).all (ascAt x.seen) = true) ∧ Below u.heap.size u wr) (fun i _ => m9 - (intOf i).toNat)
              case atStart => exact ⟨0, Nat.zero_le _, rfl, Lib.hid rfl, Below.refl _ _⟩
              case round =>
                obtain ⟨m, hm, rfl, hma, hb3⟩ := hrel
                have hs2 := nwc3 hb3 hs2u
                by_cases hlm : m < m9
                · have hmz : m < x.seen.length := by rw [HM9.out]; exact hlm
                  obtain ⟨aj, rfl, haj, e0⟩ := ivs_at ((hru.below hb3).more hb3.size) hmz
                  obtain ⟨q, hq⟩ : ∃ q, aj.add m = q := ⟨_, rfl⟩
                  rw [hq] at e0
                  have hE : x.seen.getD m 0 = x.seen[m] := ascD hmz
                  have HN := Lib.hid (fun h => ju_no hkz (juAt_s HAT.out (asc_no hmz h)))
                  obtain ⟨z, hz⟩ : ∃ z, z = x.seen[m] := ⟨_, rfl⟩
                  rw [← hz] at e0 hE
                  have HE := Lib.hid hE
                  have m0 : (0 : Int) ≤ (m : Int) := by omega
                  have m1 : (m : Int) < (m9 : Int) := by omega
                  clear hz hE
                  cases q1 : inr z 1 99 with
                  | false =>
                    have HV := Lib.hid (HN.out (asc_0 HE.out q1))
                    have H1 := Lib.hid q1
                    clear q1
                    have KE := fun (u : World) (q9 : Below wr.heap.size wr u) => show Below wr.heap.size wr u ∧ u.cell? ⟨p.block, p.off + 2, none⟩ = some (.slice (some aj) m9 cj) ∧ u.cell? q = some (.int .i64 z) from ⟨q9, nwc3 q9 hs2, nwc3 q9 e0⟩
                    go_wp2_with fail
                    refine wp_region_quiet (C := fun u => Below wr.heap.size wr u ∧ u.cell? ⟨p.block, p.off + 2, none⟩ = some (.slice (some aj) m9 cj) ∧ u.cell? q = some (.int .i64 z)) (by kernel_rfl) (by kernel_rfl) (KE _ (Below.refl wr.heap.size wr).drew) ?_
                    rw [List.toList_toArray]
                    go_big_quiet_want
                    go_big_quiet_op
                    go_big_quiet_on
                    go_big_quiet_want
                    go_big_quiet_op
                    go_big_quiet_on
                    go_big_quiet_want
                    apply Exists.intro
                    refine ⟨fun u hu => ?_, ?_⟩
                    · obtain ⟨hu0, hu1, hu2⟩ := hu
                      unfold Oper.quietAt
                      go_simp
                      try rfl
                    simp only [Act.put, List.setIfInBounds_toArray, List.set_cons_zero, List.set_cons_succ]
                    go_big_quiet_on
                    go_big_quiet_want
                    apply Exists.intro
                    refine ⟨fun u hu => ?_, ?_⟩
                    · obtain ⟨hu0, hu1, hu2⟩ := hu
                      unfold Oper.quietAt
                      go_simp
                      try rfl
                    simp only [Act.put, List.setIfInBounds_toArray, List.set_cons_zero, List.set_cons_succ]
                    go_big_quiet_on
                    go_big_quiet_want
                    apply Exists.intro
                    refine ⟨fun u hu => ?_, ?_⟩
                    · obtain ⟨hu0, hu1, hu2⟩ := hu
                      unfold Oper.quietAt
                      go_simp
                      try rfl
                    simp only [Act.put, List.setIfInBounds_toArray, List.set_cons_zero, List.set_cons_succ]
                    go_big_quiet_on
                    go_big_quiet_want
                    go_big_quiet_op
                    go_big_quiet_on
                    go_big_quiet_want
                    apply Exists.intro
                    refine ⟨fun u hu => ?_, ?_⟩
                    · obtain ⟨hu0, hu1, hu2⟩ := hu
                      unfold Oper.quietAt
                      go_simp
                      try rfl
                    simp only [Act.put, List.setIfInBounds_toArray, List.set_cons_zero, List.set_cons_succ]
                    go_big_quiet_on
                    go_big_quiet_want
                    apply Exists.intro
                    refine ⟨fun u hu => ?_, ?_⟩
                    · obtain ⟨hu0, hu1, hu2⟩ := hu
                      unfold Oper.quietAt
                      go_simp
                      try rfl
                    simp only [Act.put, List.setIfInBounds_toArray, List.set_cons_zero, List.set_cons_succ]
                    go_big_quiet_on
                    go_big_quiet_want
                    refine ⟨.bool false, fun u hu => ?_, ?_⟩
                    · obtain ⟨hu0, hu1, hu2⟩ := hu
                      unfold Oper.quietAt
                      go_simp
                      refine (l1In_any _ _ _ _).mono ?_
                      rintro e u9 ⟨he, rfl⟩
                      rw [H1.out] at he
                      exact ⟨he, KE _ hu0⟩
                    simp only [Act.put, List.setIfInBounds_toArray, List.set_cons_zero, List.set_cons_succ]
                    go_big_quiet_on
                    go_big_quiet_want
                    apply Exists.intro
                    refine ⟨fun u hu => ?_, ?_⟩
                    · obtain ⟨hu0, hu1, hu2⟩ := hu
                      unfold Oper.quietAt
                      go_simp
                      try rfl
                    simp only [Act.put, List.setIfInBounds_toArray, List.set_cons_zero, List.set_cons_succ]
                    go_big_quiet_on
                    go_big_quiet_want
                    go_big_quiet_op
                    go_big_quiet_on
                    repeat go_big_quiet_skip
                    go_big_quiet_want
                    apply Exists.intro
                    refine ⟨fun u hu => ?_, ?_⟩
                    · obtain ⟨hu0, hu1, hu2⟩ := hu
                      unfold Oper.quietAt
                      go_simp
                      try rfl
                    simp only [Act.put, List.setIfInBounds_toArray, List.set_cons_zero, List.set_cons_succ]
                    go_big_quiet_on
                    refine wpQuiet_nil ?_
                    rintro u3 ⟨k9, _⟩
                    go_wp2_with fail
                    go_ret
                    exact ⟨ret_b HV.out.symm, hbw.trans ((hb3.trans (k9.mono hb3.size)).mono hbw.size)⟩
                  | true =>
                    by_cases hm0 : m = 0
                    · subst hm0
                      have HP := Lib.hid (asc_snoc hma.out (asc_1 HE.out q1))
                      have H1 := Lib.hid q1
                      clear q1
                      have KE := fun (u : World) (q9 : Below wr.heap.size wr u) => show Below wr.heap.size wr u ∧ u.cell? ⟨p.block, p.off + 2, none⟩ = some (.slice (some aj) m9 cj) ∧ u.cell? q = some (.int .i64 z) from ⟨q9, nwc3 q9 hs2, nwc3 q9 e0⟩
                      go_wp2_with fail
                      refine wp_region_quiet (C := fun u => Below wr.heap.size wr u ∧ u.cell? ⟨p.block, p.off + 2, none⟩ = some (.slice (some aj) m9 cj) ∧ u.cell? q = some (.int .i64 z)) (by kernel_rfl) (by kernel_rfl) (KE _ (Below.refl wr.heap.size wr).drew) ?_
                      rw [List.toList_toArray]
                      go_big_quiet_want
                      go_big_quiet_op
                      go_big_quiet_on
                      go_big_quiet_want
                      go_big_quiet_op
                      go_big_quiet_on
                      go_big_quiet_want
                      apply Exists.intro
                      refine ⟨fun u hu => ?_, ?_⟩
                      · obtain ⟨hu0, hu1, hu2⟩ := hu
                        unfold Oper.quietAt
                        go_simp
                        try rfl
                      simp only [Act.put, List.setIfInBounds_toArray, List.set_cons_zero, List.set_cons_succ]
                      go_big_quiet_on
                      go_big_quiet_want
                      apply Exists.intro
                      refine ⟨fun u hu => ?_, ?_⟩
                      · obtain ⟨hu0, hu1, hu2⟩ := hu
                        unfold Oper.quietAt
                        go_simp
                        try rfl
                      simp only [Act.put, List.setIfInBounds_toArray, List.set_cons_zero, List.set_cons_succ]
                      go_big_quiet_on
                      go_big_quiet_want
                      apply Exists.intro
                      refine ⟨fun u hu => ?_, ?_⟩
                      · obtain ⟨hu0, hu1, hu2⟩ := hu
                        unfold Oper.quietAt
                        go_simp
                        try rfl
                      simp only [Act.put, List.setIfInBounds_toArray, List.set_cons_zero, List.set_cons_succ]
                      go_big_quiet_on
                      go_big_quiet_want
                      go_big_quiet_op
                      go_big_quiet_on
                      go_big_quiet_want
                      apply Exists.intro
                      refine ⟨fun u hu => ?_, ?_⟩
                      · obtain ⟨hu0, hu1, hu2⟩ := hu
                        unfold Oper.quietAt
                        go_simp
                        try rfl
                      simp only [Act.put, List.setIfInBounds_toArray, List.set_cons_zero, List.set_cons_succ]
                      go_big_quiet_on
                      go_big_quiet_want
                      apply Exists.intro
                      refine ⟨fun u hu => ?_, ?_⟩
                      · obtain ⟨hu0, hu1, hu2⟩ := hu
                        unfold Oper.quietAt
                        go_simp
                        try rfl
                      simp only [Act.put, List.setIfInBounds_toArray, List.set_cons_zero, List.set_cons_succ]
                      go_big_quiet_on
                      go_big_quiet_want
                      refine ⟨.bool true, fun u hu => ?_, ?_⟩
                      · obtain ⟨hu0, hu1, hu2⟩ := hu
                        unfold Oper.quietAt
                        go_simp
                        refine (l1In_any _ _ _ _).mono ?_
                        rintro e u9 ⟨he, rfl⟩
                        rw [H1.out] at he
                        exact ⟨he, KE _ hu0⟩
                      simp only [Act.put, List.setIfInBounds_toArray, List.set_cons_zero, List.set_cons_succ]
                      go_big_quiet_on
                      go_big_quiet_want
                      apply Exists.intro
                      refine ⟨fun u hu => ?_, ?_⟩
                      · obtain ⟨hu0, hu1, hu2⟩ := hu
                        unfold Oper.quietAt
                        go_simp
                        try rfl
                      simp only [Act.put, List.setIfInBounds_toArray, List.set_cons_zero, List.set_cons_succ]
                      go_big_quiet_on
                      go_big_quiet_want
                      go_big_quiet_op
                      go_big_quiet_on
                      go_big_quiet_want
                      go_big_quiet_op
                      go_big_quiet_on
                      go_big_quiet_want
                      apply Exists.intro
                      refine ⟨fun u hu => ?_, ?_⟩
                      · obtain ⟨hu0, hu1, hu2⟩ := hu
                        unfold Oper.quietAt
                        go_simp
                        try rfl
                      simp only [Act.put, List.setIfInBounds_toArray, List.set_cons_zero, List.set_cons_succ]
                      go_big_quiet_on
                      go_big_quiet_want
                      go_big_quiet_op
                      go_big_quiet_on
                      repeat go_big_quiet_skip
                      go_big_quiet_want
                      apply Exists.intro
                      refine ⟨fun u hu => ?_, ?_⟩
                      · obtain ⟨hu0, hu1, hu2⟩ := hu
                        unfold Oper.quietAt
                        go_simp
                        try rfl
                      simp only [Act.put, List.setIfInBounds_toArray, List.set_cons_zero, List.set_cons_succ]
                      go_big_quiet_on
                      go_big_quiet_want
                      apply Exists.intro
                      refine ⟨fun u hu => ?_, ?_⟩
                      · obtain ⟨hu0, hu1, hu2⟩ := hu
                        unfold Oper.quietAt
                        go_simp
                        try rfl
                      simp only [Act.put, List.setIfInBounds_toArray, List.set_cons_zero, List.set_cons_succ]
                      go_big_quiet_on
                      refine wpQuiet_nil ?_
                      rintro u3 ⟨k9, _⟩
                      go_wp2_with fail
                      go_roundw
                      case rel => exact ⟨1, by omega, by go_num, HP, hb3.trans (k9.mono hb3.size)⟩
                      case measure => simp [intOf]; omega
                    · obtain ⟨j2, hj2⟩ : ∃ j, m = j + 1 := ⟨m - 1, by omega⟩
                      have hmk1 : j2 < x.seen.length := by omega
                      have jj0 : (0 : Int) ≤ (j2 : Int) := by omega
                      have jj1 : (j2 : Int) < (m9 : Int) := by omega
                      have hwj2 : IntKind.i64.wrap ((m : Int) - 1) = (j2 : Int) := (IntWalk.i64_in ((m : Int) - 1) (by omega)).trans (by omega)
                      have hmp : 0 < m := by omega
                      have hmp' : (0 : Int) < (m : Int) := by omega
                      have dm : decide ((0 : Int) < (m : Int)) = true := decide_eq_true hmp'
                      obtain ⟨aj', ej', haj', f0⟩ := ivs_at ((hru.below hb3).more hb3.size) hmk1
                      injection ej' with ej'
                      subst ej'
                      obtain ⟨q', hq'⟩ : ∃ q, aj.add j2 = q := ⟨_, rfl⟩
                      rw [hq'] at f0
                      have hEj : x.seen.getD j2 0 = x.seen[j2] := ascD hmk1
                      obtain ⟨y2, hy2⟩ : ∃ z, z = x.seen[j2] := ⟨_, rfl⟩
                      rw [← hy2] at f0 hEj
                      have HA2 := Lib.hid (asc_2 HE.out hj2 hEj q1)
                      have H1 := Lib.hid q1
                      clear q1 hj2 hy2 hEj
                      by_cases hxy2 : y2 < z
                      · have HP := Lib.hid (asc_snoc hma.out (HA2.out.trans (decide_eq_true hxy2)))
                        have d1 : decide (z ≤ y2) = false := decide_eq_false (by omega)
                        have KE := fun (u : World) (q9 : Below wr.heap.size wr u) => show Below wr.heap.size wr u ∧ u.cell? ⟨p.block, p.off + 2, none⟩ = some (.slice (some aj) m9 cj) ∧ u.cell? q = some (.int .i64 z) ∧ u.cell? q' = some (.int .i64 y2) from ⟨q9, nwc3 q9 hs2, nwc3 q9 e0, nwc3 q9 f0⟩
                        go_wp2_with fail
                        refine wp_region_quiet (C := fun u => Below wr.heap.size wr u ∧ u.cell? ⟨p.block, p.off + 2, none⟩ = some (.slice (some aj) m9 cj) ∧ u.cell? q = some (.int .i64 z) ∧ u.cell? q' = some (.int .i64 y2)) (by kernel_rfl) (by kernel_rfl) (KE _ (Below.refl wr.heap.size wr).drew) ?_
                        rw [List.toList_toArray]
                        go_big_quiet_want
                        go_big_quiet_op
                        go_big_quiet_on
                        go_big_quiet_want
                        go_big_quiet_op
                        go_big_quiet_on
                        go_big_quiet_want
                        apply Exists.intro
                        refine ⟨fun u hu => ?_, ?_⟩
                        · obtain ⟨hu0, hu1, hu2, hu3⟩ := hu
                          unfold Oper.quietAt
                          go_simp
                          try rfl
                        simp only [Act.put, List.setIfInBounds_toArray, List.set_cons_zero, List.set_cons_succ]
                        go_big_quiet_on
                        go_big_quiet_want
                        apply Exists.intro
                        refine ⟨fun u hu => ?_, ?_⟩
                        · obtain ⟨hu0, hu1, hu2, hu3⟩ := hu
                          unfold Oper.quietAt
                          go_simp
                          try rfl
                        simp only [Act.put, List.setIfInBounds_toArray, List.set_cons_zero, List.set_cons_succ]
                        go_big_quiet_on
                        go_big_quiet_want
                        apply Exists.intro
                        refine ⟨fun u hu => ?_, ?_⟩
                        · obtain ⟨hu0, hu1, hu2, hu3⟩ := hu
                          unfold Oper.quietAt
                          go_simp
                          try rfl
                        simp only [Act.put, List.setIfInBounds_toArray, List.set_cons_zero, List.set_cons_succ]
                        go_big_quiet_on
                        go_big_quiet_want
                        go_big_quiet_op
                        go_big_quiet_on
                        go_big_quiet_want
                        apply Exists.intro
                        refine ⟨fun u hu => ?_, ?_⟩
                        · obtain ⟨hu0, hu1, hu2, hu3⟩ := hu
                          unfold Oper.quietAt
                          go_simp
                          try rfl
                        simp only [Act.put, List.setIfInBounds_toArray, List.set_cons_zero, List.set_cons_succ]
                        go_big_quiet_on
                        go_big_quiet_want
                        apply Exists.intro
                        refine ⟨fun u hu => ?_, ?_⟩
                        · obtain ⟨hu0, hu1, hu2, hu3⟩ := hu
                          unfold Oper.quietAt
                          go_simp
                          try rfl
                        simp only [Act.put, List.setIfInBounds_toArray, List.set_cons_zero, List.set_cons_succ]
                        go_big_quiet_on
                        go_big_quiet_want
                        refine ⟨.bool true, fun u hu => ?_, ?_⟩
                        · obtain ⟨hu0, hu1, hu2, hu3⟩ := hu
                          unfold Oper.quietAt
                          go_simp
                          refine (l1In_any _ _ _ _).mono ?_
                          rintro e u9 ⟨he, rfl⟩
                          rw [H1.out] at he
                          exact ⟨he, KE _ hu0⟩
                        simp only [Act.put, List.setIfInBounds_toArray, List.set_cons_zero, List.set_cons_succ]
                        go_big_quiet_on
                        go_big_quiet_want
                        apply Exists.intro
                        refine ⟨fun u hu => ?_, ?_⟩
                        · obtain ⟨hu0, hu1, hu2, hu3⟩ := hu
                          unfold Oper.quietAt
                          go_simp
                          try rfl
                        simp only [Act.put, List.setIfInBounds_toArray, List.set_cons_zero, List.set_cons_succ]
                        go_big_quiet_on
                        go_big_quiet_want
                        go_big_quiet_op
                        go_big_quiet_on
                        go_big_quiet_want
                        go_big_quiet_op
                        go_big_quiet_on
                        go_big_quiet_want
                        apply Exists.intro
                        refine ⟨fun u hu => ?_, ?_⟩
                        · obtain ⟨hu0, hu1, hu2, hu3⟩ := hu
                          unfold Oper.quietAt
                          go_simp
                          try rfl
                        simp only [Act.put, List.setIfInBounds_toArray, List.set_cons_zero, List.set_cons_succ]
                        go_big_quiet_on
                        go_big_quiet_want
                        go_big_quiet_op
                        go_big_quiet_on
                        go_big_quiet_want
                        go_big_quiet_op
                        go_big_quiet_on
                        go_big_quiet_want
                        go_big_quiet_op
                        go_big_quiet_on
                        go_big_quiet_want
                        apply Exists.intro
                        refine ⟨fun u hu => ?_, ?_⟩
                        · obtain ⟨hu0, hu1, hu2, hu3⟩ := hu
                          unfold Oper.quietAt
                          go_simp
                          try rfl
                        simp only [Act.put, List.setIfInBounds_toArray, List.set_cons_zero, List.set_cons_succ]
                        go_big_quiet_on
                        go_big_quiet_want
                        apply Exists.intro
                        refine ⟨fun u hu => ?_, ?_⟩
                        · obtain ⟨hu0, hu1, hu2, hu3⟩ := hu
                          unfold Oper.quietAt
                          go_simp
                          try rfl
                        simp only [Act.put, List.setIfInBounds_toArray, List.set_cons_zero, List.set_cons_succ]
                        go_big_quiet_on
                        go_big_quiet_want
                        apply Exists.intro
                        refine ⟨fun u hu => ?_, ?_⟩
                        · obtain ⟨hu0, hu1, hu2, hu3⟩ := hu
                          unfold Oper.quietAt
                          go_simp
                          try rfl
                        simp only [Act.put, List.setIfInBounds_toArray, List.set_cons_zero, List.set_cons_succ]
                        go_big_quiet_on
                        go_big_quiet_want
                        go_big_quiet_op
                        go_big_quiet_on
                        go_big_quiet_want
                        apply Exists.intro
                        refine ⟨fun u hu => ?_, ?_⟩
                        · obtain ⟨hu0, hu1, hu2, hu3⟩ := hu
                          unfold Oper.quietAt
                          go_simp
                          try rfl
                        simp only [Act.put, List.setIfInBounds_toArray, List.set_cons_zero, List.set_cons_succ]
                        go_big_quiet_on
                        go_big_quiet_want
                        apply Exists.intro
                        refine ⟨fun u hu => ?_, ?_⟩
                        · obtain ⟨hu0, hu1, hu2, hu3⟩ := hu
                          unfold Oper.quietAt
                          go_simp
                          try rfl
                        simp only [Act.put, List.setIfInBounds_toArray, List.set_cons_zero, List.set_cons_succ]
                        go_big_quiet_on
                        go_big_quiet_want
                        apply Exists.intro
                        refine ⟨fun u hu => ?_, ?_⟩
                        · obtain ⟨hu0, hu1, hu2, hu3⟩ := hu
                          unfold Oper.quietAt
                          go_simp
                          try rfl
                        simp only [Act.put, List.setIfInBounds_toArray, List.set_cons_zero, List.set_cons_succ]
                        go_big_quiet_on
                        go_big_quiet_want
                        go_big_quiet_op
                        go_big_quiet_on
                        go_big_quiet_want
                        go_big_quiet_op
                        go_big_quiet_on
                        go_big_quiet_want
                        apply Exists.intro
                        refine ⟨fun u hu => ?_, ?_⟩
                        · obtain ⟨hu0, hu1, hu2, hu3⟩ := hu
                          unfold Oper.quietAt
                          go_simp
                          try rfl
                        simp only [Act.put, List.setIfInBounds_toArray, List.set_cons_zero, List.set_cons_succ]
                        go_big_quiet_on
                        go_big_quiet_want
                        apply Exists.intro
                        refine ⟨fun u hu => ?_, ?_⟩
                        · obtain ⟨hu0, hu1, hu2, hu3⟩ := hu
                          unfold Oper.quietAt
                          go_simp
                          try rfl
                        simp only [Act.put, List.setIfInBounds_toArray, List.set_cons_zero, List.set_cons_succ]
                        go_big_quiet_on
                        go_big_quiet_want
                        apply Exists.intro
                        refine ⟨fun u hu => ?_, ?_⟩
                        · obtain ⟨hu0, hu1, hu2, hu3⟩ := hu
                          unfold Oper.quietAt
                          go_simp
                          try rfl
                        simp only [Act.put, List.setIfInBounds_toArray, List.set_cons_zero, List.set_cons_succ]
                        go_big_quiet_on
                        go_big_quiet_want
                        go_big_quiet_op
                        go_big_quiet_on
                        go_big_quiet_want
                        apply Exists.intro
                        refine ⟨fun u hu => ?_, ?_⟩
                        · obtain ⟨hu0, hu1, hu2, hu3⟩ := hu
                          unfold Oper.quietAt
                          go_simp
                          try rfl
                        simp only [Act.put, List.setIfInBounds_toArray, List.set_cons_zero, List.set_cons_succ]
                        go_big_quiet_on
                        go_big_quiet_want
                        apply Exists.intro
                        refine ⟨fun u hu => ?_, ?_⟩
                        · obtain ⟨hu0, hu1, hu2, hu3⟩ := hu
                          unfold Oper.quietAt
                          go_simp
                          try rfl
                        simp only [Act.put, List.setIfInBounds_toArray, List.set_cons_zero, List.set_cons_succ]
                        go_big_quiet_on
                        go_big_quiet_want
                        apply Exists.intro
                        refine ⟨fun u hu => ?_, ?_⟩
                        · obtain ⟨hu0, hu1, hu2, hu3⟩ := hu
                          unfold Oper.quietAt
                          go_simp
                          try rfl
                        simp only [Act.put, List.setIfInBounds_toArray, List.set_cons_zero, List.set_cons_succ]
                        go_big_quiet_on
                        go_big_quiet_want
                        apply Exists.intro
                        refine ⟨fun u hu => ?_, ?_⟩
                        · obtain ⟨hu0, hu1, hu2, hu3⟩ := hu
                          unfold Oper.quietAt
                          go_simp
                          try rfl
                        simp only [Act.put, List.setIfInBounds_toArray, List.set_cons_zero, List.set_cons_succ]
                        go_big_quiet_on
                        go_big_quiet_want
                        apply Exists.intro
                        refine ⟨fun u hu => ?_, ?_⟩
                        · obtain ⟨hu0, hu1, hu2, hu3⟩ := hu
                          unfold Oper.quietAt
                          go_simp
                          try rfl
                        simp only [Act.put, List.setIfInBounds_toArray, List.set_cons_zero, List.set_cons_succ]
                        go_big_quiet_on
                        refine wpQuiet_nil ?_
                        rintro u3 ⟨k9, _⟩
                        go_wp2_with fail
                        go_roundw
                        case rel => exact ⟨m + 1, by omega, by go_num, HP, hb3.trans (k9.mono hb3.size)⟩
                        case measure => simp [intOf]; omega
                      · have HV := Lib.hid (HN.out (HA2.out.trans (decide_eq_false hxy2)))
                        have d1 : decide (z ≤ y2) = true := decide_eq_true (by omega)
                        have KE := fun (u : World) (q9 : Below wr.heap.size wr u) => show Below wr.heap.size wr u ∧ u.cell? ⟨p.block, p.off + 2, none⟩ = some (.slice (some aj) m9 cj) ∧ u.cell? q = some (.int .i64 z) ∧ u.cell? q' = some (.int .i64 y2) from ⟨q9, nwc3 q9 hs2, nwc3 q9 e0, nwc3 q9 f0⟩
                        go_wp2_with fail
                        refine wp_region_quiet (C := fun u => Below wr.heap.size wr u ∧ u.cell? ⟨p.block, p.off + 2, none⟩ = some (.slice (some aj) m9 cj) ∧ u.cell? q = some (.int .i64 z) ∧ u.cell? q' = some (.int .i64 y2)) (by kernel_rfl) (by kernel_rfl) (KE _ (Below.refl wr.heap.size wr).drew) ?_
                        rw [List.toList_toArray]
                        go_big_quiet_want
                        go_big_quiet_op
                        go_big_quiet_on
                        go_big_quiet_want
                        go_big_quiet_op
                        go_big_quiet_on
                        go_big_quiet_want
                        apply Exists.intro
                        refine ⟨fun u hu => ?_, ?_⟩
                        · obtain ⟨hu0, hu1, hu2, hu3⟩ := hu
                          unfold Oper.quietAt
                          go_simp
                          try rfl
                        simp only [Act.put, List.setIfInBounds_toArray, List.set_cons_zero, List.set_cons_succ]
                        go_big_quiet_on
                        go_big_quiet_want
                        apply Exists.intro
                        refine ⟨fun u hu => ?_, ?_⟩
                        · obtain ⟨hu0, hu1, hu2, hu3⟩ := hu
                          unfold Oper.quietAt
                          go_simp
                          try rfl
                        simp only [Act.put, List.setIfInBounds_toArray, List.set_cons_zero, List.set_cons_succ]
                        go_big_quiet_on
                        go_big_quiet_want
                        apply Exists.intro
                        refine ⟨fun u hu => ?_, ?_⟩
                        · obtain ⟨hu0, hu1, hu2, hu3⟩ := hu
                          unfold Oper.quietAt
                          go_simp
                          try rfl
                        simp only [Act.put, List.setIfInBounds_toArray, List.set_cons_zero, List.set_cons_succ]
                        go_big_quiet_on
                        go_big_quiet_want
                        go_big_quiet_op
                        go_big_quiet_on
                        go_big_quiet_want
                        apply Exists.intro
                        refine ⟨fun u hu => ?_, ?_⟩
                        · obtain ⟨hu0, hu1, hu2, hu3⟩ := hu
                          unfold Oper.quietAt
                          go_simp
                          try rfl
                        simp only [Act.put, List.setIfInBounds_toArray, List.set_cons_zero, List.set_cons_succ]
                        go_big_quiet_on
                        go_big_quiet_want
                        apply Exists.intro
                        refine ⟨fun u hu => ?_, ?_⟩
                        · obtain ⟨hu0, hu1, hu2, hu3⟩ := hu
                          unfold Oper.quietAt
                          go_simp
                          try rfl
                        simp only [Act.put, List.setIfInBounds_toArray, List.set_cons_zero, List.set_cons_succ]
                        go_big_quiet_on
                        go_big_quiet_want
                        refine ⟨.bool true, fun u hu => ?_, ?_⟩
                        · obtain ⟨hu0, hu1, hu2, hu3⟩ := hu
                          unfold Oper.quietAt
                          go_simp
                          refine (l1In_any _ _ _ _).mono ?_
                          rintro e u9 ⟨he, rfl⟩
                          rw [H1.out] at he
                          exact ⟨he, KE _ hu0⟩
                        simp only [Act.put, List.setIfInBounds_toArray, List.set_cons_zero, List.set_cons_succ]
                        go_big_quiet_on
                        go_big_quiet_want
                        apply Exists.intro
                        refine ⟨fun u hu => ?_, ?_⟩
                        · obtain ⟨hu0, hu1, hu2, hu3⟩ := hu
                          unfold Oper.quietAt
                          go_simp
                          try rfl
                        simp only [Act.put, List.setIfInBounds_toArray, List.set_cons_zero, List.set_cons_succ]
                        go_big_quiet_on
                        go_big_quiet_want
                        go_big_quiet_op
                        go_big_quiet_on
                        go_big_quiet_want
                        go_big_quiet_op
                        go_big_quiet_on
                        go_big_quiet_want
                        apply Exists.intro
                        refine ⟨fun u hu => ?_, ?_⟩
                        · obtain ⟨hu0, hu1, hu2, hu3⟩ := hu
                          unfold Oper.quietAt
                          go_simp
                          try rfl
                        simp only [Act.put, List.setIfInBounds_toArray, List.set_cons_zero, List.set_cons_succ]
                        go_big_quiet_on
                        go_big_quiet_want
                        go_big_quiet_op
                        go_big_quiet_on
                        go_big_quiet_want
                        go_big_quiet_op
                        go_big_quiet_on
                        go_big_quiet_want
                        go_big_quiet_op
                        go_big_quiet_on
                        go_big_quiet_want
                        apply Exists.intro
                        refine ⟨fun u hu => ?_, ?_⟩
                        · obtain ⟨hu0, hu1, hu2, hu3⟩ := hu
                          unfold Oper.quietAt
                          go_simp
                          try rfl
                        simp only [Act.put, List.setIfInBounds_toArray, List.set_cons_zero, List.set_cons_succ]
                        go_big_quiet_on
                        go_big_quiet_want
                        apply Exists.intro
                        refine ⟨fun u hu => ?_, ?_⟩
                        · obtain ⟨hu0, hu1, hu2, hu3⟩ := hu
                          unfold Oper.quietAt
                          go_simp
                          try rfl
                        simp only [Act.put, List.setIfInBounds_toArray, List.set_cons_zero, List.set_cons_succ]
                        go_big_quiet_on
                        go_big_quiet_want
                        apply Exists.intro
                        refine ⟨fun u hu => ?_, ?_⟩
                        · obtain ⟨hu0, hu1, hu2, hu3⟩ := hu
                          unfold Oper.quietAt
                          go_simp
                          try rfl
                        simp only [Act.put, List.setIfInBounds_toArray, List.set_cons_zero, List.set_cons_succ]
                        go_big_quiet_on
                        go_big_quiet_want
                        go_big_quiet_op
                        go_big_quiet_on
                        go_big_quiet_want
                        apply Exists.intro
                        refine ⟨fun u hu => ?_, ?_⟩
                        · obtain ⟨hu0, hu1, hu2, hu3⟩ := hu
                          unfold Oper.quietAt
                          go_simp
                          try rfl
                        simp only [Act.put, List.setIfInBounds_toArray, List.set_cons_zero, List.set_cons_succ]
                        go_big_quiet_on
                        go_big_quiet_want
                        apply Exists.intro
                        refine ⟨fun u hu => ?_, ?_⟩
                        · obtain ⟨hu0, hu1, hu2, hu3⟩ := hu
                          unfold Oper.quietAt
                          go_simp
                          try rfl
                        simp only [Act.put, List.setIfInBounds_toArray, List.set_cons_zero, List.set_cons_succ]
                        go_big_quiet_on
                        go_big_quiet_want
                        apply Exists.intro
                        refine ⟨fun u hu => ?_, ?_⟩
                        · obtain ⟨hu0, hu1, hu2, hu3⟩ := hu
                          unfold Oper.quietAt
                          go_simp
                          try rfl
                        simp only [Act.put, List.setIfInBounds_toArray, List.set_cons_zero, List.set_cons_succ]
                        go_big_quiet_on
                        go_big_quiet_want
                        go_big_quiet_op
                        go_big_quiet_on
                        go_big_quiet_want
                        go_big_quiet_op
                        go_big_quiet_on
                        go_big_quiet_want
                        apply Exists.intro
                        refine ⟨fun u hu => ?_, ?_⟩
                        · obtain ⟨hu0, hu1, hu2, hu3⟩ := hu
                          unfold Oper.quietAt
                          go_simp
                          try rfl
                        simp only [Act.put, List.setIfInBounds_toArray, List.set_cons_zero, List.set_cons_succ]
                        go_big_quiet_on
                        go_big_quiet_want
                        apply Exists.intro
                        refine ⟨fun u hu => ?_, ?_⟩
                        · obtain ⟨hu0, hu1, hu2, hu3⟩ := hu
                          unfold Oper.quietAt
                          go_simp
                          try rfl
                        simp only [Act.put, List.setIfInBounds_toArray, List.set_cons_zero, List.set_cons_succ]
                        go_big_quiet_on
                        go_big_quiet_want
                        apply Exists.intro
                        refine ⟨fun u hu => ?_, ?_⟩
                        · obtain ⟨hu0, hu1, hu2, hu3⟩ := hu
                          unfold Oper.quietAt
                          go_simp
                          try rfl
                        simp only [Act.put, List.setIfInBounds_toArray, List.set_cons_zero, List.set_cons_succ]
                        go_big_quiet_on
                        go_big_quiet_want
                        go_big_quiet_op
                        go_big_quiet_on
                        go_big_quiet_want
                        apply Exists.intro
                        refine ⟨fun u hu => ?_, ?_⟩
                        · obtain ⟨hu0, hu1, hu2, hu3⟩ := hu
                          unfold Oper.quietAt
                          go_simp
                          try rfl
                        simp only [Act.put, List.setIfInBounds_toArray, List.set_cons_zero, List.set_cons_succ]
                        go_big_quiet_on
                        go_big_quiet_want
                        apply Exists.intro
                        refine ⟨fun u hu => ?_, ?_⟩
                        · obtain ⟨hu0, hu1, hu2, hu3⟩ := hu
                          unfold Oper.quietAt
                          go_simp
                          try rfl
                        simp only [Act.put, List.setIfInBounds_toArray, List.set_cons_zero, List.set_cons_succ]
                        go_big_quiet_on
                        go_big_quiet_want
                        apply Exists.intro
                        refine ⟨fun u hu => ?_, ?_⟩
                        · obtain ⟨hu0, hu1, hu2, hu3⟩ := hu
                          unfold Oper.quietAt
                          go_simp
                          try rfl
                        simp only [Act.put, List.setIfInBounds_toArray, List.set_cons_zero, List.set_cons_succ]
                        go_big_quiet_on
                        go_big_quiet_want
                        apply Exists.intro
                        refine ⟨fun u hu => ?_, ?_⟩
                        · obtain ⟨hu0, hu1, hu2, hu3⟩ := hu
                          unfold Oper.quietAt
                          go_simp
                          try rfl
                        simp only [Act.put, List.setIfInBounds_toArray, List.set_cons_zero, List.set_cons_succ]
                        go_big_quiet_on
                        go_big_quiet_want
                        apply Exists.intro
                        refine ⟨fun u hu => ?_, ?_⟩
                        · obtain ⟨hu0, hu1, hu2, hu3⟩ := hu
                          unfold Oper.quietAt
                          go_simp
                          try rfl
                        simp only [Act.put, List.setIfInBounds_toArray, List.set_cons_zero, List.set_cons_succ]
                        go_big_quiet_on
                        refine wpQuiet_nil ?_
                        rintro u3 ⟨k9, _⟩
                        go_wp2_with fail
                        go_ret
                        exact ⟨ret_b HV.out.symm, hbw.trans ((hb3.trans (k9.mono hb3.size)).mono hbw.size)⟩
                · have e : m = m9 := by omega
                  subst e
                  have HP := Lib.hid (ju_snoc ha.out (juAt_y HAT.out HOK.out H2.out (asc_end HM9.out hma.out)))
                  have hb4 := hbw.trans (hb3.mono hbz)
                  go_wp2_with fail
                  go_roundw
                  case rel => exact ⟨k + 1, by omega, by go_num, HP, hb4⟩
                  case measure => simp [intOf]; omega
            · have HV := Lib.hid (ju_no hkz (juAt_a HAT.out (HA.out.trans (decide_eq_false hxy))))
              have d1 : decide (x.id ≤ y.id) = true := decide_eq_true (by omega)
              have KE := fun (u : World) (q : Below wr.heap.size wr u) => show Below wr.heap.size wr u ∧ u.cell? p = some (.int .i64 x.id) ∧ u.cell? ⟨p.block, p.off + 1, none⟩ = some (.int .i64 x.club) ∧ u.cell? p' = some (.int .i64 y.id) from ⟨q, nwc3 q h0, nwc3 q h1, nwc3 q g0⟩
              go_wp2_with fail
              refine wp_region_quiet (C := fun u => Below wr.heap.size wr u ∧ u.cell? p = some (.int .i64 x.id) ∧ u.cell? ⟨p.block, p.off + 1, none⟩ = some (.int .i64 x.club) ∧ u.cell? p' = some (.int .i64 y.id)) (by kernel_rfl) (by kernel_rfl) (KE _ (Below.refl wr.heap.size wr).drew) ?_
              rw [List.toList_toArray]
              go_big_quiet_want
              go_big_quiet_op
              go_big_quiet_on
              go_big_quiet_want
              go_big_quiet_op
              go_big_quiet_on
              go_big_quiet_want
              apply Exists.intro
              refine ⟨fun u hu => ?_, ?_⟩
              · obtain ⟨hu0, hu1, hu2, hu3⟩ := hu
                unfold Oper.quietAt
                go_simp
                try rfl
              simp only [Act.put, List.setIfInBounds_toArray, List.set_cons_zero, List.set_cons_succ]
              go_big_quiet_on
              go_big_quiet_want
              apply Exists.intro
              refine ⟨fun u hu => ?_, ?_⟩
              · obtain ⟨hu0, hu1, hu2, hu3⟩ := hu
                unfold Oper.quietAt
                go_simp
                try rfl
              simp only [Act.put, List.setIfInBounds_toArray, List.set_cons_zero, List.set_cons_succ]
              go_big_quiet_on
              go_big_quiet_want
              apply Exists.intro
              refine ⟨fun u hu => ?_, ?_⟩
              · obtain ⟨hu0, hu1, hu2, hu3⟩ := hu
                unfold Oper.quietAt
                go_simp
                try rfl
              simp only [Act.put, List.setIfInBounds_toArray, List.set_cons_zero, List.set_cons_succ]
              go_big_quiet_on
              go_big_quiet_want
              refine ⟨.bool true, fun u hu => ?_, ?_⟩
              · obtain ⟨hu0, hu1, hu2, hu3⟩ := hu
                unfold Oper.quietAt
                go_simp
                refine (l1In_any _ _ _ _).mono ?_
                rintro e u9 ⟨he, rfl⟩
                rw [H1.out] at he
                exact ⟨he, KE _ hu0⟩
              simp only [Act.put, List.setIfInBounds_toArray, List.set_cons_zero, List.set_cons_succ]
              go_big_quiet_on
              go_big_quiet_want
              apply Exists.intro
              refine ⟨fun u hu => ?_, ?_⟩
              · obtain ⟨hu0, hu1, hu2, hu3⟩ := hu
                unfold Oper.quietAt
                go_simp
                try rfl
              simp only [Act.put, List.setIfInBounds_toArray, List.set_cons_zero, List.set_cons_succ]
              go_big_quiet_on
              go_big_quiet_want
              go_big_quiet_op
              go_big_quiet_on
              go_big_quiet_want
              go_big_quiet_op
              go_big_quiet_on
              go_big_quiet_want
              go_big_quiet_op
              go_big_quiet_on
              go_big_quiet_want
              apply Exists.intro
              refine ⟨fun u hu => ?_, ?_⟩
              · obtain ⟨hu0, hu1, hu2, hu3⟩ := hu
                unfold Oper.quietAt
                go_simp
                try rfl
              simp only [Act.put, List.setIfInBounds_toArray, List.set_cons_zero, List.set_cons_succ]
              go_big_quiet_on
              go_big_quiet_want
              apply Exists.intro
              refine ⟨fun u hu => ?_, ?_⟩
              · obtain ⟨hu0, hu1, hu2, hu3⟩ := hu
                unfold Oper.quietAt
                go_simp
                try rfl
              simp only [Act.put, List.setIfInBounds_toArray, List.set_cons_zero, List.set_cons_succ]
              go_big_quiet_on
              go_big_quiet_want
              apply Exists.intro
              refine ⟨fun u hu => ?_, ?_⟩
              · obtain ⟨hu0, hu1, hu2, hu3⟩ := hu
                unfold Oper.quietAt
                go_simp
                try rfl
              simp only [Act.put, List.setIfInBounds_toArray, List.set_cons_zero, List.set_cons_succ]
              go_big_quiet_on
              go_big_quiet_want
              refine ⟨.bool true, fun u hu => ?_, ?_⟩
              · obtain ⟨hu0, hu1, hu2, hu3⟩ := hu
                unfold Oper.quietAt
                go_simp
                refine (l1In_any _ _ _ _).mono ?_
                rintro e u9 ⟨he, rfl⟩
                rw [H2.out] at he
                exact ⟨he, KE _ hu0⟩
              simp only [Act.put, List.setIfInBounds_toArray, List.set_cons_zero, List.set_cons_succ]
              go_big_quiet_on
              go_big_quiet_want
              apply Exists.intro
              refine ⟨fun u hu => ?_, ?_⟩
              · obtain ⟨hu0, hu1, hu2, hu3⟩ := hu
                unfold Oper.quietAt
                go_simp
                try rfl
              simp only [Act.put, List.setIfInBounds_toArray, List.set_cons_zero, List.set_cons_succ]
              go_big_quiet_on
              go_big_quiet_want
              apply Exists.intro
              refine ⟨fun u hu => ?_, ?_⟩
              · obtain ⟨hu0, hu1, hu2, hu3⟩ := hu
                unfold Oper.quietAt
                go_simp
                try rfl
              simp only [Act.put, List.setIfInBounds_toArray, List.set_cons_zero, List.set_cons_succ]
              go_big_quiet_on
              go_big_quiet_want
              go_big_quiet_op
              go_big_quiet_on
              go_big_quiet_want
              go_big_quiet_op
              go_big_quiet_on
              go_big_quiet_want
              apply Exists.intro
              refine ⟨fun u hu => ?_, ?_⟩
              · obtain ⟨hu0, hu1, hu2, hu3⟩ := hu
                unfold Oper.quietAt
                go_simp
                try rfl
              simp only [Act.put, List.setIfInBounds_toArray, List.set_cons_zero, List.set_cons_succ]
              go_big_quiet_on
              go_big_quiet_want
              go_big_quiet_op
              go_big_quiet_on
              go_big_quiet_want
              go_big_quiet_op
              go_big_quiet_on
              go_big_quiet_want
              go_big_quiet_op
              go_big_quiet_on
              go_big_quiet_want
              apply Exists.intro
              refine ⟨fun u hu => ?_, ?_⟩
              · obtain ⟨hu0, hu1, hu2, hu3⟩ := hu
                unfold Oper.quietAt
                go_simp
                try rfl
              simp only [Act.put, List.setIfInBounds_toArray, List.set_cons_zero, List.set_cons_succ]
              go_big_quiet_on
              go_big_quiet_want
              apply Exists.intro
              refine ⟨fun u hu => ?_, ?_⟩
              · obtain ⟨hu0, hu1, hu2, hu3⟩ := hu
                unfold Oper.quietAt
                go_simp
                try rfl
              simp only [Act.put, List.setIfInBounds_toArray, List.set_cons_zero, List.set_cons_succ]
              go_big_quiet_on
              go_big_quiet_want
              apply Exists.intro
              refine ⟨fun u hu => ?_, ?_⟩
              · obtain ⟨hu0, hu1, hu2, hu3⟩ := hu
                unfold Oper.quietAt
                go_simp
                try rfl
              simp only [Act.put, List.setIfInBounds_toArray, List.set_cons_zero, List.set_cons_succ]
              go_big_quiet_on
              go_big_quiet_want
              apply Exists.intro
              refine ⟨fun u hu => ?_, ?_⟩
              · obtain ⟨hu0, hu1, hu2, hu3⟩ := hu
                unfold Oper.quietAt
                go_simp
                try rfl
              simp only [Act.put, List.setIfInBounds_toArray, List.set_cons_zero, List.set_cons_succ]
              go_big_quiet_on
              go_big_quiet_want
              go_big_quiet_op
              go_big_quiet_on
              go_big_quiet_want
              go_big_quiet_op
              go_big_quiet_on
              go_big_quiet_want
              apply Exists.intro
              refine ⟨fun u hu => ?_, ?_⟩
              · obtain ⟨hu0, hu1, hu2, hu3⟩ := hu
                unfold Oper.quietAt
                go_simp
                try rfl
              simp only [Act.put, List.setIfInBounds_toArray, List.set_cons_zero, List.set_cons_succ]
              go_big_quiet_on
              go_big_quiet_want
              apply Exists.intro
              refine ⟨fun u hu => ?_, ?_⟩
              · obtain ⟨hu0, hu1, hu2, hu3⟩ := hu
                unfold Oper.quietAt
                go_simp
                try rfl
              simp only [Act.put, List.setIfInBounds_toArray, List.set_cons_zero, List.set_cons_succ]
              go_big_quiet_on
              go_big_quiet_want
              apply Exists.intro
              refine ⟨fun u hu => ?_, ?_⟩
              · obtain ⟨hu0, hu1, hu2, hu3⟩ := hu
                unfold Oper.quietAt
                go_simp
                try rfl
              simp only [Act.put, List.setIfInBounds_toArray, List.set_cons_zero, List.set_cons_succ]
              go_big_quiet_on
              go_big_quiet_want
              apply Exists.intro
              refine ⟨fun u hu => ?_, ?_⟩
              · obtain ⟨hu0, hu1, hu2, hu3⟩ := hu
                unfold Oper.quietAt
                go_simp
                try rfl
              simp only [Act.put, List.setIfInBounds_toArray, List.set_cons_zero, List.set_cons_succ]
              go_big_quiet_on
              go_big_quiet_want
              apply Exists.intro
              refine ⟨fun u hu => ?_, ?_⟩
              · obtain ⟨hu0, hu1, hu2, hu3⟩ := hu
                unfold Oper.quietAt
                go_simp
                try rfl
              simp only [Act.put, List.setIfInBounds_toArray, List.set_cons_zero, List.set_cons_succ]
              go_big_quiet_on
              go_big_quiet_want
              apply Exists.intro
              refine ⟨fun u hu => ?_, ?_⟩
              · obtain ⟨hu0, hu1, hu2, hu3⟩ := hu
                unfold Oper.quietAt
                go_simp
                try rfl
              simp only [Act.put, List.setIfInBounds_toArray, List.set_cons_zero, List.set_cons_succ]
              go_big_quiet_on
              refine wpQuiet_nil ?_
              rintro u ⟨k9, _⟩
              go_wp2_with fail
              go_ret
              exact ⟨ret_b HV.out.symm, hb.trans (k9.mono hsz)⟩
    · have e : k = n := by omega
      subst e
      have HV := Lib.hid (ju_all hl.out ha.out)
      go_wp2_with fail
      go_ret
      refine ⟨ret_b ?_, hb⟩
      rw [HV.out]
      exact (decide_eq_decide.2 (by omega))
end Go.Proofs.Ythkigilegnjglaa
