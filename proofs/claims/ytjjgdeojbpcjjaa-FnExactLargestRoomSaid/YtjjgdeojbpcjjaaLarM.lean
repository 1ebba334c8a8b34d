/- Contracts of the model's l22Best, LargestRoom. Condition: the slices have at most 2^40 elements. -/
import Derived.Test.YtjjgdeojbpcjjaaLarMath
import Derived.Test.YtjjgdeojbpcjjaaRooM
import Derived.Test.YtjjgdeojbpcjjaaOrdA
namespace Go.Proofs.Ytjjgdeojbpcjjaa
open Go.ChangeShapes Go.WideShapes Go.ChangeAt Go.RowKit
set_option maxRecDepth 100000
set_option maxHeartbeats 4000000 in
theorem best_any {w : World} {A A' : Option Addr} {n c n' c' : Nat} {X : List T2} {S : List Int} (hl : Hid (X.length = n)) (hn : n ≤ 1099511627776) (hl' : Hid (S.length = n')) (hn' : n' ≤ 1099511627776) (hr : Rd w w.heap.size A (t2s X)) (hr' : Rd w w.heap.size A' (ivs S)) :
    Calls Try.prog 113 #[.slice A n c, .slice A' n' c'] w (fun e w' => e = .returned (.int .i64 (optI (bsN X S n))) ∧ Below w.heap.size w w') := by
  go_enter Try.func113, Try.ntmps113
  go_wp2_with fail
  go_loopw [5, 6] (fun o i wr => ∃ k : Nat, k ≤ n ∧ i = .int .i64 k ∧ o = .int .i64 (optI (bsN X S k)) ∧ Below w.heap.size w wr) (fun _ i _ => n - (intOf i).toNat)
  case atStart => exact ⟨0, Nat.zero_le _, rfl, rfl, Below.refl _ _⟩
  case round =>
    obtain ⟨k, hk, rfl, rfl, hb⟩ := hrel
    by_cases hlt : k < n
    · have hkz : k < X.length := by rw [hl.out]; exact hlt
      have hsz := hb.size
      have hrr := (hr.below hb).more hb.size
      have hrs := (hr'.below hb).more hb.size
      obtain ⟨ad, p, rfl, hp, hab, h0, h1⟩ := t2_cells hrr hkz
      have i0 : (0 : Int) ≤ (k : Int) := by omega
      have i1 : (k : Int) < (n : Int) := by omega
      have hD := rD hkz
      obtain ⟨x, hx⟩ : ∃ x, x = X[k] := ⟨_, rfl⟩
      rw [← hx] at h0 h1 hD
      have HD := Lib.hid hD
      clear hx hD
      cases q1 : S.contains x.1 with
      | true =>
        have HB := Lib.hid (bs_has HD.out q1)
        have H1 := Lib.hid q1
        obtain ⟨o, ho⟩ : ∃ o, optI (bsN X S k) = o := ⟨_, rfl⟩
        rw [ho]
        have HO := Lib.hid ho
        clear q1 ho
        have KE := fun (u : World) (q : Below wr.heap.size wr u) => show Below wr.heap.size wr u ∧ u.cell? p = some (.int .i64 x.1) ∧ u.cell? ⟨p.block, p.off + 1, none⟩ = some (.int .i64 x.2) from ⟨q, nwc2 q h0, nwc2 q h1⟩
        go_wp2_with fail
        refine wp_region_quiet (C := fun u => Below wr.heap.size wr u ∧ u.cell? p = some (.int .i64 x.1) ∧ u.cell? ⟨p.block, p.off + 1, none⟩ = some (.int .i64 x.2)) (by kernel_rfl) (by kernel_rfl) (KE _ (Below.refl wr.heap.size wr).drew) ?_
        rw [List.toList_toArray]
        go_big_quiet_want
        go_big_quiet_op
        go_big_quiet_on
        go_big_quiet_want
        go_big_quiet_op
        go_big_quiet_on
        go_big_quiet_want
        go_big_quiet_op
        go_big_quiet_on
        go_big_quiet_want
        apply Exists.intro
        refine ⟨fun u hu => ?_, ?_⟩
        · obtain ⟨hu0, hu1, hu2⟩ := hu
          unfold Oper.quietAt
          go_simp
          try rfl
        simp only [Act.put, List.setIfInBounds_toArray, List.set_cons_zero, List.set_cons_succ]
        go_big_quiet_on
        go_big_quiet_want
        apply Exists.intro
        refine ⟨fun u hu => ?_, ?_⟩
        · obtain ⟨hu0, hu1, hu2⟩ := hu
          unfold Oper.quietAt
          go_simp
          try rfl
        simp only [Act.put, List.setIfInBounds_toArray, List.set_cons_zero, List.set_cons_succ]
        go_big_quiet_on
        go_big_quiet_want
        apply Exists.intro
        refine ⟨fun u hu => ?_, ?_⟩
        · obtain ⟨hu0, hu1, hu2⟩ := hu
          unfold Oper.quietAt
          go_simp
          try rfl
        simp only [Act.put, List.setIfInBounds_toArray, List.set_cons_zero, List.set_cons_succ]
        go_big_quiet_on
        go_big_quiet_want
        refine ⟨.bool true, fun u hu => ?_, ?_⟩
        · obtain ⟨hu0, hu1, hu2⟩ := hu
          unfold Oper.quietAt
          go_simp
          refine (l4h_any hl' hn' ((hrs.below hu0).more hu0.size)).mono ?_
          rintro e u9 ⟨he, rfl⟩
          rw [H1.out] at he
          exact ⟨he, KE _ hu0⟩
        simp only [Act.put, List.setIfInBounds_toArray, List.set_cons_zero, List.set_cons_succ]
        go_big_quiet_on
        go_big_quiet_want
        apply Exists.intro
        refine ⟨fun u hu => ?_, ?_⟩
        · obtain ⟨hu0, hu1, hu2⟩ := hu
          unfold Oper.quietAt
          go_simp
          try rfl
        simp only [Act.put, List.setIfInBounds_toArray, List.set_cons_zero, List.set_cons_succ]
        go_big_quiet_on
        go_big_quiet_want
        go_big_quiet_op
        go_big_quiet_on
        repeat go_big_quiet_skip
        go_big_quiet_want
        apply Exists.intro
        refine ⟨fun u hu => ?_, ?_⟩
        · obtain ⟨hu0, hu1, hu2⟩ := hu
          unfold Oper.quietAt
          go_simp
          try rfl
        simp only [Act.put, List.setIfInBounds_toArray, List.set_cons_zero, List.set_cons_succ]
        go_big_quiet_on
        refine wpQuiet_nil ?_
        rintro u ⟨k9, _⟩
        go_wp2_with fail
        go_roundw
        case rel => exact ⟨k + 1, by omega, by go_num, by rw [HB.out, HO.out], hb.trans (k9.mono hsz)⟩
        case measure => simp [intOf]; omega
      | false =>
        cases q2 : bsN X S k with
        | none =>
          have HB := Lib.hid (bs_new HD.out q1 q2)
          have H1 := Lib.hid q1
          rw [show optI none = -1 from rfl]
          clear q1 q2
          have KE := fun (u : World) (q : Below wr.heap.size wr u) => show Below wr.heap.size wr u ∧ u.cell? p = some (.int .i64 x.1) ∧ u.cell? ⟨p.block, p.off + 1, none⟩ = some (.int .i64 x.2) from ⟨q, nwc2 q h0, nwc2 q h1⟩
          go_wp2_with fail
          refine wp_region_quiet (C := fun u => Below wr.heap.size wr u ∧ u.cell? p = some (.int .i64 x.1) ∧ u.cell? ⟨p.block, p.off + 1, none⟩ = some (.int .i64 x.2)) (by kernel_rfl) (by kernel_rfl) (KE _ (Below.refl wr.heap.size wr).drew) ?_
          rw [List.toList_toArray]
          go_big_quiet_want
          go_big_quiet_op
          go_big_quiet_on
          go_big_quiet_want
          go_big_quiet_op
          go_big_quiet_on
          go_big_quiet_want
          go_big_quiet_op
          go_big_quiet_on
          go_big_quiet_want
          apply Exists.intro
          refine ⟨fun u hu => ?_, ?_⟩
          · obtain ⟨hu0, hu1, hu2⟩ := hu
            unfold Oper.quietAt
            go_simp
            try rfl
          simp only [Act.put, List.setIfInBounds_toArray, List.set_cons_zero, List.set_cons_succ]
          go_big_quiet_on
          go_big_quiet_want
          apply Exists.intro
          refine ⟨fun u hu => ?_, ?_⟩
          · obtain ⟨hu0, hu1, hu2⟩ := hu
            unfold Oper.quietAt
            go_simp
            try rfl
          simp only [Act.put, List.setIfInBounds_toArray, List.set_cons_zero, List.set_cons_succ]
          go_big_quiet_on
          go_big_quiet_want
          apply Exists.intro
          refine ⟨fun u hu => ?_, ?_⟩
          · obtain ⟨hu0, hu1, hu2⟩ := hu
            unfold Oper.quietAt
            go_simp
            try rfl
          simp only [Act.put, List.setIfInBounds_toArray, List.set_cons_zero, List.set_cons_succ]
          go_big_quiet_on
          go_big_quiet_want
          refine ⟨.bool false, fun u hu => ?_, ?_⟩
          · obtain ⟨hu0, hu1, hu2⟩ := hu
            unfold Oper.quietAt
            go_simp
            refine (l4h_any hl' hn' ((hrs.below hu0).more hu0.size)).mono ?_
            rintro e u9 ⟨he, rfl⟩
            rw [H1.out] at he
            exact ⟨he, KE _ hu0⟩
          simp only [Act.put, List.setIfInBounds_toArray, List.set_cons_zero, List.set_cons_succ]
          go_big_quiet_on
          go_big_quiet_want
          apply Exists.intro
          refine ⟨fun u hu => ?_, ?_⟩
          · obtain ⟨hu0, hu1, hu2⟩ := hu
            unfold Oper.quietAt
            go_simp
            try rfl
          simp only [Act.put, List.setIfInBounds_toArray, List.set_cons_zero, List.set_cons_succ]
          go_big_quiet_on
          go_big_quiet_want
          go_big_quiet_op
          go_big_quiet_on
          go_big_quiet_want
          go_big_quiet_op
          go_big_quiet_on
          go_big_quiet_want
          apply Exists.intro
          refine ⟨fun u hu => ?_, ?_⟩
          · obtain ⟨hu0, hu1, hu2⟩ := hu
            unfold Oper.quietAt
            go_simp
            try rfl
          simp only [Act.put, List.setIfInBounds_toArray, List.set_cons_zero, List.set_cons_succ]
          go_big_quiet_on
          go_big_quiet_want
          go_big_quiet_op
          go_big_quiet_on
          repeat go_big_quiet_skip
          go_big_quiet_want
          apply Exists.intro
          refine ⟨fun u hu => ?_, ?_⟩
          · obtain ⟨hu0, hu1, hu2⟩ := hu
            unfold Oper.quietAt
            go_simp
            try rfl
          simp only [Act.put, List.setIfInBounds_toArray, List.set_cons_zero, List.set_cons_succ]
          go_big_quiet_on
          go_big_quiet_want
          apply Exists.intro
          refine ⟨fun u hu => ?_, ?_⟩
          · obtain ⟨hu0, hu1, hu2⟩ := hu
            unfold Oper.quietAt
            go_simp
            try rfl
          simp only [Act.put, List.setIfInBounds_toArray, List.set_cons_zero, List.set_cons_succ]
          go_big_quiet_on
          refine wpQuiet_nil ?_
          rintro u ⟨k9, _⟩
          go_wp2_with fail
          go_roundw
          case rel => exact ⟨k + 1, by omega, by go_num, by rw [HB.out]; rfl, hb.trans (k9.mono hsz)⟩
          case measure => simp [intOf]; omega
        | some b =>
          have hbk := bs_lt q2
          have hbz : b < X.length := by omega
          have hDb := rD hbz
          obtain ⟨ad', p', e', hp', hab', g0, g1⟩ := t2_cells hrr hbz
          injection e' with e'
          subst e'
          obtain ⟨y, hy⟩ : ∃ y, y = X[b] := ⟨_, rfl⟩
          rw [← hy] at g0 g1 hDb
          have HC := Lib.hid (bs_cmp HD.out q1 q2 hDb)
          have H1 := Lib.hid q1
          rw [show optI (some b) = (b : Int) from rfl]
          have j0 : (0 : Int) ≤ (b : Int) := by omega
          have j1 : (b : Int) < (n : Int) := by omega
          have j2 : ¬ (b : Int) < 0 := by omega
          have dk : decide ((b : Int) < 0) = false := decide_eq_false j2
          clear q1 q2 hy hDb hbk hbz
          by_cases hxy : y.2 < x.2
          · have HB := Lib.hid (HC.out.trans (if_pos hxy))
            have d1 : decide (y.2 < x.2) = true := decide_eq_true hxy
            have KE := fun (u : World) (q : Below wr.heap.size wr u) => show Below wr.heap.size wr u ∧ u.cell? p = some (.int .i64 x.1) ∧ u.cell? ⟨p.block, p.off + 1, none⟩ = some (.int .i64 x.2) ∧ u.cell? ⟨p'.block, p'.off + 1, none⟩ = some (.int .i64 y.2) from ⟨q, nwc2 q h0, nwc2 q h1, nwc2 q g1⟩
            go_wp2_with fail
            refine wp_region_quiet (C := fun u => Below wr.heap.size wr u ∧ u.cell? p = some (.int .i64 x.1) ∧ u.cell? ⟨p.block, p.off + 1, none⟩ = some (.int .i64 x.2) ∧ u.cell? ⟨p'.block, p'.off + 1, none⟩ = some (.int .i64 y.2)) (by kernel_rfl) (by kernel_rfl) (KE _ (Below.refl wr.heap.size wr).drew) ?_
            rw [List.toList_toArray]
            go_big_quiet_want
            go_big_quiet_op
            go_big_quiet_on
            go_big_quiet_want
            go_big_quiet_op
            go_big_quiet_on
            go_big_quiet_want
            go_big_quiet_op
            go_big_quiet_on
            go_big_quiet_want
            apply Exists.intro
            refine ⟨fun u hu => ?_, ?_⟩
            · obtain ⟨hu0, hu1, hu2, hu3⟩ := hu
              unfold Oper.quietAt
              go_simp
              try rfl
            simp only [Act.put, List.setIfInBounds_toArray, List.set_cons_zero, List.set_cons_succ]
            go_big_quiet_on
            go_big_quiet_want
            apply Exists.intro
            refine ⟨fun u hu => ?_, ?_⟩
            · obtain ⟨hu0, hu1, hu2, hu3⟩ := hu
              unfold Oper.quietAt
              go_simp
              try rfl
            simp only [Act.put, List.setIfInBounds_toArray, List.set_cons_zero, List.set_cons_succ]
            go_big_quiet_on
            go_big_quiet_want
            apply Exists.intro
            refine ⟨fun u hu => ?_, ?_⟩
            · obtain ⟨hu0, hu1, hu2, hu3⟩ := hu
              unfold Oper.quietAt
              go_simp
              try rfl
            simp only [Act.put, List.setIfInBounds_toArray, List.set_cons_zero, List.set_cons_succ]
            go_big_quiet_on
            go_big_quiet_want
            refine ⟨.bool false, fun u hu => ?_, ?_⟩
            · obtain ⟨hu0, hu1, hu2, hu3⟩ := hu
              unfold Oper.quietAt
              go_simp
              refine (l4h_any hl' hn' ((hrs.below hu0).more hu0.size)).mono ?_
              rintro e u9 ⟨he, rfl⟩
              rw [H1.out] at he
              exact ⟨he, KE _ hu0⟩
            simp only [Act.put, List.setIfInBounds_toArray, List.set_cons_zero, List.set_cons_succ]
            go_big_quiet_on
            go_big_quiet_want
            apply Exists.intro
            refine ⟨fun u hu => ?_, ?_⟩
            · obtain ⟨hu0, hu1, hu2, hu3⟩ := hu
              unfold Oper.quietAt
              go_simp
              try rfl
            simp only [Act.put, List.setIfInBounds_toArray, List.set_cons_zero, List.set_cons_succ]
            go_big_quiet_on
            go_big_quiet_want
            go_big_quiet_op
            go_big_quiet_on
            go_big_quiet_want
            go_big_quiet_op
            go_big_quiet_on
            go_big_quiet_want
            apply Exists.intro
            refine ⟨fun u hu => ?_, ?_⟩
            · obtain ⟨hu0, hu1, hu2, hu3⟩ := hu
              unfold Oper.quietAt
              go_simp
              try rfl
            simp only [Act.put, List.setIfInBounds_toArray, List.set_cons_zero, List.set_cons_succ]
            go_big_quiet_on
            go_big_quiet_want
            go_big_quiet_op
            go_big_quiet_on
            go_big_quiet_want
            go_big_quiet_op
            go_big_quiet_on
            go_big_quiet_want
            go_big_quiet_op
            go_big_quiet_on
            go_big_quiet_want
            apply Exists.intro
            refine ⟨fun u hu => ?_, ?_⟩
            · obtain ⟨hu0, hu1, hu2, hu3⟩ := hu
              unfold Oper.quietAt
              go_simp
              try rfl
            simp only [Act.put, List.setIfInBounds_toArray, List.set_cons_zero, List.set_cons_succ]
            go_big_quiet_on
            go_big_quiet_want
            apply Exists.intro
            refine ⟨fun u hu => ?_, ?_⟩
            · obtain ⟨hu0, hu1, hu2, hu3⟩ := hu
              unfold Oper.quietAt
              go_simp
              try rfl
            simp only [Act.put, List.setIfInBounds_toArray, List.set_cons_zero, List.set_cons_succ]
            go_big_quiet_on
            go_big_quiet_want
            apply Exists.intro
            refine ⟨fun u hu => ?_, ?_⟩
            · obtain ⟨hu0, hu1, hu2, hu3⟩ := hu
              unfold Oper.quietAt
              go_simp
              try rfl
            simp only [Act.put, List.setIfInBounds_toArray, List.set_cons_zero, List.set_cons_succ]
            go_big_quiet_on
            go_big_quiet_want
            go_big_quiet_op
            go_big_quiet_on
            go_big_quiet_want
            go_big_quiet_op
            go_big_quiet_on
            go_big_quiet_want
            apply Exists.intro
            refine ⟨fun u hu => ?_, ?_⟩
            · obtain ⟨hu0, hu1, hu2, hu3⟩ := hu
              unfold Oper.quietAt
              go_simp
              try rfl
            simp only [Act.put, List.setIfInBounds_toArray, List.set_cons_zero, List.set_cons_succ]
            go_big_quiet_on
            go_big_quiet_want
            apply Exists.intro
            refine ⟨fun u hu => ?_, ?_⟩
            · obtain ⟨hu0, hu1, hu2, hu3⟩ := hu
              unfold Oper.quietAt
              go_simp
              try rfl
            simp only [Act.put, List.setIfInBounds_toArray, List.set_cons_zero, List.set_cons_succ]
            go_big_quiet_on
            go_big_quiet_want
            apply Exists.intro
            refine ⟨fun u hu => ?_, ?_⟩
            · obtain ⟨hu0, hu1, hu2, hu3⟩ := hu
              unfold Oper.quietAt
              go_simp
              try rfl
            simp only [Act.put, List.setIfInBounds_toArray, List.set_cons_zero, List.set_cons_succ]
            go_big_quiet_on
            go_big_quiet_want
            apply Exists.intro
            refine ⟨fun u hu => ?_, ?_⟩
            · obtain ⟨hu0, hu1, hu2, hu3⟩ := hu
              unfold Oper.quietAt
              go_simp
              try rfl
            simp only [Act.put, List.setIfInBounds_toArray, List.set_cons_zero, List.set_cons_succ]
            go_big_quiet_on
            go_big_quiet_want
            apply Exists.intro
            refine ⟨fun u hu => ?_, ?_⟩
            · obtain ⟨hu0, hu1, hu2, hu3⟩ := hu
              unfold Oper.quietAt
              go_simp
              try rfl
            simp only [Act.put, List.setIfInBounds_toArray, List.set_cons_zero, List.set_cons_succ]
            go_big_quiet_on
            go_big_quiet_want
            apply Exists.intro
            refine ⟨fun u hu => ?_, ?_⟩
            · obtain ⟨hu0, hu1, hu2, hu3⟩ := hu
              unfold Oper.quietAt
              go_simp
              try rfl
            simp only [Act.put, List.setIfInBounds_toArray, List.set_cons_zero, List.set_cons_succ]
            go_big_quiet_on
            refine wpQuiet_nil ?_
            rintro u ⟨k9, _⟩
            go_wp2_with fail
            go_roundw
            case rel => exact ⟨k + 1, by omega, by go_num, by rw [HB.out]; rfl, hb.trans (k9.mono hsz)⟩
            case measure => simp [intOf]; omega
          · have HB := Lib.hid (HC.out.trans (if_neg hxy))
            have d1 : decide (y.2 < x.2) = false := decide_eq_false hxy
            have KE := fun (u : World) (q : Below wr.heap.size wr u) => show Below wr.heap.size wr u ∧ u.cell? p = some (.int .i64 x.1) ∧ u.cell? ⟨p.block, p.off + 1, none⟩ = some (.int .i64 x.2) ∧ u.cell? ⟨p'.block, p'.off + 1, none⟩ = some (.int .i64 y.2) from ⟨q, nwc2 q h0, nwc2 q h1, nwc2 q g1⟩
            go_wp2_with fail
            refine wp_region_quiet (C := fun u => Below wr.heap.size wr u ∧ u.cell? p = some (.int .i64 x.1) ∧ u.cell? ⟨p.block, p.off + 1, none⟩ = some (.int .i64 x.2) ∧ u.cell? ⟨p'.block, p'.off + 1, none⟩ = some (.int .i64 y.2)) (by kernel_rfl) (by kernel_rfl) (KE _ (Below.refl wr.heap.size wr).drew) ?_
            rw [List.toList_toArray]
            go_big_quiet_want
            go_big_quiet_op
            go_big_quiet_on
            go_big_quiet_want
            go_big_quiet_op
            go_big_quiet_on
            go_big_quiet_want
            go_big_quiet_op
            go_big_quiet_on
            go_big_quiet_want
            apply Exists.intro
            refine ⟨fun u hu => ?_, ?_⟩
            · obtain ⟨hu0, hu1, hu2, hu3⟩ := hu
              unfold Oper.quietAt
              go_simp
              try rfl
            simp only [Act.put, List.setIfInBounds_toArray, List.set_cons_zero, List.set_cons_succ]
            go_big_quiet_on
            go_big_quiet_want
            apply Exists.intro
            refine ⟨fun u hu => ?_, ?_⟩
            · obtain ⟨hu0, hu1, hu2, hu3⟩ := hu
              unfold Oper.quietAt
              go_simp
              try rfl
            simp only [Act.put, List.setIfInBounds_toArray, List.set_cons_zero, List.set_cons_succ]
            go_big_quiet_on
            go_big_quiet_want
            apply Exists.intro
            refine ⟨fun u hu => ?_, ?_⟩
            · obtain ⟨hu0, hu1, hu2, hu3⟩ := hu
              unfold Oper.quietAt
              go_simp
              try rfl
            simp only [Act.put, List.setIfInBounds_toArray, List.set_cons_zero, List.set_cons_succ]
            go_big_quiet_on
            go_big_quiet_want
            refine ⟨.bool false, fun u hu => ?_, ?_⟩
            · obtain ⟨hu0, hu1, hu2, hu3⟩ := hu
              unfold Oper.quietAt
              go_simp
              refine (l4h_any hl' hn' ((hrs.below hu0).more hu0.size)).mono ?_
              rintro e u9 ⟨he, rfl⟩
              rw [H1.out] at he
              exact ⟨he, KE _ hu0⟩
            simp only [Act.put, List.setIfInBounds_toArray, List.set_cons_zero, List.set_cons_succ]
            go_big_quiet_on
            go_big_quiet_want
            apply Exists.intro
            refine ⟨fun u hu => ?_, ?_⟩
            · obtain ⟨hu0, hu1, hu2, hu3⟩ := hu
              unfold Oper.quietAt
              go_simp
              try rfl
            simp only [Act.put, List.setIfInBounds_toArray, List.set_cons_zero, List.set_cons_succ]
            go_big_quiet_on
            go_big_quiet_want
            go_big_quiet_op
            go_big_quiet_on
            go_big_quiet_want
            go_big_quiet_op
            go_big_quiet_on
            go_big_quiet_want
            apply Exists.intro
            refine ⟨fun u hu => ?_, ?_⟩
            · obtain ⟨hu0, hu1, hu2, hu3⟩ := hu
              unfold Oper.quietAt
              go_simp
              try rfl
            simp only [Act.put, List.setIfInBounds_toArray, List.set_cons_zero, List.set_cons_succ]
            go_big_quiet_on
            go_big_quiet_want
            go_big_quiet_op
            go_big_quiet_on
            go_big_quiet_want
            go_big_quiet_op
            go_big_quiet_on
            go_big_quiet_want
            go_big_quiet_op
            go_big_quiet_on
            go_big_quiet_want
            apply Exists.intro
            refine ⟨fun u hu => ?_, ?_⟩
            · obtain ⟨hu0, hu1, hu2, hu3⟩ := hu
              unfold Oper.quietAt
              go_simp
              try rfl
            simp only [Act.put, List.setIfInBounds_toArray, List.set_cons_zero, List.set_cons_succ]
            go_big_quiet_on
            go_big_quiet_want
            apply Exists.intro
            refine ⟨fun u hu => ?_, ?_⟩
            · obtain ⟨hu0, hu1, hu2, hu3⟩ := hu
              unfold Oper.quietAt
              go_simp
              try rfl
            simp only [Act.put, List.setIfInBounds_toArray, List.set_cons_zero, List.set_cons_succ]
            go_big_quiet_on
            go_big_quiet_want
            apply Exists.intro
            refine ⟨fun u hu => ?_, ?_⟩
            · obtain ⟨hu0, hu1, hu2, hu3⟩ := hu
              unfold Oper.quietAt
              go_simp
              try rfl
            simp only [Act.put, List.setIfInBounds_toArray, List.set_cons_zero, List.set_cons_succ]
            go_big_quiet_on
            go_big_quiet_want
            go_big_quiet_op
            go_big_quiet_on
            go_big_quiet_want
            go_big_quiet_op
            go_big_quiet_on
            go_big_quiet_want
            apply Exists.intro
            refine ⟨fun u hu => ?_, ?_⟩
            · obtain ⟨hu0, hu1, hu2, hu3⟩ := hu
              unfold Oper.quietAt
              go_simp
              try rfl
            simp only [Act.put, List.setIfInBounds_toArray, List.set_cons_zero, List.set_cons_succ]
            go_big_quiet_on
            go_big_quiet_want
            apply Exists.intro
            refine ⟨fun u hu => ?_, ?_⟩
            · obtain ⟨hu0, hu1, hu2, hu3⟩ := hu
              unfold Oper.quietAt
              go_simp
              try rfl
            simp only [Act.put, List.setIfInBounds_toArray, List.set_cons_zero, List.set_cons_succ]
            go_big_quiet_on
            go_big_quiet_want
            apply Exists.intro
            refine ⟨fun u hu => ?_, ?_⟩
            · obtain ⟨hu0, hu1, hu2, hu3⟩ := hu
              unfold Oper.quietAt
              go_simp
              try rfl
            simp only [Act.put, List.setIfInBounds_toArray, List.set_cons_zero, List.set_cons_succ]
            go_big_quiet_on
            go_big_quiet_want
            apply Exists.intro
            refine ⟨fun u hu => ?_, ?_⟩
            · obtain ⟨hu0, hu1, hu2, hu3⟩ := hu
              unfold Oper.quietAt
              go_simp
              try rfl
            simp only [Act.put, List.setIfInBounds_toArray, List.set_cons_zero, List.set_cons_succ]
            go_big_quiet_on
            go_big_quiet_want
            apply Exists.intro
            refine ⟨fun u hu => ?_, ?_⟩
            · obtain ⟨hu0, hu1, hu2, hu3⟩ := hu
              unfold Oper.quietAt
              go_simp
              try rfl
            simp only [Act.put, List.setIfInBounds_toArray, List.set_cons_zero, List.set_cons_succ]
            go_big_quiet_on
            go_big_quiet_want
            apply Exists.intro
            refine ⟨fun u hu => ?_, ?_⟩
            · obtain ⟨hu0, hu1, hu2, hu3⟩ := hu
              unfold Oper.quietAt
              go_simp
              try rfl
            simp only [Act.put, List.setIfInBounds_toArray, List.set_cons_zero, List.set_cons_succ]
            go_big_quiet_on
            refine wpQuiet_nil ?_
            rintro u ⟨k9, _⟩
            go_wp2_with fail
            go_roundw
            case rel => exact ⟨k + 1, by omega, by go_num, by rw [HB.out]; rfl, hb.trans (k9.mono hsz)⟩
            case measure => simp [intOf]; omega
    · have e : k = n := by omega
      subst e
      obtain ⟨o, ho⟩ : ∃ o, optI (bsN X S k) = o := ⟨_, rfl⟩
      rw [ho]
      have HO := Lib.hid ho
      clear ho
      go_wp2_with fail
      go_ret
      exact ⟨ret_i HO.out.symm, hb⟩
set_option maxHeartbeats 4000000 in
theorem specLargestRoom_any {w : World} {A : Option Addr} {n c : Nat} {X : List T2} (hl : Hid (X.length = n)) (hn : n ≤ 1099511627776) (hr : Rd w w.heap.size A (t2s X)) :
    Calls Try.prog 57 #[.slice A n c] w (fun e w' => e = .returned (.int .i64 (larI X)) ∧ Below w.heap.size w w') := by
  cases hB : roB X with
  | false =>
    have HV := Lib.hid (lar_no hB)
    have HB := Lib.hid hB
    clear hB
    go_enter Try.func57, Try.ntmps57
    go_wp2_with fail
    refine (best_any (S := []) (n' := 0) hl hn (Lib.hid rfl) (by omega) hr Rd.nil).mono ?_
    rintro e w1 ⟨rfl, hb1⟩
    have hr1 := (hr.below hb1).more hb1.size
    cases hq : bsN X [] n with
    | none =>
      rw [show optI none = -1 from rfl]
      clear hq
      go_wp2_with fail
      go_ret
      exact ⟨ret_i HV.out.symm, hb1⟩
    | some b =>
      rw [show optI (some b) = (b : Int) from rfl]
      have j2 : ¬ (b : Int) < 0 := by omega
      clear hq
      go_wp2_with fail
      refine (specAreRooms_any hl hn hr1).mono ?_
      rintro e w2 ⟨rfl, hb2⟩
      rw [HB.out]
      go_wp2_with fail
      go_ret
      exact ⟨ret_i HV.out.symm, hb1.trans (hb2.mono hb1.size)⟩
  | true =>
    have HVV := Lib.hid (lar_yes hB)
    have HB := Lib.hid hB
    have hasc := (ro_parts hB).1
    clear hB
    by_cases hz : n = 0
    · subst hz
      have HV := Lib.hid (lar_nil hl.out)
      go_enter Try.func57, Try.ntmps57
      go_wp2_with fail
      refine (best_any (S := []) (n' := 0) hl hn (Lib.hid rfl) (by omega) hr Rd.nil).mono ?_
      rintro e w1 ⟨rfl, hb1⟩
      rw [show optI (bsN X [] 0) = -1 from rfl]
      go_wp2_with fail
      go_ret
      exact ⟨ret_i HV.out.symm, hb1⟩
    · obtain ⟨b, hq, hbn, hm⟩ := bs_min hasc (n - 1) (by rw [hl.out]; omega)
      rw [show n - 1 + 1 = n by omega] at hq hbn hm
      have hbz : b < X.length := by rw [hl.out]; exact hbn
      have HV := Lib.hid (show X[b].1 = larI X by rw [HVV.out, hl.out, ← hm, rD hbz])
      have HQ := Lib.hid hq
      clear hq hm hasc
      have j0 : (0 : Int) ≤ (b : Int) := by omega
      have j1 : (b : Int) < (n : Int) := by omega
      have j2 : ¬ (b : Int) < 0 := by omega
      go_enter Try.func57, Try.ntmps57
      go_wp2_with fail
      refine (best_any (S := []) (n' := 0) hl hn (Lib.hid rfl) (by omega) hr Rd.nil).mono ?_
      rintro e w1 ⟨rfl, hb1⟩
      rw [HQ.out, show optI (some b) = (b : Int) from rfl]
      have hr1 := (hr.below hb1).more hb1.size
      go_wp2_with fail
      refine (specAreRooms_any hl hn hr1).mono ?_
      rintro e w2 ⟨rfl, hb2⟩
      rw [HB.out]
      have hb3 := hb1.trans (hb2.mono hb1.size)
      obtain ⟨ad, p, rfl, hp, hab, h0, h1⟩ := t2_cells ((hr.below hb3).more hb3.size) hbz
      go_wp2_with fail
      go_ret
      exact ⟨ret_i HV.out, hb3⟩
end Go.Proofs.Ytjjgdeojbpcjjaa
