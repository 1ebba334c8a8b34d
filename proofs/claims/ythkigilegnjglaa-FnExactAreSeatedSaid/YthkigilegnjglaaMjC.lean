/- Contract of the code's MayJudge. Conditions: Ids of 64 bits; at most 10^12 teams, 2^20 Ids seen. -/
import Derived.Test.YthkigilegnjglaaMg9
import Derived.Test.YthkigilegnjglaaTmC
import Derived.Test.YthkigilegnjglaaInAllC
import Derived.BigQuiet
import Derived.Deep.Quiet
namespace Go.Proofs.Ythkigilegnjglaa
open Go.ChangeShapes Go.WideShapes Go.ChangeAt Go.RowKit
set_option maxRecDepth 100000
set_option maxHeartbeats 8000000 in
theorem impMayJudge_any {w : World} {A Aj : Option Addr} {n c cj : Nat} {X : List Tm} {x : Jd} {p q : Int} (hl : Hid (X.length = n)) (hn : n ≤ 1000000000000) (hsl : x.seen.length ≤ 1048576) (hok : Hid (∀ x ∈ X, I6 x.id)) (hp6 : I6 p) (hq6 : I6 q) (hr : RdT w w.heap.size A X) (hs : Rd w w.heap.size Aj (ivs x.seen)) :
    Calls Try.prog 113 #[.slice A n c, .agg #[Value.int .i64 x.id, .int .i64 x.club, .slice Aj x.seen.length cj], .agg #[Value.int .i64 p, .int .i64 q]] w (Tells (mjB X x p q) w) := by
  have B2 : Below w.heap.size w ((w.alloc (Obj.cells #[Value.int .i64 x.id, .int .i64 x.club, .slice Aj x.seen.length cj] 115)).alloc (Obj.cells #[Value.int .i64 p, .int .i64 q] 38)) := ((Below.refl _ _).alloc (Nat.le_refl _) _).alloc (by rw [World.size_alloc]; omega) _
  have bj := (Bx.made w 115 #[Value.int .i64 x.id, .int .i64 x.club, .slice Aj x.seen.length cj]).new (alloc_m (w.alloc (Obj.cells #[Value.int .i64 x.id, .int .i64 x.club, .slice Aj x.seen.length cj] 115)) (Obj.cells #[Value.int .i64 p, .int .i64 q] 38))
  have bp : Bx ((w.alloc (Obj.cells #[Value.int .i64 x.id, .int .i64 x.club, .slice Aj x.seen.length cj] 115)).alloc (Obj.cells #[Value.int .i64 p, .int .i64 q] 38)) (w.heap.size + 1) 38 #[Value.int .i64 p, .int .i64 q] := by
    have h := Bx.made (w.alloc (Obj.cells #[Value.int .i64 x.id, .int .i64 x.club, .slice Aj x.seen.length cj] 115)) 38 #[Value.int .i64 p, .int .i64 q]
    simp only [World.size_alloc] at h
    exact h
  obtain ⟨W2, hW⟩ : ∃ W2, (w.alloc (Obj.cells #[Value.int .i64 x.id, .int .i64 x.club, .slice Aj x.seen.length cj] 115)).alloc (Obj.cells #[Value.int .i64 p, .int .i64 q] 38) = W2 := ⟨_, rfl⟩
  rw [hW] at B2 bj bp
  have j1 := bj.at_ (k := 1) (v := .int .i64 x.club) rfl
  have j2 := bj.at_ (k := 2) (v := .slice Aj x.seen.length cj) rfl
  have p0 := bp.at_ (k := 0) (v := .int .i64 p) rfl
  have p1 := bp.at_ (k := 1) (v := .int .i64 q) rfl
  have HW := Lib.hid hW
  have hrt := (hr.below B2).more B2.size
  have hrj := (hs.below B2).more B2.size
  clear bj bp hW
  go_enter Try.func113, Try.ntmps113
  go_wp2_with fail
  rw [HW.out]
  try (go_wp2_with fail)
  refine (teamPlacesOf_any hl hn hok hrt).mono ?_
  rintro e w3 ⟨K, rfl, hm3, hb3⟩
  have e0 := nwc5 hb3 p0
  have e1 := nwc5 hb3 p1
  have b4 := alloc_m w3 (Obj.cells #[Value.int .i64 p, .int .i64 q] 3)
  have bl := Bx.made w3 3 #[Value.int .i64 p, .int .i64 q]
  obtain ⟨W4, hW4⟩ : ∃ W4, w3.alloc (Obj.cells #[Value.int .i64 p, .int .i64 q] 3) = W4 := ⟨_, rfl⟩
  rw [hW4] at b4 bl
  have HW4 := Lib.hid hW4
  have hb24 : Below W2.heap.size W2 W4 := hb3.trans (b4.mono hb3.size)
  have f1 := nwc5 hb24 j1
  have f2 := nwc5 hb24 j2
  have l0 := bl.at_ (k := 0) (v := .int .i64 p) rfl
  have l1 := bl.at_ (k := 1) (v := .int .i64 q) rfl
  have m4 := hm3.new b4
  have hrt4 := (hrt.below hb24).more hb24.size
  have hrj4 := (hrj.below hb24).more hb24.size
  have B4 := B2.trans (hb24.mono B2.size)
  have HF := Lib.hid (And.intro f1 (And.intro f2 (And.intro l0 l1)))
  clear hW4 bl j1 j2 f1 f2 l0 l1 p0 p1 hm3
  go_wp2_with fail
  rw [HW4.out]
  try (go_wp2_with fail)
  clear e0 e1
  go_loopw [18] (fun i wr => Below W4.heap.size W4 wr ∧ (i = .int .i64 0 ∨ (i = .int .i64 1 ∧ Hid (mjO X x p = true)) ∨ (i = .int .i64 2 ∧ Hid (mjO X x p = true) ∧ Hid (mjO X x q = true)))) (fun i _ => 2 - (intOf i).toNat)
  case atStart => exact ⟨Below.refl _ _, .inl rfl⟩
  case round =>
    obtain ⟨hb, hrel⟩ := hrel
    have f1 := nwc5 hb HF.out.1
    have f2 := nwc5 hb HF.out.2.1
    have l0 := nwc5 hb HF.out.2.2.1
    have l1 := nwc5 hb HF.out.2.2.2
    have hrt5 := (hrt4.below hb).more hb.size
    have hrj5 := (hrj4.below hb).more hb.size
    have m5 := m4.new hb
    rcases hrel with rfl | ⟨rfl, hmp⟩ | ⟨rfl, hmp, hmq⟩
    · cases hf : fndO X p with
      | none =>
        have HV := Lib.hid (mjB_l (q := q) (mjO_none (j := x) hf))
        have HS := Lib.hid (show (fndO X p).isSome = false by rw [hf]; rfl)
        clear hf
        have KE := fun (u : World) (q9 : Below wr.heap.size wr u) => show Below wr.heap.size wr u ∧ u.cell? ⟨w.heap.size, 1, none⟩ = some (.int .i64 x.club) ∧ u.cell? ⟨w.heap.size, 2, none⟩ = some (.slice Aj x.seen.length cj) from ⟨q9, nwc5 q9 f1, nwc5 q9 f2⟩
        go_wp2_with fail
        refine wp_region_quiet (C := fun u => Below wr.heap.size wr u ∧ u.cell? ⟨w.heap.size, 1, none⟩ = some (.int .i64 x.club) ∧ u.cell? ⟨w.heap.size, 2, none⟩ = some (.slice Aj x.seen.length cj)) (by kernel_rfl) (by kernel_rfl) (KE _ (Below.refl wr.heap.size wr).drew) ?_
        rw [List.toList_toArray]
        go_big_quiet_want
        go_big_quiet_op
        go_big_quiet_on
        go_big_quiet_want
        go_big_quiet_op
        go_big_quiet_on
        go_big_quiet_want
        refine ⟨.bool false, fun u hu => ?_, ?_⟩
        · obtain ⟨hu0, hu1, hu2⟩ := hu
          unfold Oper.quietAt
          go_simp
          refine (plHas_any (m5.new hu0) hp6).mono ?_
          rintro e u9 ⟨he, rfl⟩
          rw [HS.out] at he
          exact ⟨he, KE _ hu0⟩
        simp only [Act.put, List.setIfInBounds_toArray, List.set_cons_zero, List.set_cons_succ]
        go_big_quiet_on
        go_big_quiet_want
        apply Exists.intro
        refine ⟨fun u hu => ?_, ?_⟩
        · obtain ⟨hu0, hu1, hu2⟩ := hu
          unfold Oper.quietAt
          go_simp
          try rfl
        simp only [Act.put, List.setIfInBounds_toArray, List.set_cons_zero, List.set_cons_succ]
        go_big_quiet_on
        go_big_quiet_want
        go_big_quiet_op
        go_big_quiet_on
        repeat go_big_quiet_skip
        go_big_quiet_want
        apply Exists.intro
        refine ⟨fun u hu => ?_, ?_⟩
        · obtain ⟨hu0, hu1, hu2⟩ := hu
          unfold Oper.quietAt
          go_simp
          try rfl
        simp only [Act.put, List.setIfInBounds_toArray, List.set_cons_zero, List.set_cons_succ]
        go_big_quiet_on
        go_big_quiet_want
        go_big_quiet_op
        go_big_quiet_on
        repeat go_big_quiet_skip
        go_big_quiet_want
        apply Exists.intro
        refine ⟨fun u hu => ?_, ?_⟩
        · obtain ⟨hu0, hu1, hu2⟩ := hu
          unfold Oper.quietAt
          go_simp
          try rfl
        simp only [Act.put, List.setIfInBounds_toArray, List.set_cons_zero, List.set_cons_succ]
        go_big_quiet_on
        refine wpQuiet_nil ?_
        rintro u ⟨k9, _⟩
        go_wp2_with fail
        go_ret
        exact ⟨ret_b HV.out.symm, B4.trans ((hb.trans (k9.mono hb.size)).mono B4.size)⟩
      | some v =>
        have HS := Lib.hid (show (fndO X p).isSome = true by rw [hf]; rfl)
        have hget := fun (u : World) (q9 : Below wr.heap.size wr u) => (m5.new q9).get tp_under hp6
        rw [hf] at hget
        obtain ⟨i, rfl, hi, _, _⟩ := fndO_some hf
        have LK : ∀ (u : World), Below wr.heap.size wr u → (Instr.lookup 94 (.map (some W2.heap.size)) (.int .i64 p) false).run Try.prog u = .ok (.int .i64 i) u := fun u q9 => by simpa using hget u q9
        have i0 : (0 : Int) ≤ (i : Int) := by omega
        have i1 : (i : Int) < (n : Int) := by rw [← hl.out]; omega
        obtain ⟨ada, pa, hA, hpa, haa, _, _, _, a1, _⟩ := hrt5.at_ hi
        subst hA
        have HG := Lib.hid (tmG hi)
        obtain ⟨xa, hxa⟩ : ∃ y, y = X[i] := ⟨_, rfl⟩
        rw [← hxa] at a1 HG
        obtain ⟨ca, hca⟩ : ∃ ca, xa.club = ca := ⟨_, rfl⟩
        rw [hca] at a1
        have HCA := Lib.hid hca
        have HFP := Lib.hid hf
        clear hxa hca hf hget
        by_cases c1 : ca = x.club
        · have d1 : (ca == x.club) = true := by simpa using c1
          have HC1 := Lib.hid c1
          have HV := Lib.hid (mjB_l (q := q) (mjO_club HFP.out HG.out (HCA.out.trans HC1.out)))
          clear c1
          have KE := fun (u : World) (q9 : Below wr.heap.size wr u) => show Below wr.heap.size wr u ∧ u.cell? ⟨w.heap.size, 1, none⟩ = some (.int .i64 x.club) ∧ u.cell? ⟨w.heap.size, 2, none⟩ = some (.slice Aj x.seen.length cj) ∧ (Instr.lookup 94 (.map (some W2.heap.size)) (.int .i64 p) false).run Try.prog u = .ok (.int .i64 i) u ∧ u.cell? ⟨pa.block, pa.off + 1, none⟩ = some (.int .i64 ca) from ⟨q9, nwc5 q9 f1, nwc5 q9 f2, LK u q9, nwc5 q9 a1⟩
          go_wp2_with fail
          refine wp_region_quiet (C := fun u => Below wr.heap.size wr u ∧ u.cell? ⟨w.heap.size, 1, none⟩ = some (.int .i64 x.club) ∧ u.cell? ⟨w.heap.size, 2, none⟩ = some (.slice Aj x.seen.length cj) ∧ (Instr.lookup 94 (.map (some W2.heap.size)) (.int .i64 p) false).run Try.prog u = .ok (.int .i64 i) u ∧ u.cell? ⟨pa.block, pa.off + 1, none⟩ = some (.int .i64 ca)) (by kernel_rfl) (by kernel_rfl) (KE _ (Below.refl wr.heap.size wr).drew) ?_
          rw [List.toList_toArray]
          go_big_quiet_want
          go_big_quiet_op
          go_big_quiet_on
          go_big_quiet_want
          go_big_quiet_op
          go_big_quiet_on
          go_big_quiet_want
          refine ⟨.bool true, fun u hu => ?_, ?_⟩
          · obtain ⟨hu0, hu1, hu2, hu3, hu4⟩ := hu
            unfold Oper.quietAt
            go_simp
            refine (plHas_any (m5.new hu0) hp6).mono ?_
            rintro e u9 ⟨he, rfl⟩
            rw [HS.out] at he
            exact ⟨he, KE _ hu0⟩
          simp only [Act.put, List.setIfInBounds_toArray, List.set_cons_zero, List.set_cons_succ]
          go_big_quiet_on
          go_big_quiet_want
          apply Exists.intro
          refine ⟨fun u hu => ?_, ?_⟩
          · obtain ⟨hu0, hu1, hu2, hu3, hu4⟩ := hu
            unfold Oper.quietAt
            go_simp
            try rfl
          simp only [Act.put, List.setIfInBounds_toArray, List.set_cons_zero, List.set_cons_succ]
          go_big_quiet_on
          go_big_quiet_want
          go_big_quiet_op
          go_big_quiet_on
          go_big_quiet_want
          go_big_quiet_op
          go_big_quiet_on
          go_big_quiet_want
          go_big_quiet_op
          go_big_quiet_on
          go_big_quiet_want
          go_big_quiet_op
          go_big_quiet_on
          go_big_quiet_want
          apply Exists.intro
          refine ⟨fun u hu => ?_, ?_⟩
          · obtain ⟨hu0, hu1, hu2, hu3, hu4⟩ := hu
            unfold Oper.quietAt
            go_simp
            try rfl
          simp only [Act.put, List.setIfInBounds_toArray, List.set_cons_zero, List.set_cons_succ]
          go_big_quiet_on
          go_big_quiet_want
          apply Exists.intro
          refine ⟨fun u hu => ?_, ?_⟩
          · obtain ⟨hu0, hu1, hu2, hu3, hu4⟩ := hu
            unfold Oper.quietAt
            go_simp
            try rfl
          simp only [Act.put, List.setIfInBounds_toArray, List.set_cons_zero, List.set_cons_succ]
          go_big_quiet_on
          go_big_quiet_want
          apply Exists.intro
          refine ⟨fun u hu => ?_, ?_⟩
          · obtain ⟨hu0, hu1, hu2, hu3, hu4⟩ := hu
            unfold Oper.quietAt
            go_simp
            try rfl
          simp only [Act.put, List.setIfInBounds_toArray, List.set_cons_zero, List.set_cons_succ]
          go_big_quiet_on
          go_big_quiet_want
          apply Exists.intro
          refine ⟨fun u hu => ?_, ?_⟩
          · obtain ⟨hu0, hu1, hu2, hu3, hu4⟩ := hu
            unfold Oper.quietAt
            go_simp
            try rfl
          simp only [Act.put, List.setIfInBounds_toArray, List.set_cons_zero, List.set_cons_succ]
          go_big_quiet_on
          go_big_quiet_want
          apply Exists.intro
          refine ⟨fun u hu => ?_, ?_⟩
          · obtain ⟨hu0, hu1, hu2, hu3, hu4⟩ := hu
            unfold Oper.quietAt
            go_simp
            try rfl
          simp only [Act.put, List.setIfInBounds_toArray, List.set_cons_zero, List.set_cons_succ]
          go_big_quiet_on
          go_big_quiet_want
          apply Exists.intro
          refine ⟨fun u hu => ?_, ?_⟩
          · obtain ⟨hu0, hu1, hu2, hu3, hu4⟩ := hu
            unfold Oper.quietAt
            go_simp
            try rfl
          simp only [Act.put, List.setIfInBounds_toArray, List.set_cons_zero, List.set_cons_succ]
          go_big_quiet_on
          go_big_quiet_want
          apply Exists.intro
          refine ⟨fun u hu => ?_, ?_⟩
          · obtain ⟨hu0, hu1, hu2, hu3, hu4⟩ := hu
            unfold Oper.quietAt
            go_simp
            try rfl
          simp only [Act.put, List.setIfInBounds_toArray, List.set_cons_zero, List.set_cons_succ]
          go_big_quiet_on
          go_big_quiet_want
          apply Exists.intro
          refine ⟨fun u hu => ?_, ?_⟩
          · obtain ⟨hu0, hu1, hu2, hu3, hu4⟩ := hu
            unfold Oper.quietAt
            go_simp
            try rfl
          simp only [Act.put, List.setIfInBounds_toArray, List.set_cons_zero, List.set_cons_succ]
          go_big_quiet_on
          go_big_quiet_want
          go_big_quiet_op
          go_big_quiet_on
          repeat go_big_quiet_skip
          go_big_quiet_want
          apply Exists.intro
          refine ⟨fun u hu => ?_, ?_⟩
          · obtain ⟨hu0, hu1, hu2, hu3, hu4⟩ := hu
            unfold Oper.quietAt
            go_simp
            try rfl
          simp only [Act.put, List.setIfInBounds_toArray, List.set_cons_zero, List.set_cons_succ]
          go_big_quiet_on
          refine wpQuiet_nil ?_
          rintro u ⟨k9, _⟩
          go_wp2_with fail
          go_ret
          exact ⟨ret_b HV.out.symm, B4.trans ((hb.trans (k9.mono hb.size)).mono B4.size)⟩
        · have d1 : (ca == x.club) = false := by simpa using c1
          have HC1 := Lib.hid c1
          clear c1
          cases s1 : x.seen.contains p with
          | true =>
            have HV := Lib.hid (mjB_l (q := q) (mjO_seen HFP.out s1))
            have H1 := Lib.hid s1
            clear s1
            have KE := fun (u : World) (q9 : Below wr.heap.size wr u) => show Below wr.heap.size wr u ∧ u.cell? ⟨w.heap.size, 1, none⟩ = some (.int .i64 x.club) ∧ u.cell? ⟨w.heap.size, 2, none⟩ = some (.slice Aj x.seen.length cj) ∧ (Instr.lookup 94 (.map (some W2.heap.size)) (.int .i64 p) false).run Try.prog u = .ok (.int .i64 i) u ∧ u.cell? ⟨pa.block, pa.off + 1, none⟩ = some (.int .i64 ca) from ⟨q9, nwc5 q9 f1, nwc5 q9 f2, LK u q9, nwc5 q9 a1⟩
            go_wp2_with fail
            refine wp_region_quiet (C := fun u => Below wr.heap.size wr u ∧ u.cell? ⟨w.heap.size, 1, none⟩ = some (.int .i64 x.club) ∧ u.cell? ⟨w.heap.size, 2, none⟩ = some (.slice Aj x.seen.length cj) ∧ (Instr.lookup 94 (.map (some W2.heap.size)) (.int .i64 p) false).run Try.prog u = .ok (.int .i64 i) u ∧ u.cell? ⟨pa.block, pa.off + 1, none⟩ = some (.int .i64 ca)) (by kernel_rfl) (by kernel_rfl) (KE _ (Below.refl wr.heap.size wr).drew) ?_
            rw [List.toList_toArray]
            go_big_quiet_want
            go_big_quiet_op
            go_big_quiet_on
            go_big_quiet_want
            go_big_quiet_op
            go_big_quiet_on
            go_big_quiet_want
            refine ⟨.bool true, fun u hu => ?_, ?_⟩
            · obtain ⟨hu0, hu1, hu2, hu3, hu4⟩ := hu
              unfold Oper.quietAt
              go_simp
              refine (plHas_any (m5.new hu0) hp6).mono ?_
              rintro e u9 ⟨he, rfl⟩
              rw [HS.out] at he
              exact ⟨he, KE _ hu0⟩
            simp only [Act.put, List.setIfInBounds_toArray, List.set_cons_zero, List.set_cons_succ]
            go_big_quiet_on
            go_big_quiet_want
            apply Exists.intro
            refine ⟨fun u hu => ?_, ?_⟩
            · obtain ⟨hu0, hu1, hu2, hu3, hu4⟩ := hu
              unfold Oper.quietAt
              go_simp
              try rfl
            simp only [Act.put, List.setIfInBounds_toArray, List.set_cons_zero, List.set_cons_succ]
            go_big_quiet_on
            go_big_quiet_want
            go_big_quiet_op
            go_big_quiet_on
            go_big_quiet_want
            go_big_quiet_op
            go_big_quiet_on
            go_big_quiet_want
            go_big_quiet_op
            go_big_quiet_on
            go_big_quiet_want
            go_big_quiet_op
            go_big_quiet_on
            go_big_quiet_want
            apply Exists.intro
            refine ⟨fun u hu => ?_, ?_⟩
            · obtain ⟨hu0, hu1, hu2, hu3, hu4⟩ := hu
              unfold Oper.quietAt
              go_simp
              try rfl
            simp only [Act.put, List.setIfInBounds_toArray, List.set_cons_zero, List.set_cons_succ]
            go_big_quiet_on
            go_big_quiet_want
            apply Exists.intro
            refine ⟨fun u hu => ?_, ?_⟩
            · obtain ⟨hu0, hu1, hu2, hu3, hu4⟩ := hu
              unfold Oper.quietAt
              go_simp
              try rfl
            simp only [Act.put, List.setIfInBounds_toArray, List.set_cons_zero, List.set_cons_succ]
            go_big_quiet_on
            go_big_quiet_want
            apply Exists.intro
            refine ⟨fun u hu => ?_, ?_⟩
            · obtain ⟨hu0, hu1, hu2, hu3, hu4⟩ := hu
              unfold Oper.quietAt
              go_simp
              try rfl
            simp only [Act.put, List.setIfInBounds_toArray, List.set_cons_zero, List.set_cons_succ]
            go_big_quiet_on
            go_big_quiet_want
            apply Exists.intro
            refine ⟨fun u hu => ?_, ?_⟩
            · obtain ⟨hu0, hu1, hu2, hu3, hu4⟩ := hu
              unfold Oper.quietAt
              go_simp
              try rfl
            simp only [Act.put, List.setIfInBounds_toArray, List.set_cons_zero, List.set_cons_succ]
            go_big_quiet_on
            go_big_quiet_want
            apply Exists.intro
            refine ⟨fun u hu => ?_, ?_⟩
            · obtain ⟨hu0, hu1, hu2, hu3, hu4⟩ := hu
              unfold Oper.quietAt
              go_simp
              try rfl
            simp only [Act.put, List.setIfInBounds_toArray, List.set_cons_zero, List.set_cons_succ]
            go_big_quiet_on
            go_big_quiet_want
            apply Exists.intro
            refine ⟨fun u hu => ?_, ?_⟩
            · obtain ⟨hu0, hu1, hu2, hu3, hu4⟩ := hu
              unfold Oper.quietAt
              go_simp
              try rfl
            simp only [Act.put, List.setIfInBounds_toArray, List.set_cons_zero, List.set_cons_succ]
            go_big_quiet_on
            go_big_quiet_want
            apply Exists.intro
            refine ⟨fun u hu => ?_, ?_⟩
            · obtain ⟨hu0, hu1, hu2, hu3, hu4⟩ := hu
              unfold Oper.quietAt
              go_simp
              try rfl
            simp only [Act.put, List.setIfInBounds_toArray, List.set_cons_zero, List.set_cons_succ]
            go_big_quiet_on
            go_big_quiet_want
            apply Exists.intro
            refine ⟨fun u hu => ?_, ?_⟩
            · obtain ⟨hu0, hu1, hu2, hu3, hu4⟩ := hu
              unfold Oper.quietAt
              go_simp
              try rfl
            simp only [Act.put, List.setIfInBounds_toArray, List.set_cons_zero, List.set_cons_succ]
            go_big_quiet_on
            go_big_quiet_want
            go_big_quiet_op
            go_big_quiet_on
            go_big_quiet_want
            apply Exists.intro
            refine ⟨fun u hu => ?_, ?_⟩
            · obtain ⟨hu0, hu1, hu2, hu3, hu4⟩ := hu
              unfold Oper.quietAt
              go_simp
              try rfl
            simp only [Act.put, List.setIfInBounds_toArray, List.set_cons_zero, List.set_cons_succ]
            go_big_quiet_on
            go_big_quiet_want
            apply Exists.intro
            refine ⟨fun u hu => ?_, ?_⟩
            · obtain ⟨hu0, hu1, hu2, hu3, hu4⟩ := hu
              unfold Oper.quietAt
              go_simp
              try rfl
            simp only [Act.put, List.setIfInBounds_toArray, List.set_cons_zero, List.set_cons_succ]
            go_big_quiet_on
            go_big_quiet_want
            go_big_quiet_op
            go_big_quiet_on
            go_big_quiet_want
            refine ⟨.bool true, fun u hu => ?_, ?_⟩
            · obtain ⟨hu0, hu1, hu2, hu3, hu4⟩ := hu
              unfold Oper.quietAt
              go_simp
              refine (contains_any' (S := x.seen) (Lib.hid rfl) (by omega) ((hrj5.below hu0).more hu0.size)).mono ?_
              rintro e u9 ⟨he, rfl⟩
              rw [H1.out] at he
              exact ⟨he, KE _ hu0⟩
            simp only [Act.put, List.setIfInBounds_toArray, List.set_cons_zero, List.set_cons_succ]
            go_big_quiet_on
            go_big_quiet_want
            apply Exists.intro
            refine ⟨fun u hu => ?_, ?_⟩
            · obtain ⟨hu0, hu1, hu2, hu3, hu4⟩ := hu
              unfold Oper.quietAt
              go_simp
              try rfl
            simp only [Act.put, List.setIfInBounds_toArray, List.set_cons_zero, List.set_cons_succ]
            go_big_quiet_on
            refine wpQuiet_nil ?_
            rintro u ⟨k9, _⟩
            go_wp2_with fail
            go_ret
            exact ⟨ret_b HV.out.symm, B4.trans ((hb.trans (k9.mono hb.size)).mono B4.size)⟩
          | false =>
            have H1 := Lib.hid s1
            have HY := Lib.hid (mjO_yes HFP.out HG.out (fun h => HC1.out (HCA.out.symm.trans h)) H1.out)
            clear s1
            have KE := fun (u : World) (q9 : Below wr.heap.size wr u) => show Below wr.heap.size wr u ∧ u.cell? ⟨w.heap.size, 1, none⟩ = some (.int .i64 x.club) ∧ u.cell? ⟨w.heap.size, 2, none⟩ = some (.slice Aj x.seen.length cj) ∧ (Instr.lookup 94 (.map (some W2.heap.size)) (.int .i64 p) false).run Try.prog u = .ok (.int .i64 i) u ∧ u.cell? ⟨pa.block, pa.off + 1, none⟩ = some (.int .i64 ca) from ⟨q9, nwc5 q9 f1, nwc5 q9 f2, LK u q9, nwc5 q9 a1⟩
            go_wp2_with fail
            refine wp_region_quiet (C := fun u => Below wr.heap.size wr u ∧ u.cell? ⟨w.heap.size, 1, none⟩ = some (.int .i64 x.club) ∧ u.cell? ⟨w.heap.size, 2, none⟩ = some (.slice Aj x.seen.length cj) ∧ (Instr.lookup 94 (.map (some W2.heap.size)) (.int .i64 p) false).run Try.prog u = .ok (.int .i64 i) u ∧ u.cell? ⟨pa.block, pa.off + 1, none⟩ = some (.int .i64 ca)) (by kernel_rfl) (by kernel_rfl) (KE _ (Below.refl wr.heap.size wr).drew) ?_
            rw [List.toList_toArray]
            go_big_quiet_want
            go_big_quiet_op
            go_big_quiet_on
            go_big_quiet_want
            go_big_quiet_op
            go_big_quiet_on
            go_big_quiet_want
            refine ⟨.bool true, fun u hu => ?_, ?_⟩
            · obtain ⟨hu0, hu1, hu2, hu3, hu4⟩ := hu
              unfold Oper.quietAt
              go_simp
              refine (plHas_any (m5.new hu0) hp6).mono ?_
              rintro e u9 ⟨he, rfl⟩
              rw [HS.out] at he
              exact ⟨he, KE _ hu0⟩
            simp only [Act.put, List.setIfInBounds_toArray, List.set_cons_zero, List.set_cons_succ]
            go_big_quiet_on
            go_big_quiet_want
            apply Exists.intro
            refine ⟨fun u hu => ?_, ?_⟩
            · obtain ⟨hu0, hu1, hu2, hu3, hu4⟩ := hu
              unfold Oper.quietAt
              go_simp
              try rfl
            simp only [Act.put, List.setIfInBounds_toArray, List.set_cons_zero, List.set_cons_succ]
            go_big_quiet_on
            go_big_quiet_want
            go_big_quiet_op
            go_big_quiet_on
            go_big_quiet_want
            go_big_quiet_op
            go_big_quiet_on
            go_big_quiet_want
            go_big_quiet_op
            go_big_quiet_on
            go_big_quiet_want
            go_big_quiet_op
            go_big_quiet_on
            go_big_quiet_want
            apply Exists.intro
            refine ⟨fun u hu => ?_, ?_⟩
            · obtain ⟨hu0, hu1, hu2, hu3, hu4⟩ := hu
              unfold Oper.quietAt
              go_simp
              try rfl
            simp only [Act.put, List.setIfInBounds_toArray, List.set_cons_zero, List.set_cons_succ]
            go_big_quiet_on
            go_big_quiet_want
            apply Exists.intro
            refine ⟨fun u hu => ?_, ?_⟩
            · obtain ⟨hu0, hu1, hu2, hu3, hu4⟩ := hu
              unfold Oper.quietAt
              go_simp
              try rfl
            simp only [Act.put, List.setIfInBounds_toArray, List.set_cons_zero, List.set_cons_succ]
            go_big_quiet_on
            go_big_quiet_want
            apply Exists.intro
            refine ⟨fun u hu => ?_, ?_⟩
            · obtain ⟨hu0, hu1, hu2, hu3, hu4⟩ := hu
              unfold Oper.quietAt
              go_simp
              try rfl
            simp only [Act.put, List.setIfInBounds_toArray, List.set_cons_zero, List.set_cons_succ]
            go_big_quiet_on
            go_big_quiet_want
            apply Exists.intro
            refine ⟨fun u hu => ?_, ?_⟩
            · obtain ⟨hu0, hu1, hu2, hu3, hu4⟩ := hu
              unfold Oper.quietAt
              go_simp
              try rfl
            simp only [Act.put, List.setIfInBounds_toArray, List.set_cons_zero, List.set_cons_succ]
            go_big_quiet_on
            go_big_quiet_want
            apply Exists.intro
            refine ⟨fun u hu => ?_, ?_⟩
            · obtain ⟨hu0, hu1, hu2, hu3, hu4⟩ := hu
              unfold Oper.quietAt
              go_simp
              try rfl
            simp only [Act.put, List.setIfInBounds_toArray, List.set_cons_zero, List.set_cons_succ]
            go_big_quiet_on
            go_big_quiet_want
            apply Exists.intro
            refine ⟨fun u hu => ?_, ?_⟩
            · obtain ⟨hu0, hu1, hu2, hu3, hu4⟩ := hu
              unfold Oper.quietAt
              go_simp
              try rfl
            simp only [Act.put, List.setIfInBounds_toArray, List.set_cons_zero, List.set_cons_succ]
            go_big_quiet_on
            go_big_quiet_want
            apply Exists.intro
            refine ⟨fun u hu => ?_, ?_⟩
            · obtain ⟨hu0, hu1, hu2, hu3, hu4⟩ := hu
              unfold Oper.quietAt
              go_simp
              try rfl
            simp only [Act.put, List.setIfInBounds_toArray, List.set_cons_zero, List.set_cons_succ]
            go_big_quiet_on
            go_big_quiet_want
            apply Exists.intro
            refine ⟨fun u hu => ?_, ?_⟩
            · obtain ⟨hu0, hu1, hu2, hu3, hu4⟩ := hu
              unfold Oper.quietAt
              go_simp
              try rfl
            simp only [Act.put, List.setIfInBounds_toArray, List.set_cons_zero, List.set_cons_succ]
            go_big_quiet_on
            go_big_quiet_want
            go_big_quiet_op
            go_big_quiet_on
            go_big_quiet_want
            apply Exists.intro
            refine ⟨fun u hu => ?_, ?_⟩
            · obtain ⟨hu0, hu1, hu2, hu3, hu4⟩ := hu
              unfold Oper.quietAt
              go_simp
              try rfl
            simp only [Act.put, List.setIfInBounds_toArray, List.set_cons_zero, List.set_cons_succ]
            go_big_quiet_on
            go_big_quiet_want
            apply Exists.intro
            refine ⟨fun u hu => ?_, ?_⟩
            · obtain ⟨hu0, hu1, hu2, hu3, hu4⟩ := hu
              unfold Oper.quietAt
              go_simp
              try rfl
            simp only [Act.put, List.setIfInBounds_toArray, List.set_cons_zero, List.set_cons_succ]
            go_big_quiet_on
            go_big_quiet_want
            go_big_quiet_op
            go_big_quiet_on
            go_big_quiet_want
            refine ⟨.bool false, fun u hu => ?_, ?_⟩
            · obtain ⟨hu0, hu1, hu2, hu3, hu4⟩ := hu
              unfold Oper.quietAt
              go_simp
              refine (contains_any' (S := x.seen) (Lib.hid rfl) (by omega) ((hrj5.below hu0).more hu0.size)).mono ?_
              rintro e u9 ⟨he, rfl⟩
              rw [H1.out] at he
              exact ⟨he, KE _ hu0⟩
            simp only [Act.put, List.setIfInBounds_toArray, List.set_cons_zero, List.set_cons_succ]
            go_big_quiet_on
            go_big_quiet_want
            apply Exists.intro
            refine ⟨fun u hu => ?_, ?_⟩
            · obtain ⟨hu0, hu1, hu2, hu3, hu4⟩ := hu
              unfold Oper.quietAt
              go_simp
              try rfl
            simp only [Act.put, List.setIfInBounds_toArray, List.set_cons_zero, List.set_cons_succ]
            go_big_quiet_on
            refine wpQuiet_nil ?_
            rintro u ⟨k9, _⟩
            go_wp2_with fail
            go_roundw
            case rel => exact ⟨hb.trans (k9.mono hb.size), .inr (.inl ⟨by go_num, HY⟩)⟩
            case measure => simp [intOf]
    · cases hf : fndO X q with
      | none =>
        have HV := Lib.hid (mjB_r (p := p) (mjO_none (j := x) hf))
        have HS := Lib.hid (show (fndO X q).isSome = false by rw [hf]; rfl)
        clear hf
        have KE := fun (u : World) (q9 : Below wr.heap.size wr u) => show Below wr.heap.size wr u ∧ u.cell? ⟨w.heap.size, 1, none⟩ = some (.int .i64 x.club) ∧ u.cell? ⟨w.heap.size, 2, none⟩ = some (.slice Aj x.seen.length cj) from ⟨q9, nwc5 q9 f1, nwc5 q9 f2⟩
        go_wp2_with fail
        refine wp_region_quiet (C := fun u => Below wr.heap.size wr u ∧ u.cell? ⟨w.heap.size, 1, none⟩ = some (.int .i64 x.club) ∧ u.cell? ⟨w.heap.size, 2, none⟩ = some (.slice Aj x.seen.length cj)) (by kernel_rfl) (by kernel_rfl) (KE _ (Below.refl wr.heap.size wr).drew) ?_
        rw [List.toList_toArray]
        go_big_quiet_want
        go_big_quiet_op
        go_big_quiet_on
        go_big_quiet_want
        go_big_quiet_op
        go_big_quiet_on
        go_big_quiet_want
        refine ⟨.bool false, fun u hu => ?_, ?_⟩
        · obtain ⟨hu0, hu1, hu2⟩ := hu
          unfold Oper.quietAt
          go_simp
          refine (plHas_any (m5.new hu0) hq6).mono ?_
          rintro e u9 ⟨he, rfl⟩
          rw [HS.out] at he
          exact ⟨he, KE _ hu0⟩
        simp only [Act.put, List.setIfInBounds_toArray, List.set_cons_zero, List.set_cons_succ]
        go_big_quiet_on
        go_big_quiet_want
        apply Exists.intro
        refine ⟨fun u hu => ?_, ?_⟩
        · obtain ⟨hu0, hu1, hu2⟩ := hu
          unfold Oper.quietAt
          go_simp
          try rfl
        simp only [Act.put, List.setIfInBounds_toArray, List.set_cons_zero, List.set_cons_succ]
        go_big_quiet_on
        go_big_quiet_want
        go_big_quiet_op
        go_big_quiet_on
        repeat go_big_quiet_skip
        go_big_quiet_want
        apply Exists.intro
        refine ⟨fun u hu => ?_, ?_⟩
        · obtain ⟨hu0, hu1, hu2⟩ := hu
          unfold Oper.quietAt
          go_simp
          try rfl
        simp only [Act.put, List.setIfInBounds_toArray, List.set_cons_zero, List.set_cons_succ]
        go_big_quiet_on
        go_big_quiet_want
        go_big_quiet_op
        go_big_quiet_on
        repeat go_big_quiet_skip
        go_big_quiet_want
        apply Exists.intro
        refine ⟨fun u hu => ?_, ?_⟩
        · obtain ⟨hu0, hu1, hu2⟩ := hu
          unfold Oper.quietAt
          go_simp
          try rfl
        simp only [Act.put, List.setIfInBounds_toArray, List.set_cons_zero, List.set_cons_succ]
        go_big_quiet_on
        refine wpQuiet_nil ?_
        rintro u ⟨k9, _⟩
        go_wp2_with fail
        go_ret
        exact ⟨ret_b HV.out.symm, B4.trans ((hb.trans (k9.mono hb.size)).mono B4.size)⟩
      | some v =>
        have HS := Lib.hid (show (fndO X q).isSome = true by rw [hf]; rfl)
        have hget := fun (u : World) (q9 : Below wr.heap.size wr u) => (m5.new q9).get tp_under hq6
        rw [hf] at hget
        obtain ⟨i, rfl, hi, _, _⟩ := fndO_some hf
        have LK : ∀ (u : World), Below wr.heap.size wr u → (Instr.lookup 94 (.map (some W2.heap.size)) (.int .i64 q) false).run Try.prog u = .ok (.int .i64 i) u := fun u q9 => by simpa using hget u q9
        have i0 : (0 : Int) ≤ (i : Int) := by omega
        have i1 : (i : Int) < (n : Int) := by rw [← hl.out]; omega
        obtain ⟨ada, pa, hA, hpa, haa, _, _, _, a1, _⟩ := hrt5.at_ hi
        subst hA
        have HG := Lib.hid (tmG hi)
        obtain ⟨xa, hxa⟩ : ∃ y, y = X[i] := ⟨_, rfl⟩
        rw [← hxa] at a1 HG
        obtain ⟨ca, hca⟩ : ∃ ca, xa.club = ca := ⟨_, rfl⟩
        rw [hca] at a1
        have HCA := Lib.hid hca
        have HFP := Lib.hid hf
        clear hxa hca hf hget
        by_cases c1 : ca = x.club
        · have d1 : (ca == x.club) = true := by simpa using c1
          have HC1 := Lib.hid c1
          have HV := Lib.hid (mjB_r (p := p) (mjO_club HFP.out HG.out (HCA.out.trans HC1.out)))
          clear c1
          have KE := fun (u : World) (q9 : Below wr.heap.size wr u) => show Below wr.heap.size wr u ∧ u.cell? ⟨w.heap.size, 1, none⟩ = some (.int .i64 x.club) ∧ u.cell? ⟨w.heap.size, 2, none⟩ = some (.slice Aj x.seen.length cj) ∧ (Instr.lookup 94 (.map (some W2.heap.size)) (.int .i64 q) false).run Try.prog u = .ok (.int .i64 i) u ∧ u.cell? ⟨pa.block, pa.off + 1, none⟩ = some (.int .i64 ca) from ⟨q9, nwc5 q9 f1, nwc5 q9 f2, LK u q9, nwc5 q9 a1⟩
          go_wp2_with fail
          refine wp_region_quiet (C := fun u => Below wr.heap.size wr u ∧ u.cell? ⟨w.heap.size, 1, none⟩ = some (.int .i64 x.club) ∧ u.cell? ⟨w.heap.size, 2, none⟩ = some (.slice Aj x.seen.length cj) ∧ (Instr.lookup 94 (.map (some W2.heap.size)) (.int .i64 q) false).run Try.prog u = .ok (.int .i64 i) u ∧ u.cell? ⟨pa.block, pa.off + 1, none⟩ = some (.int .i64 ca)) (by kernel_rfl) (by kernel_rfl) (KE _ (Below.refl wr.heap.size wr).drew) ?_
          rw [List.toList_toArray]
          go_big_quiet_want
          go_big_quiet_op
          go_big_quiet_on
          go_big_quiet_want
          go_big_quiet_op
          go_big_quiet_on
          go_big_quiet_want
          refine ⟨.bool true, fun u hu => ?_, ?_⟩
          · obtain ⟨hu0, hu1, hu2, hu3, hu4⟩ := hu
            unfold Oper.quietAt
            go_simp
            refine (plHas_any (m5.new hu0) hq6).mono ?_
            rintro e u9 ⟨he, rfl⟩
            rw [HS.out] at he
            exact ⟨he, KE _ hu0⟩
          simp only [Act.put, List.setIfInBounds_toArray, List.set_cons_zero, List.set_cons_succ]
          go_big_quiet_on
          go_big_quiet_want
          apply Exists.intro
          refine ⟨fun u hu => ?_, ?_⟩
          · obtain ⟨hu0, hu1, hu2, hu3, hu4⟩ := hu
            unfold Oper.quietAt
            go_simp
            try rfl
          simp only [Act.put, List.setIfInBounds_toArray, List.set_cons_zero, List.set_cons_succ]
          go_big_quiet_on
          go_big_quiet_want
          go_big_quiet_op
          go_big_quiet_on
          go_big_quiet_want
          go_big_quiet_op
          go_big_quiet_on
          go_big_quiet_want
          go_big_quiet_op
          go_big_quiet_on
          go_big_quiet_want
          go_big_quiet_op
          go_big_quiet_on
          go_big_quiet_want
          apply Exists.intro
          refine ⟨fun u hu => ?_, ?_⟩
          · obtain ⟨hu0, hu1, hu2, hu3, hu4⟩ := hu
            unfold Oper.quietAt
            go_simp
            try rfl
          simp only [Act.put, List.setIfInBounds_toArray, List.set_cons_zero, List.set_cons_succ]
          go_big_quiet_on
          go_big_quiet_want
          apply Exists.intro
          refine ⟨fun u hu => ?_, ?_⟩
          · obtain ⟨hu0, hu1, hu2, hu3, hu4⟩ := hu
            unfold Oper.quietAt
            go_simp
            try rfl
          simp only [Act.put, List.setIfInBounds_toArray, List.set_cons_zero, List.set_cons_succ]
          go_big_quiet_on
          go_big_quiet_want
          apply Exists.intro
          refine ⟨fun u hu => ?_, ?_⟩
          · obtain ⟨hu0, hu1, hu2, hu3, hu4⟩ := hu
            unfold Oper.quietAt
            go_simp
            try rfl
          simp only [Act.put, List.setIfInBounds_toArray, List.set_cons_zero, List.set_cons_succ]
          go_big_quiet_on
          go_big_quiet_want
          apply Exists.intro
          refine ⟨fun u hu => ?_, ?_⟩
          · obtain ⟨hu0, hu1, hu2, hu3, hu4⟩ := hu
            unfold Oper.quietAt
            go_simp
            try rfl
          simp only [Act.put, List.setIfInBounds_toArray, List.set_cons_zero, List.set_cons_succ]
          go_big_quiet_on
          go_big_quiet_want
          apply Exists.intro
          refine ⟨fun u hu => ?_, ?_⟩
          · obtain ⟨hu0, hu1, hu2, hu3, hu4⟩ := hu
            unfold Oper.quietAt
            go_simp
            try rfl
          simp only [Act.put, List.setIfInBounds_toArray, List.set_cons_zero, List.set_cons_succ]
          go_big_quiet_on
          go_big_quiet_want
          apply Exists.intro
          refine ⟨fun u hu => ?_, ?_⟩
          · obtain ⟨hu0, hu1, hu2, hu3, hu4⟩ := hu
            unfold Oper.quietAt
            go_simp
            try rfl
          simp only [Act.put, List.setIfInBounds_toArray, List.set_cons_zero, List.set_cons_succ]
          go_big_quiet_on
          go_big_quiet_want
          apply Exists.intro
          refine ⟨fun u hu => ?_, ?_⟩
          · obtain ⟨hu0, hu1, hu2, hu3, hu4⟩ := hu
            unfold Oper.quietAt
            go_simp
            try rfl
          simp only [Act.put, List.setIfInBounds_toArray, List.set_cons_zero, List.set_cons_succ]
          go_big_quiet_on
          go_big_quiet_want
          apply Exists.intro
          refine ⟨fun u hu => ?_, ?_⟩
          · obtain ⟨hu0, hu1, hu2, hu3, hu4⟩ := hu
            unfold Oper.quietAt
            go_simp
            try rfl
          simp only [Act.put, List.setIfInBounds_toArray, List.set_cons_zero, List.set_cons_succ]
          go_big_quiet_on
          go_big_quiet_want
          go_big_quiet_op
          go_big_quiet_on
          repeat go_big_quiet_skip
          go_big_quiet_want
          apply Exists.intro
          refine ⟨fun u hu => ?_, ?_⟩
          · obtain ⟨hu0, hu1, hu2, hu3, hu4⟩ := hu
            unfold Oper.quietAt
            go_simp
            try rfl
          simp only [Act.put, List.setIfInBounds_toArray, List.set_cons_zero, List.set_cons_succ]
          go_big_quiet_on
          refine wpQuiet_nil ?_
          rintro u ⟨k9, _⟩
          go_wp2_with fail
          go_ret
          exact ⟨ret_b HV.out.symm, B4.trans ((hb.trans (k9.mono hb.size)).mono B4.size)⟩
        · have d1 : (ca == x.club) = false := by simpa using c1
          have HC1 := Lib.hid c1
          clear c1
          cases s1 : x.seen.contains q with
          | true =>
            have HV := Lib.hid (mjB_r (p := p) (mjO_seen HFP.out s1))
            have H1 := Lib.hid s1
            clear s1
            have KE := fun (u : World) (q9 : Below wr.heap.size wr u) => show Below wr.heap.size wr u ∧ u.cell? ⟨w.heap.size, 1, none⟩ = some (.int .i64 x.club) ∧ u.cell? ⟨w.heap.size, 2, none⟩ = some (.slice Aj x.seen.length cj) ∧ (Instr.lookup 94 (.map (some W2.heap.size)) (.int .i64 q) false).run Try.prog u = .ok (.int .i64 i) u ∧ u.cell? ⟨pa.block, pa.off + 1, none⟩ = some (.int .i64 ca) from ⟨q9, nwc5 q9 f1, nwc5 q9 f2, LK u q9, nwc5 q9 a1⟩
            go_wp2_with fail
            refine wp_region_quiet (C := fun u => Below wr.heap.size wr u ∧ u.cell? ⟨w.heap.size, 1, none⟩ = some (.int .i64 x.club) ∧ u.cell? ⟨w.heap.size, 2, none⟩ = some (.slice Aj x.seen.length cj) ∧ (Instr.lookup 94 (.map (some W2.heap.size)) (.int .i64 q) false).run Try.prog u = .ok (.int .i64 i) u ∧ u.cell? ⟨pa.block, pa.off + 1, none⟩ = some (.int .i64 ca)) (by kernel_rfl) (by kernel_rfl) (KE _ (Below.refl wr.heap.size wr).drew) ?_
            rw [List.toList_toArray]
            go_big_quiet_want
            go_big_quiet_op
            go_big_quiet_on
            go_big_quiet_want
            go_big_quiet_op
            go_big_quiet_on
            go_big_quiet_want
            refine ⟨.bool true, fun u hu => ?_, ?_⟩
            · obtain ⟨hu0, hu1, hu2, hu3, hu4⟩ := hu
              unfold Oper.quietAt
              go_simp
              refine (plHas_any (m5.new hu0) hq6).mono ?_
              rintro e u9 ⟨he, rfl⟩
              rw [HS.out] at he
              exact ⟨he, KE _ hu0⟩
            simp only [Act.put, List.setIfInBounds_toArray, List.set_cons_zero, List.set_cons_succ]
            go_big_quiet_on
            go_big_quiet_want
            apply Exists.intro
            refine ⟨fun u hu => ?_, ?_⟩
            · obtain ⟨hu0, hu1, hu2, hu3, hu4⟩ := hu
              unfold Oper.quietAt
              go_simp
              try rfl
            simp only [Act.put, List.setIfInBounds_toArray, List.set_cons_zero, List.set_cons_succ]
            go_big_quiet_on
            go_big_quiet_want
            go_big_quiet_op
            go_big_quiet_on
            go_big_quiet_want
            go_big_quiet_op
            go_big_quiet_on
            go_big_quiet_want
            go_big_quiet_op
            go_big_quiet_on
            go_big_quiet_want
            go_big_quiet_op
            go_big_quiet_on
            go_big_quiet_want
            apply Exists.intro
            refine ⟨fun u hu => ?_, ?_⟩
            · obtain ⟨hu0, hu1, hu2, hu3, hu4⟩ := hu
              unfold Oper.quietAt
              go_simp
              try rfl
            simp only [Act.put, List.setIfInBounds_toArray, List.set_cons_zero, List.set_cons_succ]
            go_big_quiet_on
            go_big_quiet_want
            apply Exists.intro
            refine ⟨fun u hu => ?_, ?_⟩
            · obtain ⟨hu0, hu1, hu2, hu3, hu4⟩ := hu
              unfold Oper.quietAt
              go_simp
              try rfl
            simp only [Act.put, List.setIfInBounds_toArray, List.set_cons_zero, List.set_cons_succ]
            go_big_quiet_on
            go_big_quiet_want
            apply Exists.intro
            refine ⟨fun u hu => ?_, ?_⟩
            · obtain ⟨hu0, hu1, hu2, hu3, hu4⟩ := hu
              unfold Oper.quietAt
              go_simp
              try rfl
            simp only [Act.put, List.setIfInBounds_toArray, List.set_cons_zero, List.set_cons_succ]
            go_big_quiet_on
            go_big_quiet_want
            apply Exists.intro
            refine ⟨fun u hu => ?_, ?_⟩
            · obtain ⟨hu0, hu1, hu2, hu3, hu4⟩ := hu
              unfold Oper.quietAt
              go_simp
              try rfl
            simp only [Act.put, List.setIfInBounds_toArray, List.set_cons_zero, List.set_cons_succ]
            go_big_quiet_on
            go_big_quiet_want
            apply Exists.intro
            refine ⟨fun u hu => ?_, ?_⟩
            · obtain ⟨hu0, hu1, hu2, hu3, hu4⟩ := hu
              unfold Oper.quietAt
              go_simp
              try rfl
            simp only [Act.put, List.setIfInBounds_toArray, List.set_cons_zero, List.set_cons_succ]
            go_big_quiet_on
            go_big_quiet_want
            apply Exists.intro
            refine ⟨fun u hu => ?_, ?_⟩
            · obtain ⟨hu0, hu1, hu2, hu3, hu4⟩ := hu
              unfold Oper.quietAt
              go_simp
              try rfl
            simp only [Act.put, List.setIfInBounds_toArray, List.set_cons_zero, List.set_cons_succ]
            go_big_quiet_on
            go_big_quiet_want
            apply Exists.intro
            refine ⟨fun u hu => ?_, ?_⟩
            · obtain ⟨hu0, hu1, hu2, hu3, hu4⟩ := hu
              unfold Oper.quietAt
              go_simp
              try rfl
            simp only [Act.put, List.setIfInBounds_toArray, List.set_cons_zero, List.set_cons_succ]
            go_big_quiet_on
            go_big_quiet_want
            apply Exists.intro
            refine ⟨fun u hu => ?_, ?_⟩
            · obtain ⟨hu0, hu1, hu2, hu3, hu4⟩ := hu
              unfold Oper.quietAt
              go_simp
              try rfl
            simp only [Act.put, List.setIfInBounds_toArray, List.set_cons_zero, List.set_cons_succ]
            go_big_quiet_on
            go_big_quiet_want
            go_big_quiet_op
            go_big_quiet_on
            go_big_quiet_want
            apply Exists.intro
            refine ⟨fun u hu => ?_, ?_⟩
            · obtain ⟨hu0, hu1, hu2, hu3, hu4⟩ := hu
              unfold Oper.quietAt
              go_simp
              try rfl
            simp only [Act.put, List.setIfInBounds_toArray, List.set_cons_zero, List.set_cons_succ]
            go_big_quiet_on
            go_big_quiet_want
            apply Exists.intro
            refine ⟨fun u hu => ?_, ?_⟩
            · obtain ⟨hu0, hu1, hu2, hu3, hu4⟩ := hu
              unfold Oper.quietAt
              go_simp
              try rfl
            simp only [Act.put, List.setIfInBounds_toArray, List.set_cons_zero, List.set_cons_succ]
            go_big_quiet_on
            go_big_quiet_want
            go_big_quiet_op
            go_big_quiet_on
            go_big_quiet_want
            refine ⟨.bool true, fun u hu => ?_, ?_⟩
            · obtain ⟨hu0, hu1, hu2, hu3, hu4⟩ := hu
              unfold Oper.quietAt
              go_simp
              refine (contains_any' (S := x.seen) (Lib.hid rfl) (by omega) ((hrj5.below hu0).more hu0.size)).mono ?_
              rintro e u9 ⟨he, rfl⟩
              rw [H1.out] at he
              exact ⟨he, KE _ hu0⟩
            simp only [Act.put, List.setIfInBounds_toArray, List.set_cons_zero, List.set_cons_succ]
            go_big_quiet_on
            go_big_quiet_want
            apply Exists.intro
            refine ⟨fun u hu => ?_, ?_⟩
            · obtain ⟨hu0, hu1, hu2, hu3, hu4⟩ := hu
              unfold Oper.quietAt
              go_simp
              try rfl
            simp only [Act.put, List.setIfInBounds_toArray, List.set_cons_zero, List.set_cons_succ]
            go_big_quiet_on
            refine wpQuiet_nil ?_
            rintro u ⟨k9, _⟩
            go_wp2_with fail
            go_ret
            exact ⟨ret_b HV.out.symm, B4.trans ((hb.trans (k9.mono hb.size)).mono B4.size)⟩
          | false =>
            have H1 := Lib.hid s1
            have HY := Lib.hid (mjO_yes HFP.out HG.out (fun h => HC1.out (HCA.out.symm.trans h)) H1.out)
            clear s1
            have KE := fun (u : World) (q9 : Below wr.heap.size wr u) => show Below wr.heap.size wr u ∧ u.cell? ⟨w.heap.size, 1, none⟩ = some (.int .i64 x.club) ∧ u.cell? ⟨w.heap.size, 2, none⟩ = some (.slice Aj x.seen.length cj) ∧ (Instr.lookup 94 (.map (some W2.heap.size)) (.int .i64 q) false).run Try.prog u = .ok (.int .i64 i) u ∧ u.cell? ⟨pa.block, pa.off + 1, none⟩ = some (.int .i64 ca) from ⟨q9, nwc5 q9 f1, nwc5 q9 f2, LK u q9, nwc5 q9 a1⟩
            go_wp2_with fail
            refine wp_region_quiet (C := fun u => Below wr.heap.size wr u ∧ u.cell? ⟨w.heap.size, 1, none⟩ = some (.int .i64 x.club) ∧ u.cell? ⟨w.heap.size, 2, none⟩ = some (.slice Aj x.seen.length cj) ∧ (Instr.lookup 94 (.map (some W2.heap.size)) (.int .i64 q) false).run Try.prog u = .ok (.int .i64 i) u ∧ u.cell? ⟨pa.block, pa.off + 1, none⟩ = some (.int .i64 ca)) (by kernel_rfl) (by kernel_rfl) (KE _ (Below.refl wr.heap.size wr).drew) ?_
            rw [List.toList_toArray]
            go_big_quiet_want
            go_big_quiet_op
            go_big_quiet_on
            go_big_quiet_want
            go_big_quiet_op
            go_big_quiet_on
            go_big_quiet_want
            refine ⟨.bool true, fun u hu => ?_, ?_⟩
            · obtain ⟨hu0, hu1, hu2, hu3, hu4⟩ := hu
              unfold Oper.quietAt
              go_simp
              refine (plHas_any (m5.new hu0) hq6).mono ?_
              rintro e u9 ⟨he, rfl⟩
              rw [HS.out] at he
              exact ⟨he, KE _ hu0⟩
            simp only [Act.put, List.setIfInBounds_toArray, List.set_cons_zero, List.set_cons_succ]
            go_big_quiet_on
            go_big_quiet_want
            apply Exists.intro
            refine ⟨fun u hu => ?_, ?_⟩
            · obtain ⟨hu0, hu1, hu2, hu3, hu4⟩ := hu
              unfold Oper.quietAt
              go_simp
              try rfl
            simp only [Act.put, List.setIfInBounds_toArray, List.set_cons_zero, List.set_cons_succ]
            go_big_quiet_on
            go_big_quiet_want
            go_big_quiet_op
            go_big_quiet_on
            go_big_quiet_want
            go_big_quiet_op
            go_big_quiet_on
            go_big_quiet_want
            go_big_quiet_op
            go_big_quiet_on
            go_big_quiet_want
            go_big_quiet_op
            go_big_quiet_on
            go_big_quiet_want
            apply Exists.intro
            refine ⟨fun u hu => ?_, ?_⟩
            · obtain ⟨hu0, hu1, hu2, hu3, hu4⟩ := hu
              unfold Oper.quietAt
              go_simp
              try rfl
            simp only [Act.put, List.setIfInBounds_toArray, List.set_cons_zero, List.set_cons_succ]
            go_big_quiet_on
            go_big_quiet_want
            apply Exists.intro
            refine ⟨fun u hu => ?_, ?_⟩
            · obtain ⟨hu0, hu1, hu2, hu3, hu4⟩ := hu
              unfold Oper.quietAt
              go_simp
              try rfl
            simp only [Act.put, List.setIfInBounds_toArray, List.set_cons_zero, List.set_cons_succ]
            go_big_quiet_on
            go_big_quiet_want
            apply Exists.intro
            refine ⟨fun u hu => ?_, ?_⟩
            · obtain ⟨hu0, hu1, hu2, hu3, hu4⟩ := hu
              unfold Oper.quietAt
              go_simp
              try rfl
            simp only [Act.put, List.setIfInBounds_toArray, List.set_cons_zero, List.set_cons_succ]
            go_big_quiet_on
            go_big_quiet_want
            apply Exists.intro
            refine ⟨fun u hu => ?_, ?_⟩
            · obtain ⟨hu0, hu1, hu2, hu3, hu4⟩ := hu
              unfold Oper.quietAt
              go_simp
              try rfl
            simp only [Act.put, List.setIfInBounds_toArray, List.set_cons_zero, List.set_cons_succ]
            go_big_quiet_on
            go_big_quiet_want
            apply Exists.intro
            refine ⟨fun u hu => ?_, ?_⟩
            · obtain ⟨hu0, hu1, hu2, hu3, hu4⟩ := hu
              unfold Oper.quietAt
              go_simp
              try rfl
            simp only [Act.put, List.setIfInBounds_toArray, List.set_cons_zero, List.set_cons_succ]
            go_big_quiet_on
            go_big_quiet_want
            apply Exists.intro
            refine ⟨fun u hu => ?_, ?_⟩
            · obtain ⟨hu0, hu1, hu2, hu3, hu4⟩ := hu
              unfold Oper.quietAt
              go_simp
              try rfl
            simp only [Act.put, List.setIfInBounds_toArray, List.set_cons_zero, List.set_cons_succ]
            go_big_quiet_on
            go_big_quiet_want
            apply Exists.intro
            refine ⟨fun u hu => ?_, ?_⟩
            · obtain ⟨hu0, hu1, hu2, hu3, hu4⟩ := hu
              unfold Oper.quietAt
              go_simp
              try rfl
            simp only [Act.put, List.setIfInBounds_toArray, List.set_cons_zero, List.set_cons_succ]
            go_big_quiet_on
            go_big_quiet_want
            apply Exists.intro
            refine ⟨fun u hu => ?_, ?_⟩
            · obtain ⟨hu0, hu1, hu2, hu3, hu4⟩ := hu
              unfold Oper.quietAt
              go_simp
              try rfl
            simp only [Act.put, List.setIfInBounds_toArray, List.set_cons_zero, List.set_cons_succ]
            go_big_quiet_on
            go_big_quiet_want
            go_big_quiet_op
            go_big_quiet_on
            go_big_quiet_want
            apply Exists.intro
            refine ⟨fun u hu => ?_, ?_⟩
            · obtain ⟨hu0, hu1, hu2, hu3, hu4⟩ := hu
              unfold Oper.quietAt
              go_simp
              try rfl
            simp only [Act.put, List.setIfInBounds_toArray, List.set_cons_zero, List.set_cons_succ]
            go_big_quiet_on
            go_big_quiet_want
            apply Exists.intro
            refine ⟨fun u hu => ?_, ?_⟩
            · obtain ⟨hu0, hu1, hu2, hu3, hu4⟩ := hu
              unfold Oper.quietAt
              go_simp
              try rfl
            simp only [Act.put, List.setIfInBounds_toArray, List.set_cons_zero, List.set_cons_succ]
            go_big_quiet_on
            go_big_quiet_want
            go_big_quiet_op
            go_big_quiet_on
            go_big_quiet_want
            refine ⟨.bool false, fun u hu => ?_, ?_⟩
            · obtain ⟨hu0, hu1, hu2, hu3, hu4⟩ := hu
              unfold Oper.quietAt
              go_simp
              refine (contains_any' (S := x.seen) (Lib.hid rfl) (by omega) ((hrj5.below hu0).more hu0.size)).mono ?_
              rintro e u9 ⟨he, rfl⟩
              rw [H1.out] at he
              exact ⟨he, KE _ hu0⟩
            simp only [Act.put, List.setIfInBounds_toArray, List.set_cons_zero, List.set_cons_succ]
            go_big_quiet_on
            go_big_quiet_want
            apply Exists.intro
            refine ⟨fun u hu => ?_, ?_⟩
            · obtain ⟨hu0, hu1, hu2, hu3, hu4⟩ := hu
              unfold Oper.quietAt
              go_simp
              try rfl
            simp only [Act.put, List.setIfInBounds_toArray, List.set_cons_zero, List.set_cons_succ]
            go_big_quiet_on
            refine wpQuiet_nil ?_
            rintro u ⟨k9, _⟩
            go_wp2_with fail
            go_roundw
            case rel => exact ⟨hb.trans (k9.mono hb.size), .inr (.inr ⟨by go_num, hmp, HY⟩)⟩
            case measure => simp [intOf]
    · have HV := Lib.hid (mjB_y hmp.out hmq.out)
      go_wp2_with fail
      go_ret
      exact ⟨ret_b HV.out.symm, B4.trans (hb.mono B4.size)⟩
end Go.Proofs.Ythkigilegnjglaa
