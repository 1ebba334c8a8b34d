/- Contract of the model IsLine. Condition: the slices have at most 2^40 elements. -/
import Derived.Test.YtejncjjkcmhmbaaLineMath
import Derived.Test.YtejncjjkcmhmbaaMg5
import Derived.Test.YtejncjjkcmhmbaaGrow
import Derived.BigQuiet
import Derived.Deep.Quiet
namespace Go.Proofs.Ytejncjjkcmhmbaa
open Go.ChangeShapes Go.WideShapes Go.ChangeAt Go.RowKit
set_option maxRecDepth 100000
theorem bx2_new {W w' : World} {g : Nat} {t : TypeId} {a b : Value} (k : Bx W g t #[a, b]) (hb : Below W.heap.size W w') : Below W.heap.size W w' ∧ w'.cell? ⟨g, 0, none⟩ = some a ∧ w'.cell? ⟨g, 1, none⟩ = some b := ⟨hb, (k.new hb).two.1, (k.new hb).two.2⟩
theorem getZ_at {L : List Int} {k : Nat} (h : k < L.length) : L.getD k 0 = L[k] := by simp [List.getD, h]
section
variable {w : World} {A A' : Option Addr} {n c n' c' : Nat} {N : Int} {X : List (List Int)} {L : List Int}
set_option maxHeartbeats 8000000 in
theorem specIsLine_any (hl : Hid (X.length = n)) (hn : n ≤ 1099511627776) (hr : RdSS w w.heap.size A X) (hl' : Hid (L.length = n')) (hn' : n' ≤ 1099511627776) (hr' : Rd w w.heap.size A' (ivs L)) :
    Calls Try.prog 79 #[.agg #[.int .i64 N, .slice A n c], .slice A' n' c'] w (Tells (lineB N X L) w) := by
  have hb1 := alloc_new w (Obj.cells #[Value.int IntKind.i64 N, Value.slice A n c] 27)
  have bx1 := Bx.made w 27 #[Value.int IntKind.i64 N, Value.slice A n c]
  obtain ⟨W1, hW⟩ : ∃ u : World, u = w.alloc (Obj.cells #[Value.int IntKind.i64 N, Value.slice A n c] 27) := ⟨_, rfl⟩
  rw [← hW] at hb1 bx1
  have hW' := hW.symm
  have HR := Lib.hid ((hr.below hb1).more hb1.size)
  have HR' := Lib.hid hr'
  have KE0 := fun (w' : World) (k : Below W1.heap.size W1 w') => bx2_new bx1 k
  obtain ⟨C0, C1⟩ := bx1.two
  clear hW hr hr'
  by_cases hX : gB N X = true
  case neg =>
    have HX := Lib.hid (show gB N X = false by simpa using hX)
    have HV := Lib.hid (line_g (L := L) HX.out)
    clear hX
    go_enter Try.func79, Try.ntmps79
    go_wp2_with fail
    refine (specIsGraph_any (N := N) (X := X) (c := c) hl hn HR.out).mono ?_
    rintro e w3 ⟨rfl, hb3⟩
    rw [HX.out]
    go_wp2_with fail
    go_ret
    exact ⟨ret_b HV.out.symm, hb1.trans (hb3.mono hb1.size)⟩
  case pos =>
    have HX := Lib.hid hX
    obtain ⟨m, rfl, hm, _⟩ := gB_ok hX
    clear hX
    go_enter Try.func79, Try.ntmps79
    go_wp2_with fail
    refine (specIsGraph_any (N := m) (X := X) (c := c) hl hn HR.out).mono ?_
    rintro e w3 ⟨rfl, hb3⟩
    rw [HX.out]
    go_wp2_with fail
    go_loopw [5] (fun i wr => ∃ k : Nat, k ≤ n' ∧ i = .int .i64 k ∧ Below W1.heap.size W1 wr ∧ Hid (∀ q < k, stpB m X L q = true)) (fun i _ => n' - (intOf i).toNat)
    case atStart => exact ⟨0, Nat.zero_le _, rfl, hb3, Lib.hid (fun q hq => absurd hq (Nat.not_lt_zero _))⟩
    case round =>
      obtain ⟨k, hk, rfl, hbw, hD⟩ := hrel
      have hbr := hb1.trans (hbw.mono hb1.size)
      obtain ⟨_, E0, E1⟩ := KE0 _ hbw
      by_cases hlt : k < n'
      case neg =>
        obtain rfl : k = n' := by omega
        have HV := Lib.hid (line_yes (N := m) (X := X) (L := L) HX.out (by rw [hl'.out]; exact hD.out))
        rw [hl'.out] at HV
        clear hD
        go_wp2_with fail
        go_ret
        exact ⟨ret_b (by rw [HV.out]), hbr⟩
      case pos =>
        have hkz : k < L.length := by rw [hl'.out]; exact hlt
        obtain ⟨ad, rfl, hab, hc0⟩ := HR'.out k _ (ivs_get L k hkz)
        have HBAD := Lib.hid (fun h : stpB m X L k = false => line_bad (N := m) (X := X) (L := L) hkz h)
        have HSTP := Lib.hid (show stpB m X L k = (inr (L.getD k 0) 0 ((m : Int) - 1) && lnkB m X L k && oddB L k) from rfl)
        rw [getZ_at hkz] at HSTP
        obtain ⟨x, hx⟩ : ∃ x, x = L[k] := ⟨_, rfl⟩
        rw [← hx] at hc0 HSTP
        have HXK := Lib.hid hx
        have hc1 := (hb1.cell (p := ad.add k) (by rw [add_blk]; exact hab)).trans hc0
        have hab1 : (ad.add k).block < W1.heap.size := by rw [add_blk]; have := hb1.size; omega
        have KE := fun (u : World) (q : Below W1.heap.size W1 u) => show Below W1.heap.size W1 u ∧ u.cell? ⟨w.heap.size, 0, none⟩ = some (.int .i64 m) ∧ u.cell? ⟨w.heap.size, 1, none⟩ = some (.slice A n c) ∧ u.cell? (ad.add k) = some (.int .i64 x) from ⟨q, (KE0 u q).2.1, (KE0 u q).2.2, (q.cell (p := ad.add k) hab1).trans hc1⟩
        have i0 : (0 : Int) ≤ (k : Int) := by omega
        have i1 : (k : Int) < (n' : Int) := by omega
        have v1 : wrap64 ((m : Int) - 1) = (m : Int) - 1 := IntWalk.wrap64_in _ (by omega)
        have v2 : IntKind.i64.wrap ((m : Int) - 1) = (m : Int) - 1 := IntWalk.i64_in _ (by omega)
        clear hx hc0
        by_cases hi : inr x 0 ((m : Int) - 1) = true
        case neg =>
          have HI := Lib.hid (show inr x 0 ((m : Int) - 1) = false by simpa using hi)
          have HV := Lib.hid (HBAD.out (by rw [HSTP.out, HI.out]; rfl))
          clear hi
          go_wp2_with fail
          refine wp_region_quiet (C := fun u => Below W1.heap.size W1 u ∧ u.cell? ⟨w.heap.size, 0, none⟩ = some (.int .i64 m) ∧ u.cell? ⟨w.heap.size, 1, none⟩ = some (.slice A n c) ∧ u.cell? (ad.add k) = some (.int .i64 x)) (by kernel_rfl) (by kernel_rfl) (KE _ hbw.drew) ?_
          rw [List.toList_toArray]
          go_big_quiet_want
          go_big_quiet_op
          go_big_quiet_on
          go_big_quiet_want
          go_big_quiet_op
          go_big_quiet_on
          go_big_quiet_want
          apply Exists.intro
          refine ⟨fun u hu => ?_, ?_⟩
          · obtain ⟨hu0, hu1, hu2, hu3⟩ := hu
            unfold Oper.quietAt
            go_simp
            try rfl
          simp only [Act.put, List.setIfInBounds_toArray, List.set_cons_zero, List.set_cons_succ]
          go_big_quiet_on
          go_big_quiet_want
          apply Exists.intro
          refine ⟨fun u hu => ?_, ?_⟩
          · obtain ⟨hu0, hu1, hu2, hu3⟩ := hu
            unfold Oper.quietAt
            go_simp
            try rfl
          simp only [Act.put, List.setIfInBounds_toArray, List.set_cons_zero, List.set_cons_succ]
          go_big_quiet_on
          go_big_quiet_want
          apply Exists.intro
          refine ⟨fun u hu => ?_, ?_⟩
          · obtain ⟨hu0, hu1, hu2, hu3⟩ := hu
            unfold Oper.quietAt
            go_simp
            try rfl
          simp only [Act.put, List.setIfInBounds_toArray, List.set_cons_zero, List.set_cons_succ]
          go_big_quiet_on
          go_big_quiet_want
          apply Exists.intro
          refine ⟨fun u hu => ?_, ?_⟩
          · obtain ⟨hu0, hu1, hu2, hu3⟩ := hu
            unfold Oper.quietAt
            go_simp
            try rfl
          simp only [Act.put, List.setIfInBounds_toArray, List.set_cons_zero, List.set_cons_succ]
          go_big_quiet_on
          go_big_quiet_want
          apply Exists.intro
          refine ⟨fun u hu => ?_, ?_⟩
          · obtain ⟨hu0, hu1, hu2, hu3⟩ := hu
            unfold Oper.quietAt
            go_simp
            try rfl
          simp only [Act.put, List.setIfInBounds_toArray, List.set_cons_zero, List.set_cons_succ]
          go_big_quiet_on
          go_big_quiet_want
          refine ⟨.bool false, fun u hu => ?_, ?_⟩
          · unfold Oper.quietAt
            go_simp
            refine (l1In_any x 0 ((m : Int) - 1) u).mono ?_
            rintro e u9 ⟨he, rfl⟩
            rw [HI.out] at he
            exact ⟨he, hu⟩
          simp only [Act.put, List.setIfInBounds_toArray, List.set_cons_zero, List.set_cons_succ]
          go_big_quiet_on
          go_big_quiet_want
          apply Exists.intro
          refine ⟨fun u hu => ?_, ?_⟩
          · obtain ⟨hu0, hu1, hu2, hu3⟩ := hu
            unfold Oper.quietAt
            go_simp
            try rfl
          simp only [Act.put, List.setIfInBounds_toArray, List.set_cons_zero, List.set_cons_succ]
          go_big_quiet_on
          go_big_quiet_want
          go_big_quiet_op
          go_big_quiet_on
          repeat go_big_quiet_skip
          go_big_quiet_want
          apply Exists.intro
          refine ⟨fun u hu => ?_, ?_⟩
          · obtain ⟨hu0, hu1, hu2, hu3⟩ := hu
            unfold Oper.quietAt
            go_simp
            try rfl
          simp only [Act.put, List.setIfInBounds_toArray, List.set_cons_zero, List.set_cons_succ]
          go_big_quiet_on
          refine wpQuiet_nil ?_
          rintro u ⟨k9, _, _, _⟩
          go_wp2_with fail
          go_ret
          exact ⟨ret_b HV.out.symm, hb1.trans (k9.mono hb1.size)⟩
        case pos =>
          have HI := Lib.hid hi
          clear hi
          by_cases hk0 : k = 0
          case pos =>
            have HSP := Lib.hid (show stpB m X L k = oddB L k by rw [HSTP.out, HI.out]; unfold lnkB; rw [hk0]; simp)
            have hf0 : decide ((0 : Int) < (k : Int)) = false := decide_eq_false (by omega)
            have hf1 : ¬ (0 : Int) < (k : Int) := by omega
            clear hk0
            go_wp2_with fail
            refine wp_region_quiet (C := fun u => Below W1.heap.size W1 u ∧ u.cell? ⟨w.heap.size, 0, none⟩ = some (.int .i64 m) ∧ u.cell? ⟨w.heap.size, 1, none⟩ = some (.slice A n c) ∧ u.cell? (ad.add k) = some (.int .i64 x)) (by kernel_rfl) (by kernel_rfl) (KE _ hbw.drew) ?_
            rw [List.toList_toArray]
            go_big_quiet_want
            go_big_quiet_op
            go_big_quiet_on
            go_big_quiet_want
            go_big_quiet_op
            go_big_quiet_on
            go_big_quiet_want
            apply Exists.intro
            refine ⟨fun u hu => ?_, ?_⟩
            · obtain ⟨hu0, hu1, hu2, hu3⟩ := hu
              unfold Oper.quietAt
              go_simp
              try rfl
            simp only [Act.put, List.setIfInBounds_toArray, List.set_cons_zero, List.set_cons_succ]
            go_big_quiet_on
            go_big_quiet_want
            apply Exists.intro
            refine ⟨fun u hu => ?_, ?_⟩
            · obtain ⟨hu0, hu1, hu2, hu3⟩ := hu
              unfold Oper.quietAt
              go_simp
              try rfl
            simp only [Act.put, List.setIfInBounds_toArray, List.set_cons_zero, List.set_cons_succ]
            go_big_quiet_on
            go_big_quiet_want
            apply Exists.intro
            refine ⟨fun u hu => ?_, ?_⟩
            · obtain ⟨hu0, hu1, hu2, hu3⟩ := hu
              unfold Oper.quietAt
              go_simp
              try rfl
            simp only [Act.put, List.setIfInBounds_toArray, List.set_cons_zero, List.set_cons_succ]
            go_big_quiet_on
            go_big_quiet_want
            apply Exists.intro
            refine ⟨fun u hu => ?_, ?_⟩
            · obtain ⟨hu0, hu1, hu2, hu3⟩ := hu
              unfold Oper.quietAt
              go_simp
              try rfl
            simp only [Act.put, List.setIfInBounds_toArray, List.set_cons_zero, List.set_cons_succ]
            go_big_quiet_on
            go_big_quiet_want
            apply Exists.intro
            refine ⟨fun u hu => ?_, ?_⟩
            · obtain ⟨hu0, hu1, hu2, hu3⟩ := hu
              unfold Oper.quietAt
              go_simp
              try rfl
            simp only [Act.put, List.setIfInBounds_toArray, List.set_cons_zero, List.set_cons_succ]
            go_big_quiet_on
            go_big_quiet_want
            refine ⟨.bool true, fun u hu => ?_, ?_⟩
            · unfold Oper.quietAt
              go_simp
              refine (l1In_any x 0 ((m : Int) - 1) u).mono ?_
              rintro e u9 ⟨he, rfl⟩
              rw [HI.out] at he
              exact ⟨he, hu⟩
            simp only [Act.put, List.setIfInBounds_toArray, List.set_cons_zero, List.set_cons_succ]
            go_big_quiet_on
            go_big_quiet_want
            apply Exists.intro
            refine ⟨fun u hu => ?_, ?_⟩
            · obtain ⟨hu0, hu1, hu2, hu3⟩ := hu
              unfold Oper.quietAt
              go_simp
              try rfl
            simp only [Act.put, List.setIfInBounds_toArray, List.set_cons_zero, List.set_cons_succ]
            go_big_quiet_on
            go_big_quiet_want
            go_big_quiet_op
            go_big_quiet_on
            go_big_quiet_want
            go_big_quiet_op
            go_big_quiet_on
            go_big_quiet_want
            refine ⟨.bool false, fun u hu => ?_, ?_⟩
            · unfold Oper.quietAt
              go_simp
              all_goals (first | omega | (simp; omega))
            simp only [Act.put, List.setIfInBounds_toArray, List.set_cons_zero, List.set_cons_succ]
            go_big_quiet_on
            go_big_quiet_want
            go_big_quiet_op
            go_big_quiet_on
            repeat go_big_quiet_skip
            go_big_quiet_want
            apply Exists.intro
            refine ⟨fun u hu => ?_, ?_⟩
            · obtain ⟨hu0, hu1, hu2, hu3⟩ := hu
              unfold Oper.quietAt
              go_simp
              try rfl
            simp only [Act.put, List.setIfInBounds_toArray, List.set_cons_zero, List.set_cons_succ]
            go_big_quiet_on
            go_big_quiet_want
            apply Exists.intro
            refine ⟨fun u hu => ?_, ?_⟩
            · obtain ⟨hu0, hu1, hu2, hu3⟩ := hu
              unfold Oper.quietAt
              go_simp
              try rfl
            simp only [Act.put, List.setIfInBounds_toArray, List.set_cons_zero, List.set_cons_succ]
            go_big_quiet_on
            refine wpQuiet_nil ?_
            rintro u ⟨k9, _, _, _⟩
            go_wp2_with fail
            obtain ⟨wo, hwo⟩ : ∃ v, v = wr := ⟨_, rfl⟩
            subst hwo
            obtain ⟨t, ht⟩ : ∃ t, k = 2 * t ∨ k = 2 * t + 1 := ⟨k / 2, by omega⟩
            have hcell := fun (v : World) (hv : Below W1.heap.size W1 v) => (KE v hv).2.2.2
            have HCELL := Lib.hid hcell
            clear hcell
            rcases ht with ht | ht
            · have hm0 : (k : Int) % 2 = 0 := by omega
              have hm1 : (k : Int).tmod 2 = 0 := (Int.tmod_eq_emod_of_nonneg (by omega)).trans hm0
              have HNOX := Lib.hid (fun (r : Nat) (hr : r < t) (h : L.getD (2 * r) 0 = x) => show stpB m X L k = false by
                rw [HSP.out]
                unfold oddB
                rw [getZ_at hkz, ← HXK.out, show k / 2 = t by omega, show (usd L t).contains x = true by
                  rw [List.contains_eq_mem, decide_eq_true_iff]
                  exact usd_mem.2 ⟨r, hr, h⟩, show (k % 2 == 1) = false by simp; omega]
                rfl)
              have HYES := Lib.hid (fun (h : ∀ r < t, L.getD (2 * r) 0 ≠ x) => show stpB m X L k = true by
                rw [HSP.out]
                unfold oddB
                rw [getZ_at hkz, ← HXK.out, show k / 2 = t by omega, show (usd L t).contains x = false by
                  rw [List.contains_eq_mem, decide_eq_false_iff_not]
                  intro hu
                  obtain ⟨r, hr, e⟩ := usd_mem.1 hu
                  exact h r hr e]
                simp)
              have HT := Lib.hid ht
              clear ht
              rw [hm0]
              go_loopw [6] (fun i wr => ∃ q : Nat, q ≤ t ∧ i = .int .i64 ((2 * q : Nat) : Int) ∧ Below W1.heap.size W1 wr ∧ Hid (∀ r < q, L.getD (2 * r) 0 ≠ x)) (fun i _ => k + 1 - (intOf i).toNat)
              case atStart => exact ⟨0, Nat.zero_le _, rfl, k9, Lib.hid (fun r hr => absurd hr (Nat.not_lt_zero _))⟩
              case round =>
                obtain ⟨q, hq, rfl, hbv, hI⟩ := hrel
                obtain ⟨cc, hcc⟩ : ∃ cc, cc = 2 * q := ⟨_, rfl⟩
                rw [← hcc]
                have g1 := HCELL.out wr hbv
                by_cases hqt : q < t
                · have hcz : cc < L.length := by have := HT.out; rw [hl'.out]; omega
                  obtain ⟨ad8, e8, hab8, hc8⟩ := HR'.out cc _ (ivs_get L cc hcz)
                  injection e8 with e8
                  subst e8
                  have hc9 := (hbv.cell (p := ad.add cc) (by rw [add_blk]; rw [add_blk] at hab1; exact hab1)).trans ((hb1.cell (p := ad.add cc) (by rw [add_blk]; exact hab8)).trans hc8)
                  have j0 : (0 : Int) ≤ (cc : Int) := by omega
                  have j1 : (cc : Int) < (n' : Int) := by have := HT.out; omega
                  have j2 : (cc : Int) < (k : Int) := by have := HT.out; omega
                  have HCC := Lib.hid hcc
                  by_cases hv : L[cc] = x
                  · have HV := Lib.hid (HBAD.out (HNOX.out q hqt (by rw [← hcc, getZ_at hcz]; exact hv)))
                    rw [hv] at hc9
                    clear hcc hv hc8 hI
                    go_wp2_with fail
                    go_quiet (fail)
                    go_wp2_with fail
                    go_ret
                    exact ⟨ret_b HV.out.symm, below_drewN (hb1.trans (hbv.mono hb1.size)) _⟩
                  · have HQ := Lib.hid (show ∀ r < q + 1, L.getD (2 * r) 0 ≠ x from fun r hr => by
                      rcases Nat.lt_or_ge r q with h | h
                      · exact hI.out r h
                      · obtain rfl : r = q := by omega
                        rw [← hcc, getZ_at hcz]; exact hv)
                    obtain ⟨y9, hy9⟩ : ∃ y, y = L[cc] := ⟨_, rfl⟩
                    rw [← hy9] at hc9 hv
                    have hv2 : (y9 == x) = false := by simpa using hv
                    clear hcc hc8 hI hy9
                    go_wp2_with fail
                    go_quiet (fail)
                    go_wp2_with fail
                    go_roundw
                    case rel => exact ⟨q + 1, by omega, by have := HCC.out; go_num, below_drewN hbv _, HQ⟩
                    case measure => have := HT.out; simp [intOf]; omega
                · have e1 : cc = k := by have := HT.out; omega
                  have hst := HYES.out (fun r hr => hI.out r (by omega))
                  have HQ := Lib.hid (show ∀ r < k + 1, stpB m X L r = true from fun r hr => by
                    rcases Nat.lt_or_ge r k with h | h
                    · exact hD.out r h
                    · obtain rfl : r = k := by omega
                      exact hst)
                  have j2 : ¬ (cc : Int) < (k : Int) := by have := HT.out; omega
                  clear hcc e1 hst hI
                  go_wp2_with fail
                  go_roundw
                  case rel => first | exact ⟨k + 1, by omega, by go_num, HQ⟩ | exact ⟨k + 1, by omega, by go_num, hbv, HQ⟩
                  case measure => have := HT.out; simp [intOf]; omega
            · have hm0 : (k : Int) % 2 = 1 := by omega
              have hm1 : (k : Int).tmod 2 = 1 := (Int.tmod_eq_emod_of_nonneg (by omega)).trans hm0
              have HST := Lib.hid (show stpB m X L k = true by rw [HSP.out]; unfold oddB; rw [show (k % 2 == 1) = true by simp; omega]; rfl)
              have HT := Lib.hid ht
              clear ht
              rw [hm0]
              go_loopw [6] (fun i wr => ∃ q : Nat, q ≤ t ∧ i = .int .i64 ((2 * q + 1 : Nat) : Int) ∧ Below W1.heap.size W1 wr) (fun i _ => k + 1 - (intOf i).toNat)
              case atStart => exact ⟨0, Nat.zero_le _, rfl, k9⟩
              case round =>
                obtain ⟨q, hq, rfl, hbv⟩ := hrel
                obtain ⟨cc, hcc⟩ : ∃ cc, cc = 2 * q + 1 := ⟨_, rfl⟩
                rw [← hcc]
                have HCC := Lib.hid hcc
                by_cases hqt : q < t
                · have j2 : (cc : Int) < (k : Int) := by have := HT.out; omega
                  clear hcc
                  go_wp2_with fail
                  go_quiet (fail)
                  go_wp2_with fail
                  go_roundw
                  case rel => exact ⟨q + 1, by omega, by have := HCC.out; go_num, below_drewN hbv _⟩
                  case measure => have := HT.out; simp [intOf]; omega
                · have j2 : ¬ (cc : Int) < (k : Int) := by have := HT.out; omega
                  have HQ := Lib.hid (show ∀ r < k + 1, stpB m X L r = true from fun r hr => by
                    rcases Nat.lt_or_ge r k with h | h
                    · exact hD.out r h
                    · obtain rfl : r = k := by omega
                      exact HST.out)
                  clear hcc
                  go_wp2_with fail
                  go_roundw
                  case rel => first | exact ⟨k + 1, by omega, by go_num, HQ⟩ | exact ⟨k + 1, by omega, by go_num, hbv, HQ⟩
                  case measure => have := HT.out; simp [intOf]; omega
          case neg =>
            obtain ⟨j, hj⟩ : ∃ j, k = j + 1 := ⟨k - 1, by omega⟩
            have hjz : j < L.length := by rw [hl'.out]; omega
            obtain ⟨ad9, e9, _, hcj⟩ := HR'.out j _ (ivs_get L j hjz)
            injection e9 with e9
            subst e9
            have HSJ := Lib.hid (show stpB m X L k = (dA m X x (L.getD j 0) && oddB L k) by rw [HSTP.out, HI.out, HXK.out]; unfold lnkB; rw [show k - 1 = j by omega, getZ_at hkz, show (k == 0) = false by simpa using hk0]; simp)
            rw [getZ_at hjz] at HSJ
            obtain ⟨y, hy⟩ : ∃ y, y = L[j] := ⟨_, rfl⟩
            rw [← hy] at hcj HSJ
            have hcj1 := (hb1.cell (p := ad.add j) (by rw [add_blk]; exact hab)).trans hcj
            have habj : (ad.add j).block < W1.heap.size := by rw [add_blk]; have := hb1.size; omega
            have KJ := fun (u : World) (q : Below W1.heap.size W1 u) => show Below W1.heap.size W1 u ∧ u.cell? ⟨w.heap.size, 0, none⟩ = some (.int .i64 m) ∧ u.cell? ⟨w.heap.size, 1, none⟩ = some (.slice A n c) ∧ u.cell? (ad.add k) = some (.int .i64 x) ∧ u.cell? (ad.add j) = some (.int .i64 y) from ⟨q, (KE0 u q).2.1, (KE0 u q).2.2, (KE u q).2.2.2, (q.cell (p := ad.add j) habj).trans hcj1⟩
            obtain ⟨d, hd⟩ : ∃ d, d = dA m X x y := ⟨_, rfl⟩
            have HDd := Lib.hid hd.symm
            rw [← hd] at HSJ
            have q1 : (0 : Int) < (k : Int) := by omega
            have q2 : wrap64 ((k : Int) - 1) = (j : Int) := (IntWalk.wrap64_in _ (by omega)).trans (by omega)
            have q3 : IntKind.i64.wrap ((k : Int) - 1) = (j : Int) := (IntWalk.i64_in _ (by omega)).trans (by omega)
            have q4 : (0 : Int) ≤ (j : Int) := by omega
            have q5 : (j : Int) < (n' : Int) := by omega
            have HJ := Lib.hid hj
            clear hy hd hcj hj hk0
            go_wp2_with fail
            refine wp_region_quiet (C := fun u => Below W1.heap.size W1 u ∧ u.cell? ⟨w.heap.size, 0, none⟩ = some (.int .i64 m) ∧ u.cell? ⟨w.heap.size, 1, none⟩ = some (.slice A n c) ∧ u.cell? (ad.add k) = some (.int .i64 x) ∧ u.cell? (ad.add j) = some (.int .i64 y)) (by kernel_rfl) (by kernel_rfl) (KJ _ hbw.drew) ?_
            rw [List.toList_toArray]
            go_big_quiet_want
            go_big_quiet_op
            go_big_quiet_on
            go_big_quiet_want
            go_big_quiet_op
            go_big_quiet_on
            go_big_quiet_want
            apply Exists.intro
            refine ⟨fun u hu => ?_, ?_⟩
            · obtain ⟨hu0, hu1, hu2, hu3, hu4⟩ := hu
              unfold Oper.quietAt
              go_simp
              try rfl
            simp only [Act.put, List.setIfInBounds_toArray, List.set_cons_zero, List.set_cons_succ]
            go_big_quiet_on
            go_big_quiet_want
            apply Exists.intro
            refine ⟨fun u hu => ?_, ?_⟩
            · obtain ⟨hu0, hu1, hu2, hu3, hu4⟩ := hu
              unfold Oper.quietAt
              go_simp
              try rfl
            simp only [Act.put, List.setIfInBounds_toArray, List.set_cons_zero, List.set_cons_succ]
            go_big_quiet_on
            go_big_quiet_want
            apply Exists.intro
            refine ⟨fun u hu => ?_, ?_⟩
            · obtain ⟨hu0, hu1, hu2, hu3, hu4⟩ := hu
              unfold Oper.quietAt
              go_simp
              try rfl
            simp only [Act.put, List.setIfInBounds_toArray, List.set_cons_zero, List.set_cons_succ]
            go_big_quiet_on
            go_big_quiet_want
            apply Exists.intro
            refine ⟨fun u hu => ?_, ?_⟩
            · obtain ⟨hu0, hu1, hu2, hu3, hu4⟩ := hu
              unfold Oper.quietAt
              go_simp
              try rfl
            simp only [Act.put, List.setIfInBounds_toArray, List.set_cons_zero, List.set_cons_succ]
            go_big_quiet_on
            go_big_quiet_want
            apply Exists.intro
            refine ⟨fun u hu => ?_, ?_⟩
            · obtain ⟨hu0, hu1, hu2, hu3, hu4⟩ := hu
              unfold Oper.quietAt
              go_simp
              try rfl
            simp only [Act.put, List.setIfInBounds_toArray, List.set_cons_zero, List.set_cons_succ]
            go_big_quiet_on
            go_big_quiet_want
            refine ⟨.bool true, fun u hu => ?_, ?_⟩
            · unfold Oper.quietAt
              go_simp
              refine (l1In_any x 0 ((m : Int) - 1) u).mono ?_
              rintro e u9 ⟨he, rfl⟩
              rw [HI.out] at he
              exact ⟨he, hu⟩
            simp only [Act.put, List.setIfInBounds_toArray, List.set_cons_zero, List.set_cons_succ]
            go_big_quiet_on
            go_big_quiet_want
            apply Exists.intro
            refine ⟨fun u hu => ?_, ?_⟩
            · obtain ⟨hu0, hu1, hu2, hu3, hu4⟩ := hu
              unfold Oper.quietAt
              go_simp
              try rfl
            simp only [Act.put, List.setIfInBounds_toArray, List.set_cons_zero, List.set_cons_succ]
            go_big_quiet_on
            go_big_quiet_want
            go_big_quiet_op
            go_big_quiet_on
            go_big_quiet_want
            go_big_quiet_op
            go_big_quiet_on
            go_big_quiet_want
            refine ⟨.bool true, fun u hu => ?_, ?_⟩
            · unfold Oper.quietAt
              go_simp
              all_goals (first | omega | (simp; omega))
            simp only [Act.put, List.setIfInBounds_toArray, List.set_cons_zero, List.set_cons_succ]
            go_big_quiet_on
            go_big_quiet_want
            go_big_quiet_op
            go_big_quiet_on
            go_big_quiet_want
            apply Exists.intro
            refine ⟨fun u hu => ?_, ?_⟩
            · obtain ⟨hu0, hu1, hu2, hu3, hu4⟩ := hu
              unfold Oper.quietAt
              go_simp
              try rfl
            simp only [Act.put, List.setIfInBounds_toArray, List.set_cons_zero, List.set_cons_succ]
            go_big_quiet_on
            go_big_quiet_want
            go_big_quiet_op
            go_big_quiet_on
            go_big_quiet_want
            go_big_quiet_op
            go_big_quiet_on
            go_big_quiet_want
            apply Exists.intro
            refine ⟨fun u hu => ?_, ?_⟩
            · obtain ⟨hu0, hu1, hu2, hu3, hu4⟩ := hu
              unfold Oper.quietAt
              go_simp
              try rfl
            simp only [Act.put, List.setIfInBounds_toArray, List.set_cons_zero, List.set_cons_succ]
            go_big_quiet_on
            go_big_quiet_want
            apply Exists.intro
            refine ⟨fun u hu => ?_, ?_⟩
            · obtain ⟨hu0, hu1, hu2, hu3, hu4⟩ := hu
              unfold Oper.quietAt
              go_simp
              try rfl
            simp only [Act.put, List.setIfInBounds_toArray, List.set_cons_zero, List.set_cons_succ]
            go_big_quiet_on
            go_big_quiet_want
            go_big_quiet_op
            go_big_quiet_on
            go_big_quiet_want
            go_big_quiet_op
            go_big_quiet_on
            go_big_quiet_want
            apply Exists.intro
            refine ⟨fun u hu => ?_, ?_⟩
            · obtain ⟨hu0, hu1, hu2, hu3, hu4⟩ := hu
              unfold Oper.quietAt
              go_simp
              try rfl
            simp only [Act.put, List.setIfInBounds_toArray, List.set_cons_zero, List.set_cons_succ]
            go_big_quiet_on
            go_big_quiet_want
            apply Exists.intro
            refine ⟨fun u hu => ?_, ?_⟩
            · obtain ⟨hu0, hu1, hu2, hu3, hu4⟩ := hu
              unfold Oper.quietAt
              go_simp
              try rfl
            simp only [Act.put, List.setIfInBounds_toArray, List.set_cons_zero, List.set_cons_succ]
            go_big_quiet_on
            go_big_quiet_want
            apply Exists.intro
            refine ⟨fun u hu => ?_, ?_⟩
            · obtain ⟨hu0, hu1, hu2, hu3, hu4⟩ := hu
              unfold Oper.quietAt
              go_simp
              try rfl
            simp only [Act.put, List.setIfInBounds_toArray, List.set_cons_zero, List.set_cons_succ]
            go_big_quiet_on
            go_big_quiet_want
            refine ⟨.bool d, fun u hu => ?_, ?_⟩
            · have hu0 := hu.1
              unfold Oper.quietAt
              go_simp
              refine (specDoesAttack_any (N := m) (X := X) (c := c) (a := x) (b := y) hl hn ((HR.out.below hu0).more hu0.size)).mono ?_
              rintro e u9 ⟨he, hb9⟩
              rw [HDd.out] at he
              exact ⟨he, KJ _ (trans_new hu0 hb9)⟩
            simp only [Act.put, List.setIfInBounds_toArray, List.set_cons_zero, List.set_cons_succ]
            go_big_quiet_on
            go_big_quiet_want
            apply Exists.intro
            refine ⟨fun u hu => ?_, ?_⟩
            · obtain ⟨hu0, hu1, hu2, hu3, hu4⟩ := hu
              unfold Oper.quietAt
              go_simp
              try rfl
            simp only [Act.put, List.setIfInBounds_toArray, List.set_cons_zero, List.set_cons_succ]
            go_big_quiet_on
            go_big_quiet_want
            apply Exists.intro
            refine ⟨fun u hu => ?_, ?_⟩
            · obtain ⟨hu0, hu1, hu2, hu3, hu4⟩ := hu
              unfold Oper.quietAt
              go_simp
              try rfl
            simp only [Act.put, List.setIfInBounds_toArray, List.set_cons_zero, List.set_cons_succ]
            go_big_quiet_on
            go_big_quiet_want
            apply Exists.intro
            refine ⟨fun u hu => ?_, ?_⟩
            · obtain ⟨hu0, hu1, hu2, hu3, hu4⟩ := hu
              unfold Oper.quietAt
              go_simp
              try rfl
            simp only [Act.put, List.setIfInBounds_toArray, List.set_cons_zero, List.set_cons_succ]
            go_big_quiet_on
            refine wpQuiet_nil ?_
            rintro u ⟨k9, _, _, _, _⟩
            cases d
            · have HV := Lib.hid (HBAD.out (by rw [HSJ.out]; rfl))
              go_wp2_with fail
              go_ret
              exact ⟨ret_b HV.out.symm, hb1.trans (k9.mono hb1.size)⟩
            · have HSP := Lib.hid (show stpB m X L k = oddB L k by rw [HSJ.out]; rfl)
              go_wp2_with fail
              obtain ⟨wo, hwo⟩ : ∃ v, v = wr := ⟨_, rfl⟩
              subst hwo
              obtain ⟨t, ht⟩ : ∃ t, k = 2 * t ∨ k = 2 * t + 1 := ⟨k / 2, by omega⟩
              have hcell := fun (v : World) (hv : Below W1.heap.size W1 v) => (KE v hv).2.2.2
              have HCELL := Lib.hid hcell
              clear hcell
              rcases ht with ht | ht
              · have hm0 : (k : Int) % 2 = 0 := by omega
                have hm1 : (k : Int).tmod 2 = 0 := (Int.tmod_eq_emod_of_nonneg (by omega)).trans hm0
                have HNOX := Lib.hid (fun (r : Nat) (hr : r < t) (h : L.getD (2 * r) 0 = x) => show stpB m X L k = false by
                  rw [HSP.out]
                  unfold oddB
                  rw [getZ_at hkz, ← HXK.out, show k / 2 = t by omega, show (usd L t).contains x = true by
                    rw [List.contains_eq_mem, decide_eq_true_iff]
                    exact usd_mem.2 ⟨r, hr, h⟩, show (k % 2 == 1) = false by simp; omega]
                  rfl)
                have HYES := Lib.hid (fun (h : ∀ r < t, L.getD (2 * r) 0 ≠ x) => show stpB m X L k = true by
                  rw [HSP.out]
                  unfold oddB
                  rw [getZ_at hkz, ← HXK.out, show k / 2 = t by omega, show (usd L t).contains x = false by
                    rw [List.contains_eq_mem, decide_eq_false_iff_not]
                    intro hu
                    obtain ⟨r, hr, e⟩ := usd_mem.1 hu
                    exact h r hr e]
                  simp)
                have HT := Lib.hid ht
                clear ht
                rw [hm0]
                go_loopw [6] (fun i wr => ∃ q : Nat, q ≤ t ∧ i = .int .i64 ((2 * q : Nat) : Int) ∧ Below W1.heap.size W1 wr ∧ Hid (∀ r < q, L.getD (2 * r) 0 ≠ x)) (fun i _ => k + 1 - (intOf i).toNat)
                case atStart => exact ⟨0, Nat.zero_le _, rfl, k9, Lib.hid (fun r hr => absurd hr (Nat.not_lt_zero _))⟩
                case round =>
                  obtain ⟨q, hq, rfl, hbv, hI⟩ := hrel
                  obtain ⟨cc, hcc⟩ : ∃ cc, cc = 2 * q := ⟨_, rfl⟩
                  rw [← hcc]
                  have g1 := HCELL.out wr hbv
                  by_cases hqt : q < t
                  · have hcz : cc < L.length := by have := HT.out; rw [hl'.out]; omega
                    obtain ⟨ad8, e8, hab8, hc8⟩ := HR'.out cc _ (ivs_get L cc hcz)
                    injection e8 with e8
                    subst e8
                    have hc9 := (hbv.cell (p := ad.add cc) (by rw [add_blk]; rw [add_blk] at hab1; exact hab1)).trans ((hb1.cell (p := ad.add cc) (by rw [add_blk]; exact hab8)).trans hc8)
                    have j0 : (0 : Int) ≤ (cc : Int) := by omega
                    have j1 : (cc : Int) < (n' : Int) := by have := HT.out; omega
                    have j2 : (cc : Int) < (k : Int) := by have := HT.out; omega
                    have HCC := Lib.hid hcc
                    by_cases hv : L[cc] = x
                    · have HV := Lib.hid (HBAD.out (HNOX.out q hqt (by rw [← hcc, getZ_at hcz]; exact hv)))
                      rw [hv] at hc9
                      clear hcc hv hc8 hI
                      go_wp2_with fail
                      go_quiet (fail)
                      go_wp2_with fail
                      go_ret
                      exact ⟨ret_b HV.out.symm, below_drewN (hb1.trans (hbv.mono hb1.size)) _⟩
                    · have HQ := Lib.hid (show ∀ r < q + 1, L.getD (2 * r) 0 ≠ x from fun r hr => by
                        rcases Nat.lt_or_ge r q with h | h
                        · exact hI.out r h
                        · obtain rfl : r = q := by omega
                          rw [← hcc, getZ_at hcz]; exact hv)
                      obtain ⟨y9, hy9⟩ : ∃ y, y = L[cc] := ⟨_, rfl⟩
                      rw [← hy9] at hc9 hv
                      have hv2 : (y9 == x) = false := by simpa using hv
                      clear hcc hc8 hI hy9
                      go_wp2_with fail
                      go_quiet (fail)
                      go_wp2_with fail
                      go_roundw
                      case rel => exact ⟨q + 1, by omega, by have := HCC.out; go_num, below_drewN hbv _, HQ⟩
                      case measure => have := HT.out; simp [intOf]; omega
                  · have e1 : cc = k := by have := HT.out; omega
                    have hst := HYES.out (fun r hr => hI.out r (by omega))
                    have HQ := Lib.hid (show ∀ r < k + 1, stpB m X L r = true from fun r hr => by
                      rcases Nat.lt_or_ge r k with h | h
                      · exact hD.out r h
                      · obtain rfl : r = k := by omega
                        exact hst)
                    have j2 : ¬ (cc : Int) < (k : Int) := by have := HT.out; omega
                    clear hcc e1 hst hI
                    go_wp2_with fail
                    go_roundw
                    case rel => first | exact ⟨k + 1, by omega, by go_num, HQ⟩ | exact ⟨k + 1, by omega, by go_num, hbv, HQ⟩
                    case measure => have := HT.out; simp [intOf]; omega
              · have hm0 : (k : Int) % 2 = 1 := by omega
                have hm1 : (k : Int).tmod 2 = 1 := (Int.tmod_eq_emod_of_nonneg (by omega)).trans hm0
                have HST := Lib.hid (show stpB m X L k = true by rw [HSP.out]; unfold oddB; rw [show (k % 2 == 1) = true by simp; omega]; rfl)
                have HT := Lib.hid ht
                clear ht
                rw [hm0]
                go_loopw [6] (fun i wr => ∃ q : Nat, q ≤ t ∧ i = .int .i64 ((2 * q + 1 : Nat) : Int) ∧ Below W1.heap.size W1 wr) (fun i _ => k + 1 - (intOf i).toNat)
                case atStart => exact ⟨0, Nat.zero_le _, rfl, k9⟩
                case round =>
                  obtain ⟨q, hq, rfl, hbv⟩ := hrel
                  obtain ⟨cc, hcc⟩ : ∃ cc, cc = 2 * q + 1 := ⟨_, rfl⟩
                  rw [← hcc]
                  have HCC := Lib.hid hcc
                  by_cases hqt : q < t
                  · have j2 : (cc : Int) < (k : Int) := by have := HT.out; omega
                    clear hcc
                    go_wp2_with fail
                    go_quiet (fail)
                    go_wp2_with fail
                    go_roundw
                    case rel => exact ⟨q + 1, by omega, by have := HCC.out; go_num, below_drewN hbv _⟩
                    case measure => have := HT.out; simp [intOf]; omega
                  · have j2 : ¬ (cc : Int) < (k : Int) := by have := HT.out; omega
                    have HQ := Lib.hid (show ∀ r < k + 1, stpB m X L r = true from fun r hr => by
                      rcases Nat.lt_or_ge r k with h | h
                      · exact hD.out r h
                      · obtain rfl : r = k := by omega
                        exact HST.out)
                    clear hcc
                    go_wp2_with fail
                    go_roundw
                    case rel => first | exact ⟨k + 1, by omega, by go_num, HQ⟩ | exact ⟨k + 1, by omega, by go_num, hbv, HQ⟩
                    case measure => have := HT.out; simp [intOf]; omega
end
end Go.Proofs.Ytejncjjkcmhmbaa
