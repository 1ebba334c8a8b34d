/- Contracts of the models l26Find and AreSources (chapter 26). Condition: the slice has at most 2^40 elements. -/
import Derived.Test.YtdhnhhicjjcmdaaSrcMath
import Derived.Test.YtdhnhhicjjcmdaaBxK
import Derived.BigQuiet
import Derived.Deep.Quiet
namespace Go.Proofs.Ytdhnhhicjjcmdaa
open Go.ChangeShapes Go.WideShapes Go.ChangeAt Go.RowKit
set_option maxRecDepth 100000
def fndR : Option Nat → Int
  | some k => k
  | none => -1
theorem nwS {w w' : World} {p : Addr} {v : Value} (r : Below w.heap.size w w') (h : w.cell? p = some v) : w'.cell? p = some v := (r.cell (p := p) (cell_lt h)).trans h
theorem l1In_QS {w : World} (a lo hi : Int) {b : Bool} (hb : inr a lo hi = b) : Calls Try.prog 40 #[.int .i64 a, .int .i64 lo, .int .i64 hi] w (fun e w' => e = .returned (.bool b) ∧ w = w') :=
  (l1In_any a lo hi _).mono fun _ _ ⟨h1, h2⟩ => ⟨by rw [h1, hb], h2⟩
section
variable {w : World} {A : Option Addr} {n c : Nat} {X : List Src}
set_option maxHeartbeats 1000000 in
theorem l26Find_any {B : Nat} {id : Int} (hl : Hid (X.length = n)) (hn : n ≤ 1099511627776) (hr : Rd w B A (flE srcE X)) :
    Calls Try.prog 41 #[.slice A n c, .int .i64 id] w (fun e w' => e = .returned (.int .i64 (fndR (fndS X id))) ∧ w = w') := by
  go_enter Try.func41, Try.ntmps41
  go_wp2_with fail
  go_loopw [5] (fun i wr => ∃ k : Nat, k ≤ n ∧ i = .int .i64 k ∧ wr = w ∧ Hid (∀ x ∈ X.take k, x.1 ≠ id)) (fun i _ => n - (intOf i).toNat)
  case atStart => exact ⟨0, Nat.zero_le _, rfl, rfl, Lib.hid (fun x hx => by simp at hx)⟩
  case round =>
    obtain ⟨k, hk, rfl, rfl, hno⟩ := hrel
    by_cases hlt : k < n
    · have hkx : k < X.length := by rw [hl.out]; exact hlt
      obtain ⟨ad, p, rfl, hp, hab, h0, h1, h2, h3⟩ := src_cells hr hkx
      have HY := Lib.hid (show X[k].1 = id → fndR (fndS X id) = k from fun he => by rw [fnd_some hkx hno.out he]; rfl)
      have HN := Lib.hid (show X[k].1 ≠ id → ∀ x ∈ X.take (k + 1), x.1 ≠ id from fun he x hx => by
        rw [List.take_succ_eq_append_getElem hkx] at hx
        rcases List.mem_append.1 hx with h1 | h1
        · exact hno.out x h1
        · rw [List.mem_singleton.1 h1]; exact he)
      obtain ⟨y, hy⟩ : ∃ y, y = X[k].1 := ⟨_, rfl⟩
      rw [← hy] at h0 HY HN
      have i0 : (0 : Int) ≤ (k : Int) := by omega
      have i1 : (k : Int) < (n : Int) := by omega
      clear h1 h2 h3 hy
      by_cases he : y = id
      · have HV := Lib.hid (HY.out he)
        have he' : (y == id) = true := by simpa using he
        clear he
        go_wp2_with fail
        go_ret
        exact ⟨ret_i HV.out.symm, rfl⟩
      · have HV := Lib.hid (HN.out he)
        have he' : (y == id) = false := by simpa using he
        clear he
        go_wp2_with fail
        go_roundw
        case rel => exact ⟨k + 1, by omega, by go_num, trivial, HV⟩
        case measure => simp [intOf]; omega
    · have e : k = n := by omega
      subst e
      have HV := Lib.hid (fnd_none (X := X) (id := id) (by have := hno.out; rwa [List.take_of_length_le (by rw [hl.out]; exact Nat.le_refl _)] at this))
      go_wp2_with fail
      go_ret
      exact ⟨by rw [HV.out]; rfl, rfl⟩
theorem Source_info2 : (Try.prog.info? 40).map (fun i => (i.zero, i.size, i.bytes)) = some (some (.agg #[.int .i64 0, .int .i64 0, .int .i64 0, .bool false]), 4, 32) := by kernel_rfl
set_option maxHeartbeats 16000000 in
theorem specAreSources_any (hl : Hid (X.length = n)) (hn : n ≤ 1099511627776) (hnc : n ≤ c) (hr : Rd w w.heap.size A (flE srcE X)) :
    Calls Try.prog 12 #[.slice A n c] w (Tells (srcB X) w) := by
  obtain ⟨ti, hti, hz0, hz1, hz2⟩ := info_parts Source_info2
  have zz : ∀ w, (Go.sizeOf 40).run Try.prog w = .ok 4 w := fun w => by simp [sizeOf, typeInfo, hti, hz1]
  have HRR := Lib.hid hr
  go_enter Try.func12, Try.ntmps12
  go_wp2_with fail
  go_loopw [3] (fun i wr => ∃ k : Nat, k ≤ n ∧ i = .int .i64 k ∧ Hid ((List.range k).all (ascAt (X.map (·.1))) = true ∧ (List.range k).all (srcAt X) = true) ∧ Below w.heap.size w wr) (fun i _ => n - (intOf i).toNat)
  case atStart => exact ⟨0, Nat.zero_le _, rfl, Lib.hid ⟨rfl, rfl⟩, Below.refl _ _⟩
  case round =>
    obtain ⟨k, hk, rfl, hall, hb⟩ := hrel
    by_cases hlt : k < n
    · have hkz : k < X.length := by rw [hl.out]; exact hlt
      have hki : k < (X.map (·.1)).length := by simpa using hkz
      have hrw := (hr.below hb).more hb.size
      obtain ⟨ad, p, rfl, hp, hab, h0, h1, h2, h3⟩ := src_cells hrw hkz
      have HAT := Lib.hid (show srcAt X k = (inr X[k].2.2.1 1 10 && (X[k].2.1 == 0 || (parS X k).isSome)) by unfold srcAt; rw [getS hkz])
      have HPK := Lib.hid (show fndS (X.take k) X[k].2.1 = parS X k by unfold parS; rw [getS hkz])
      have HD := Lib.hid (show (X.map (·.1)).getD k 0 = X[k].1 by rw [ascD hki]; simp)
      have HTL := Lib.hid (show (X.take k).length = k by rw [List.length_take]; omega)
      have HRT := Lib.hid (show Rd wr wr.heap.size (some ad) (flE srcE (X.take k)) from hrw.hdG)
      obtain ⟨x, hx⟩ : ∃ x, x = X[k] := ⟨_, rfl⟩
      rw [← hx] at h0 h1 h2 h3 HAT HPK HD
      have i0 : (0 : Int) ≤ (k : Int) := by omega
      have i1 : (k : Int) < (n : Int) := by omega
      have hsz := hb.size
      have hsl := fun (w : World) => run_toG (s := 4) w 25 40 Try.underlying25 zz (some ad) (n := n) (c := c) (k := k) (by omega)
      clear hx hrw
      cases hi : inr x.1 1 99 with
      | false =>
        have HV := Lib.hid (src_noasc (asc_no hki (asc_0 HD.out hi)))
        have HI := Lib.hid hi
        clear hi
        have KE := fun (u : World) (q : Below wr.heap.size wr u) => show Below wr.heap.size wr u ∧ u.cell? p = some (.int .i64 x.1) ∧ u.cell? ⟨p.block, p.off + 1, none⟩ = some (.int .i64 x.2.1) ∧ u.cell? ⟨p.block, p.off + 2, none⟩ = some (.int .i64 x.2.2.1) ∧ u.cell? ⟨p.block, p.off + 3, none⟩ = some (.bool x.2.2.2) from ⟨q, nwS q h0, nwS q h1, nwS q h2, nwS q h3⟩
        go_wp2_with fail
        refine wp_region_quiet (C := fun u => Below wr.heap.size wr u ∧ u.cell? p = some (.int .i64 x.1) ∧ u.cell? ⟨p.block, p.off + 1, none⟩ = some (.int .i64 x.2.1) ∧ u.cell? ⟨p.block, p.off + 2, none⟩ = some (.int .i64 x.2.2.1) ∧ u.cell? ⟨p.block, p.off + 3, none⟩ = some (.bool x.2.2.2)) (by kernel_rfl) (by kernel_rfl) (KE _ (Below.refl _ _).drew) ?_
        rw [List.toList_toArray]
        go_big_quiet_want
        go_big_quiet_op
        go_big_quiet_on
        go_big_quiet_want
        go_big_quiet_op
        go_big_quiet_on
        go_big_quiet_want
        apply Exists.intro
        refine ⟨fun u hu => ?_, ?_⟩
        · obtain ⟨hu0, hu1, hu2, hu3, hu4⟩ := hu
          unfold Oper.quietAt
          go_simp
          try rfl
        simp only [Act.put, List.setIfInBounds_toArray, List.set_cons_zero, List.set_cons_succ]
        go_big_quiet_on
        go_big_quiet_want
        apply Exists.intro
        refine ⟨fun u hu => ?_, ?_⟩
        · obtain ⟨hu0, hu1, hu2, hu3, hu4⟩ := hu
          unfold Oper.quietAt
          go_simp
          try rfl
        simp only [Act.put, List.setIfInBounds_toArray, List.set_cons_zero, List.set_cons_succ]
        go_big_quiet_on
        go_big_quiet_want
        apply Exists.intro
        refine ⟨fun u hu => ?_, ?_⟩
        · obtain ⟨hu0, hu1, hu2, hu3, hu4⟩ := hu
          unfold Oper.quietAt
          go_simp
          try rfl
        simp only [Act.put, List.setIfInBounds_toArray, List.set_cons_zero, List.set_cons_succ]
        go_big_quiet_on
        go_big_quiet_want
        refine ⟨.bool false, fun u hu => ?_, ?_⟩
        · obtain ⟨hu0, hu1, hu2, hu3, hu4⟩ := hu
          unfold Oper.quietAt
          go_simp
          refine (l1In_QS _ _ _ HI.out).mono ?_
          rintro e u9 ⟨rfl, rfl⟩
          exact ⟨rfl, ⟨hu0, hu1, hu2, hu3, hu4⟩⟩
        simp only [Act.put, List.setIfInBounds_toArray, List.set_cons_zero, List.set_cons_succ]
        go_big_quiet_on
        go_big_quiet_want
        apply Exists.intro
        refine ⟨fun u hu => ?_, ?_⟩
        · obtain ⟨hu0, hu1, hu2, hu3, hu4⟩ := hu
          unfold Oper.quietAt
          go_simp
          try rfl
        simp only [Act.put, List.setIfInBounds_toArray, List.set_cons_zero, List.set_cons_succ]
        go_big_quiet_on
        go_big_quiet_want
        go_big_quiet_op
        go_big_quiet_on
        repeat go_big_quiet_skip
        go_big_quiet_want
        apply Exists.intro
        refine ⟨fun u hu => ?_, ?_⟩
        · obtain ⟨hu0, hu1, hu2, hu3, hu4⟩ := hu
          unfold Oper.quietAt
          go_simp
          try rfl
        simp only [Act.put, List.setIfInBounds_toArray, List.set_cons_zero, List.set_cons_succ]
        go_big_quiet_on
        go_big_quiet_want
        go_big_quiet_op
        go_big_quiet_on
        repeat go_big_quiet_skip
        go_big_quiet_want
        apply Exists.intro
        refine ⟨fun u hu => ?_, ?_⟩
        · obtain ⟨hu0, hu1, hu2, hu3, hu4⟩ := hu
          unfold Oper.quietAt
          go_simp
          try rfl
        simp only [Act.put, List.setIfInBounds_toArray, List.set_cons_zero, List.set_cons_succ]
        go_big_quiet_on
        go_big_quiet_want
        go_big_quiet_op
        go_big_quiet_on
        repeat go_big_quiet_skip
        go_big_quiet_want
        apply Exists.intro
        refine ⟨fun u hu => ?_, ?_⟩
        · obtain ⟨hu0, hu1, hu2, hu3, hu4⟩ := hu
          unfold Oper.quietAt
          go_simp
          try rfl
        simp only [Act.put, List.setIfInBounds_toArray, List.set_cons_zero, List.set_cons_succ]
        go_big_quiet_on
        refine wpQuiet_nil ?_
        rintro u ⟨r, _⟩
        go_wp2_with fail
        go_ret
        exact ⟨ret_b HV.out.symm, hb.trans (r.mono hsz)⟩
      | true =>
        cases hw : inr x.2.2.1 1 10 with
        | false =>
          have HV := Lib.hid (src_no hkz (by rw [HAT.out, hw]; rfl))
          have HI := Lib.hid hi
          have HW := Lib.hid hw
          clear hi hw
          have KE := fun (u : World) (q : Below wr.heap.size wr u) => show Below wr.heap.size wr u ∧ u.cell? p = some (.int .i64 x.1) ∧ u.cell? ⟨p.block, p.off + 1, none⟩ = some (.int .i64 x.2.1) ∧ u.cell? ⟨p.block, p.off + 2, none⟩ = some (.int .i64 x.2.2.1) ∧ u.cell? ⟨p.block, p.off + 3, none⟩ = some (.bool x.2.2.2) from ⟨q, nwS q h0, nwS q h1, nwS q h2, nwS q h3⟩
          go_wp2_with fail
          refine wp_region_quiet (C := fun u => Below wr.heap.size wr u ∧ u.cell? p = some (.int .i64 x.1) ∧ u.cell? ⟨p.block, p.off + 1, none⟩ = some (.int .i64 x.2.1) ∧ u.cell? ⟨p.block, p.off + 2, none⟩ = some (.int .i64 x.2.2.1) ∧ u.cell? ⟨p.block, p.off + 3, none⟩ = some (.bool x.2.2.2)) (by kernel_rfl) (by kernel_rfl) (KE _ (Below.refl _ _).drew) ?_
          rw [List.toList_toArray]
          go_big_quiet_want
          go_big_quiet_op
          go_big_quiet_on
          go_big_quiet_want
          go_big_quiet_op
          go_big_quiet_on
          go_big_quiet_want
          apply Exists.intro
          refine ⟨fun u hu => ?_, ?_⟩
          · obtain ⟨hu0, hu1, hu2, hu3, hu4⟩ := hu
            unfold Oper.quietAt
            go_simp
            try rfl
          simp only [Act.put, List.setIfInBounds_toArray, List.set_cons_zero, List.set_cons_succ]
          go_big_quiet_on
          go_big_quiet_want
          apply Exists.intro
          refine ⟨fun u hu => ?_, ?_⟩
          · obtain ⟨hu0, hu1, hu2, hu3, hu4⟩ := hu
            unfold Oper.quietAt
            go_simp
            try rfl
          simp only [Act.put, List.setIfInBounds_toArray, List.set_cons_zero, List.set_cons_succ]
          go_big_quiet_on
          go_big_quiet_want
          apply Exists.intro
          refine ⟨fun u hu => ?_, ?_⟩
          · obtain ⟨hu0, hu1, hu2, hu3, hu4⟩ := hu
            unfold Oper.quietAt
            go_simp
            try rfl
          simp only [Act.put, List.setIfInBounds_toArray, List.set_cons_zero, List.set_cons_succ]
          go_big_quiet_on
          go_big_quiet_want
          refine ⟨.bool true, fun u hu => ?_, ?_⟩
          · obtain ⟨hu0, hu1, hu2, hu3, hu4⟩ := hu
            unfold Oper.quietAt
            go_simp
            refine (l1In_QS _ _ _ HI.out).mono ?_
            rintro e u9 ⟨rfl, rfl⟩
            exact ⟨rfl, ⟨hu0, hu1, hu2, hu3, hu4⟩⟩
          simp only [Act.put, List.setIfInBounds_toArray, List.set_cons_zero, List.set_cons_succ]
          go_big_quiet_on
          go_big_quiet_want
          apply Exists.intro
          refine ⟨fun u hu => ?_, ?_⟩
          · obtain ⟨hu0, hu1, hu2, hu3, hu4⟩ := hu
            unfold Oper.quietAt
            go_simp
            try rfl
          simp only [Act.put, List.setIfInBounds_toArray, List.set_cons_zero, List.set_cons_succ]
          go_big_quiet_on
          go_big_quiet_want
          go_big_quiet_op
          go_big_quiet_on
          go_big_quiet_want
          go_big_quiet_op
          go_big_quiet_on
          go_big_quiet_want
          go_big_quiet_op
          go_big_quiet_on
          go_big_quiet_want
          apply Exists.intro
          refine ⟨fun u hu => ?_, ?_⟩
          · obtain ⟨hu0, hu1, hu2, hu3, hu4⟩ := hu
            unfold Oper.quietAt
            go_simp
            try rfl
          simp only [Act.put, List.setIfInBounds_toArray, List.set_cons_zero, List.set_cons_succ]
          go_big_quiet_on
          go_big_quiet_want
          apply Exists.intro
          refine ⟨fun u hu => ?_, ?_⟩
          · obtain ⟨hu0, hu1, hu2, hu3, hu4⟩ := hu
            unfold Oper.quietAt
            go_simp
            try rfl
          simp only [Act.put, List.setIfInBounds_toArray, List.set_cons_zero, List.set_cons_succ]
          go_big_quiet_on
          go_big_quiet_want
          apply Exists.intro
          refine ⟨fun u hu => ?_, ?_⟩
          · obtain ⟨hu0, hu1, hu2, hu3, hu4⟩ := hu
            unfold Oper.quietAt
            go_simp
            try rfl
          simp only [Act.put, List.setIfInBounds_toArray, List.set_cons_zero, List.set_cons_succ]
          go_big_quiet_on
          go_big_quiet_want
          refine ⟨.bool false, fun u hu => ?_, ?_⟩
          · obtain ⟨hu0, hu1, hu2, hu3, hu4⟩ := hu
            unfold Oper.quietAt
            go_simp
            refine (l1In_QS _ _ _ HW.out).mono ?_
            rintro e u9 ⟨rfl, rfl⟩
            exact ⟨rfl, ⟨hu0, hu1, hu2, hu3, hu4⟩⟩
          simp only [Act.put, List.setIfInBounds_toArray, List.set_cons_zero, List.set_cons_succ]
          go_big_quiet_on
          go_big_quiet_want
          apply Exists.intro
          refine ⟨fun u hu => ?_, ?_⟩
          · obtain ⟨hu0, hu1, hu2, hu3, hu4⟩ := hu
            unfold Oper.quietAt
            go_simp
            try rfl
          simp only [Act.put, List.setIfInBounds_toArray, List.set_cons_zero, List.set_cons_succ]
          go_big_quiet_on
          go_big_quiet_want
          apply Exists.intro
          refine ⟨fun u hu => ?_, ?_⟩
          · obtain ⟨hu0, hu1, hu2, hu3, hu4⟩ := hu
            unfold Oper.quietAt
            go_simp
            try rfl
          simp only [Act.put, List.setIfInBounds_toArray, List.set_cons_zero, List.set_cons_succ]
          go_big_quiet_on
          go_big_quiet_want
          go_big_quiet_op
          go_big_quiet_on
          repeat go_big_quiet_skip
          go_big_quiet_want
          apply Exists.intro
          refine ⟨fun u hu => ?_, ?_⟩
          · obtain ⟨hu0, hu1, hu2, hu3, hu4⟩ := hu
            unfold Oper.quietAt
            go_simp
            try rfl
          simp only [Act.put, List.setIfInBounds_toArray, List.set_cons_zero, List.set_cons_succ]
          go_big_quiet_on
          go_big_quiet_want
          go_big_quiet_op
          go_big_quiet_on
          repeat go_big_quiet_skip
          go_big_quiet_want
          apply Exists.intro
          refine ⟨fun u hu => ?_, ?_⟩
          · obtain ⟨hu0, hu1, hu2, hu3, hu4⟩ := hu
            unfold Oper.quietAt
            go_simp
            try rfl
          simp only [Act.put, List.setIfInBounds_toArray, List.set_cons_zero, List.set_cons_succ]
          go_big_quiet_on
          refine wpQuiet_nil ?_
          rintro u ⟨r, _⟩
          go_wp2_with fail
          go_ret
          exact ⟨ret_b HV.out.symm, hb.trans (r.mono hsz)⟩
        | true =>
          have HI := Lib.hid hi
          have HW := Lib.hid hw
          clear hi hw
          by_cases hk0 : k = 0
          · have HASC := Lib.hid (show ascAt (X.map (·.1)) k = true from by subst hk0; exact asc_1 HD.out HI.out)
            have dk : decide ((0 : Int) < (k : Int)) = false := decide_eq_false (by omega)
            have dk2 : decide (0 < k) = false := decide_eq_false (by omega)
            clear hk0
            have KE := fun (u : World) (q : Below wr.heap.size wr u) => show Below wr.heap.size wr u ∧ u.cell? p = some (.int .i64 x.1) ∧ u.cell? ⟨p.block, p.off + 1, none⟩ = some (.int .i64 x.2.1) ∧ u.cell? ⟨p.block, p.off + 2, none⟩ = some (.int .i64 x.2.2.1) ∧ u.cell? ⟨p.block, p.off + 3, none⟩ = some (.bool x.2.2.2) from ⟨q, nwS q h0, nwS q h1, nwS q h2, nwS q h3⟩
            by_cases hz : x.2.1 = 0
            · have HP := Lib.hid (And.intro (asc_snoc hall.out.1 (HASC.out)) (src_snoc hall.out.2 (show srcAt X k = true by rw [HAT.out, HW.out, hz]; rfl)))
              have e0 : (x.2.1 != 0) = false := by simpa using hz
              clear hz
              go_wp2_with fail
              refine wp_region_quiet (C := fun u => Below wr.heap.size wr u ∧ u.cell? p = some (.int .i64 x.1) ∧ u.cell? ⟨p.block, p.off + 1, none⟩ = some (.int .i64 x.2.1) ∧ u.cell? ⟨p.block, p.off + 2, none⟩ = some (.int .i64 x.2.2.1) ∧ u.cell? ⟨p.block, p.off + 3, none⟩ = some (.bool x.2.2.2)) (by kernel_rfl) (by kernel_rfl) (KE _ (Below.refl _ _).drew) ?_
              rw [List.toList_toArray]
              go_big_quiet_want
              go_big_quiet_op
              go_big_quiet_on
              go_big_quiet_want
              go_big_quiet_op
              go_big_quiet_on
              go_big_quiet_want
              apply Exists.intro
              refine ⟨fun u hu => ?_, ?_⟩
              · obtain ⟨hu0, hu1, hu2, hu3, hu4⟩ := hu
                unfold Oper.quietAt
                go_simp
                try rfl
              simp only [Act.put, List.setIfInBounds_toArray, List.set_cons_zero, List.set_cons_succ]
              go_big_quiet_on
              go_big_quiet_want
              apply Exists.intro
              refine ⟨fun u hu => ?_, ?_⟩
              · obtain ⟨hu0, hu1, hu2, hu3, hu4⟩ := hu
                unfold Oper.quietAt
                go_simp
                try rfl
              simp only [Act.put, List.setIfInBounds_toArray, List.set_cons_zero, List.set_cons_succ]
              go_big_quiet_on
              go_big_quiet_want
              apply Exists.intro
              refine ⟨fun u hu => ?_, ?_⟩
              · obtain ⟨hu0, hu1, hu2, hu3, hu4⟩ := hu
                unfold Oper.quietAt
                go_simp
                try rfl
              simp only [Act.put, List.setIfInBounds_toArray, List.set_cons_zero, List.set_cons_succ]
              go_big_quiet_on
              go_big_quiet_want
              refine ⟨.bool true, fun u hu => ?_, ?_⟩
              · obtain ⟨hu0, hu1, hu2, hu3, hu4⟩ := hu
                unfold Oper.quietAt
                go_simp
                refine (l1In_QS _ _ _ HI.out).mono ?_
                rintro e u9 ⟨rfl, rfl⟩
                exact ⟨rfl, ⟨hu0, hu1, hu2, hu3, hu4⟩⟩
              simp only [Act.put, List.setIfInBounds_toArray, List.set_cons_zero, List.set_cons_succ]
              go_big_quiet_on
              go_big_quiet_want
              apply Exists.intro
              refine ⟨fun u hu => ?_, ?_⟩
              · obtain ⟨hu0, hu1, hu2, hu3, hu4⟩ := hu
                unfold Oper.quietAt
                go_simp
                try rfl
              simp only [Act.put, List.setIfInBounds_toArray, List.set_cons_zero, List.set_cons_succ]
              go_big_quiet_on
              go_big_quiet_want
              go_big_quiet_op
              go_big_quiet_on
              go_big_quiet_want
              go_big_quiet_op
              go_big_quiet_on
              go_big_quiet_want
              go_big_quiet_op
              go_big_quiet_on
              go_big_quiet_want
              apply Exists.intro
              refine ⟨fun u hu => ?_, ?_⟩
              · obtain ⟨hu0, hu1, hu2, hu3, hu4⟩ := hu
                unfold Oper.quietAt
                go_simp
                try rfl
              simp only [Act.put, List.setIfInBounds_toArray, List.set_cons_zero, List.set_cons_succ]
              go_big_quiet_on
              go_big_quiet_want
              apply Exists.intro
              refine ⟨fun u hu => ?_, ?_⟩
              · obtain ⟨hu0, hu1, hu2, hu3, hu4⟩ := hu
                unfold Oper.quietAt
                go_simp
                try rfl
              simp only [Act.put, List.setIfInBounds_toArray, List.set_cons_zero, List.set_cons_succ]
              go_big_quiet_on
              go_big_quiet_want
              apply Exists.intro
              refine ⟨fun u hu => ?_, ?_⟩
              · obtain ⟨hu0, hu1, hu2, hu3, hu4⟩ := hu
                unfold Oper.quietAt
                go_simp
                try rfl
              simp only [Act.put, List.setIfInBounds_toArray, List.set_cons_zero, List.set_cons_succ]
              go_big_quiet_on
              go_big_quiet_want
              refine ⟨.bool true, fun u hu => ?_, ?_⟩
              · obtain ⟨hu0, hu1, hu2, hu3, hu4⟩ := hu
                unfold Oper.quietAt
                go_simp
                refine (l1In_QS _ _ _ HW.out).mono ?_
                rintro e u9 ⟨rfl, rfl⟩
                exact ⟨rfl, ⟨hu0, hu1, hu2, hu3, hu4⟩⟩
              simp only [Act.put, List.setIfInBounds_toArray, List.set_cons_zero, List.set_cons_succ]
              go_big_quiet_on
              go_big_quiet_want
              apply Exists.intro
              refine ⟨fun u hu => ?_, ?_⟩
              · obtain ⟨hu0, hu1, hu2, hu3, hu4⟩ := hu
                unfold Oper.quietAt
                go_simp
                try rfl
              simp only [Act.put, List.setIfInBounds_toArray, List.set_cons_zero, List.set_cons_succ]
              go_big_quiet_on
              go_big_quiet_want
              apply Exists.intro
              refine ⟨fun u hu => ?_, ?_⟩
              · obtain ⟨hu0, hu1, hu2, hu3, hu4⟩ := hu
                unfold Oper.quietAt
                go_simp
                try rfl
              simp only [Act.put, List.setIfInBounds_toArray, List.set_cons_zero, List.set_cons_succ]
              go_big_quiet_on
              go_big_quiet_want
              go_big_quiet_op
              go_big_quiet_on
              go_big_quiet_want
              go_big_quiet_op
              go_big_quiet_on
              go_big_quiet_want
              apply Exists.intro
              refine ⟨fun u hu => ?_, ?_⟩
              · obtain ⟨hu0, hu1, hu2, hu3, hu4⟩ := hu
                unfold Oper.quietAt
                go_simp
                try rfl
              simp only [Act.put, List.setIfInBounds_toArray, List.set_cons_zero, List.set_cons_succ]
              go_big_quiet_on
              go_big_quiet_want
              go_big_quiet_op
              go_big_quiet_on
              repeat go_big_quiet_skip
              go_big_quiet_want
              apply Exists.intro
              refine ⟨fun u hu => ?_, ?_⟩
              · obtain ⟨hu0, hu1, hu2, hu3, hu4⟩ := hu
                unfold Oper.quietAt
                go_simp
                try rfl
              simp only [Act.put, List.setIfInBounds_toArray, List.set_cons_zero, List.set_cons_succ]
              go_big_quiet_on
              go_big_quiet_want
              apply Exists.intro
              refine ⟨fun u hu => ?_, ?_⟩
              · obtain ⟨hu0, hu1, hu2, hu3, hu4⟩ := hu
                unfold Oper.quietAt
                go_simp
                try rfl
              simp only [Act.put, List.setIfInBounds_toArray, List.set_cons_zero, List.set_cons_succ]
              go_big_quiet_on
              go_big_quiet_want
              go_big_quiet_op
              go_big_quiet_on
              go_big_quiet_want
              go_big_quiet_op
              go_big_quiet_on
              go_big_quiet_want
              go_big_quiet_op
              go_big_quiet_on
              go_big_quiet_want
              apply Exists.intro
              refine ⟨fun u hu => ?_, ?_⟩
              · obtain ⟨hu0, hu1, hu2, hu3, hu4⟩ := hu
                unfold Oper.quietAt
                go_simp
                try rfl
              simp only [Act.put, List.setIfInBounds_toArray, List.set_cons_zero, List.set_cons_succ]
              go_big_quiet_on
              go_big_quiet_want
              apply Exists.intro
              refine ⟨fun u hu => ?_, ?_⟩
              · obtain ⟨hu0, hu1, hu2, hu3, hu4⟩ := hu
                unfold Oper.quietAt
                go_simp
                try rfl
              simp only [Act.put, List.setIfInBounds_toArray, List.set_cons_zero, List.set_cons_succ]
              go_big_quiet_on
              go_big_quiet_want
              apply Exists.intro
              refine ⟨fun u hu => ?_, ?_⟩
              · obtain ⟨hu0, hu1, hu2, hu3, hu4⟩ := hu
                unfold Oper.quietAt
                go_simp
                try rfl
              simp only [Act.put, List.setIfInBounds_toArray, List.set_cons_zero, List.set_cons_succ]
              go_big_quiet_on
              go_big_quiet_want
              apply Exists.intro
              refine ⟨fun u hu => ?_, ?_⟩
              · obtain ⟨hu0, hu1, hu2, hu3, hu4⟩ := hu
                unfold Oper.quietAt
                go_simp
                try rfl
              simp only [Act.put, List.setIfInBounds_toArray, List.set_cons_zero, List.set_cons_succ]
              go_big_quiet_on
              go_big_quiet_want
              go_big_quiet_op
              go_big_quiet_on
              repeat go_big_quiet_skip
              go_big_quiet_want
              apply Exists.intro
              refine ⟨fun u hu => ?_, ?_⟩
              · obtain ⟨hu0, hu1, hu2, hu3, hu4⟩ := hu
                unfold Oper.quietAt
                go_simp
                try rfl
              simp only [Act.put, List.setIfInBounds_toArray, List.set_cons_zero, List.set_cons_succ]
              go_big_quiet_on
              go_big_quiet_want
              apply Exists.intro
              refine ⟨fun u hu => ?_, ?_⟩
              · obtain ⟨hu0, hu1, hu2, hu3, hu4⟩ := hu
                unfold Oper.quietAt
                go_simp
                try rfl
              simp only [Act.put, List.setIfInBounds_toArray, List.set_cons_zero, List.set_cons_succ]
              go_big_quiet_on
              refine wpQuiet_nil ?_
              rintro u ⟨r, _⟩
              go_wp2_with fail
              go_roundw
              case rel => exact ⟨k + 1, by omega, by go_num, HP, hb.trans (r.mono hsz)⟩
              case measure => simp [intOf]; omega
            · have e0 : (x.2.1 != 0) = true := by simpa using hz
              have e1 : (x.2.1 == 0) = false := by simpa using hz
              cases hp9 : parS X k with
              | none =>
                have HV := Lib.hid (src_no hkz (by rw [HAT.out, HW.out, e1, hp9]; rfl))
                have HPR := Lib.hid (show fndR (parS X k) = -1 by rw [hp9]; rfl)
                clear hz e1 hp9
                go_wp2_with fail
                refine wp_region_quiet (C := fun u => Below wr.heap.size wr u ∧ u.cell? p = some (.int .i64 x.1) ∧ u.cell? ⟨p.block, p.off + 1, none⟩ = some (.int .i64 x.2.1) ∧ u.cell? ⟨p.block, p.off + 2, none⟩ = some (.int .i64 x.2.2.1) ∧ u.cell? ⟨p.block, p.off + 3, none⟩ = some (.bool x.2.2.2)) (by kernel_rfl) (by kernel_rfl) (KE _ (Below.refl _ _).drew) ?_
                rw [List.toList_toArray]
                go_big_quiet_want
                go_big_quiet_op
                go_big_quiet_on
                go_big_quiet_want
                go_big_quiet_op
                go_big_quiet_on
                go_big_quiet_want
                apply Exists.intro
                refine ⟨fun u hu => ?_, ?_⟩
                · obtain ⟨hu0, hu1, hu2, hu3, hu4⟩ := hu
                  unfold Oper.quietAt
                  go_simp
                  try rfl
                simp only [Act.put, List.setIfInBounds_toArray, List.set_cons_zero, List.set_cons_succ]
                go_big_quiet_on
                go_big_quiet_want
                apply Exists.intro
                refine ⟨fun u hu => ?_, ?_⟩
                · obtain ⟨hu0, hu1, hu2, hu3, hu4⟩ := hu
                  unfold Oper.quietAt
                  go_simp
                  try rfl
                simp only [Act.put, List.setIfInBounds_toArray, List.set_cons_zero, List.set_cons_succ]
                go_big_quiet_on
                go_big_quiet_want
                apply Exists.intro
                refine ⟨fun u hu => ?_, ?_⟩
                · obtain ⟨hu0, hu1, hu2, hu3, hu4⟩ := hu
                  unfold Oper.quietAt
                  go_simp
                  try rfl
                simp only [Act.put, List.setIfInBounds_toArray, List.set_cons_zero, List.set_cons_succ]
                go_big_quiet_on
                go_big_quiet_want
                refine ⟨.bool true, fun u hu => ?_, ?_⟩
                · obtain ⟨hu0, hu1, hu2, hu3, hu4⟩ := hu
                  unfold Oper.quietAt
                  go_simp
                  refine (l1In_QS _ _ _ HI.out).mono ?_
                  rintro e u9 ⟨rfl, rfl⟩
                  exact ⟨rfl, ⟨hu0, hu1, hu2, hu3, hu4⟩⟩
                simp only [Act.put, List.setIfInBounds_toArray, List.set_cons_zero, List.set_cons_succ]
                go_big_quiet_on
                go_big_quiet_want
                apply Exists.intro
                refine ⟨fun u hu => ?_, ?_⟩
                · obtain ⟨hu0, hu1, hu2, hu3, hu4⟩ := hu
                  unfold Oper.quietAt
                  go_simp
                  try rfl
                simp only [Act.put, List.setIfInBounds_toArray, List.set_cons_zero, List.set_cons_succ]
                go_big_quiet_on
                go_big_quiet_want
                go_big_quiet_op
                go_big_quiet_on
                go_big_quiet_want
                go_big_quiet_op
                go_big_quiet_on
                go_big_quiet_want
                go_big_quiet_op
                go_big_quiet_on
                go_big_quiet_want
                apply Exists.intro
                refine ⟨fun u hu => ?_, ?_⟩
                · obtain ⟨hu0, hu1, hu2, hu3, hu4⟩ := hu
                  unfold Oper.quietAt
                  go_simp
                  try rfl
                simp only [Act.put, List.setIfInBounds_toArray, List.set_cons_zero, List.set_cons_succ]
                go_big_quiet_on
                go_big_quiet_want
                apply Exists.intro
                refine ⟨fun u hu => ?_, ?_⟩
                · obtain ⟨hu0, hu1, hu2, hu3, hu4⟩ := hu
                  unfold Oper.quietAt
                  go_simp
                  try rfl
                simp only [Act.put, List.setIfInBounds_toArray, List.set_cons_zero, List.set_cons_succ]
                go_big_quiet_on
                go_big_quiet_want
                apply Exists.intro
                refine ⟨fun u hu => ?_, ?_⟩
                · obtain ⟨hu0, hu1, hu2, hu3, hu4⟩ := hu
                  unfold Oper.quietAt
                  go_simp
                  try rfl
                simp only [Act.put, List.setIfInBounds_toArray, List.set_cons_zero, List.set_cons_succ]
                go_big_quiet_on
                go_big_quiet_want
                refine ⟨.bool true, fun u hu => ?_, ?_⟩
                · obtain ⟨hu0, hu1, hu2, hu3, hu4⟩ := hu
                  unfold Oper.quietAt
                  go_simp
                  refine (l1In_QS _ _ _ HW.out).mono ?_
                  rintro e u9 ⟨rfl, rfl⟩
                  exact ⟨rfl, ⟨hu0, hu1, hu2, hu3, hu4⟩⟩
                simp only [Act.put, List.setIfInBounds_toArray, List.set_cons_zero, List.set_cons_succ]
                go_big_quiet_on
                go_big_quiet_want
                apply Exists.intro
                refine ⟨fun u hu => ?_, ?_⟩
                · obtain ⟨hu0, hu1, hu2, hu3, hu4⟩ := hu
                  unfold Oper.quietAt
                  go_simp
                  try rfl
                simp only [Act.put, List.setIfInBounds_toArray, List.set_cons_zero, List.set_cons_succ]
                go_big_quiet_on
                go_big_quiet_want
                apply Exists.intro
                refine ⟨fun u hu => ?_, ?_⟩
                · obtain ⟨hu0, hu1, hu2, hu3, hu4⟩ := hu
                  unfold Oper.quietAt
                  go_simp
                  try rfl
                simp only [Act.put, List.setIfInBounds_toArray, List.set_cons_zero, List.set_cons_succ]
                go_big_quiet_on
                go_big_quiet_want
                go_big_quiet_op
                go_big_quiet_on
                go_big_quiet_want
                go_big_quiet_op
                go_big_quiet_on
                go_big_quiet_want
                apply Exists.intro
                refine ⟨fun u hu => ?_, ?_⟩
                · obtain ⟨hu0, hu1, hu2, hu3, hu4⟩ := hu
                  unfold Oper.quietAt
                  go_simp
                  try rfl
                simp only [Act.put, List.setIfInBounds_toArray, List.set_cons_zero, List.set_cons_succ]
                go_big_quiet_on
                go_big_quiet_want
                go_big_quiet_op
                go_big_quiet_on
                repeat go_big_quiet_skip
                go_big_quiet_want
                apply Exists.intro
                refine ⟨fun u hu => ?_, ?_⟩
                · obtain ⟨hu0, hu1, hu2, hu3, hu4⟩ := hu
                  unfold Oper.quietAt
                  go_simp
                  try rfl
                simp only [Act.put, List.setIfInBounds_toArray, List.set_cons_zero, List.set_cons_succ]
                go_big_quiet_on
                go_big_quiet_want
                apply Exists.intro
                refine ⟨fun u hu => ?_, ?_⟩
                · obtain ⟨hu0, hu1, hu2, hu3, hu4⟩ := hu
                  unfold Oper.quietAt
                  go_simp
                  try rfl
                simp only [Act.put, List.setIfInBounds_toArray, List.set_cons_zero, List.set_cons_succ]
                go_big_quiet_on
                go_big_quiet_want
                go_big_quiet_op
                go_big_quiet_on
                go_big_quiet_want
                go_big_quiet_op
                go_big_quiet_on
                go_big_quiet_want
                go_big_quiet_op
                go_big_quiet_on
                go_big_quiet_want
                apply Exists.intro
                refine ⟨fun u hu => ?_, ?_⟩
                · obtain ⟨hu0, hu1, hu2, hu3, hu4⟩ := hu
                  unfold Oper.quietAt
                  go_simp
                  try rfl
                simp only [Act.put, List.setIfInBounds_toArray, List.set_cons_zero, List.set_cons_succ]
                go_big_quiet_on
                go_big_quiet_want
                apply Exists.intro
                refine ⟨fun u hu => ?_, ?_⟩
                · obtain ⟨hu0, hu1, hu2, hu3, hu4⟩ := hu
                  unfold Oper.quietAt
                  go_simp
                  try rfl
                simp only [Act.put, List.setIfInBounds_toArray, List.set_cons_zero, List.set_cons_succ]
                go_big_quiet_on
                go_big_quiet_want
                apply Exists.intro
                refine ⟨fun u hu => ?_, ?_⟩
                · obtain ⟨hu0, hu1, hu2, hu3, hu4⟩ := hu
                  unfold Oper.quietAt
                  go_simp
                  try rfl
                simp only [Act.put, List.setIfInBounds_toArray, List.set_cons_zero, List.set_cons_succ]
                go_big_quiet_on
                go_big_quiet_want
                apply Exists.intro
                refine ⟨fun u hu => ?_, ?_⟩
                · obtain ⟨hu0, hu1, hu2, hu3, hu4⟩ := hu
                  unfold Oper.quietAt
                  go_simp
                  try rfl
                simp only [Act.put, List.setIfInBounds_toArray, List.set_cons_zero, List.set_cons_succ]
                go_big_quiet_on
                go_big_quiet_want
                go_big_quiet_op
                go_big_quiet_on
                go_big_quiet_want
                go_big_quiet_op
                go_big_quiet_on
                go_big_quiet_want
                go_big_quiet_op
                go_big_quiet_on
                go_big_quiet_want
                apply Exists.intro
                refine ⟨fun u hu => ?_, ?_⟩
                · obtain ⟨hu0, hu1, hu2, hu3, hu4⟩ := hu
                  unfold Oper.quietAt
                  go_simp
                  try rfl
                simp only [Act.put, List.setIfInBounds_toArray, List.set_cons_zero, List.set_cons_succ]
                go_big_quiet_on
                go_big_quiet_want
                go_big_quiet_op
                go_big_quiet_on
                go_big_quiet_want
                go_big_quiet_op
                go_big_quiet_on
                go_big_quiet_want
                apply Exists.intro
                refine ⟨fun u hu => ?_, ?_⟩
                · obtain ⟨hu0, hu1, hu2, hu3, hu4⟩ := hu
                  unfold Oper.quietAt
                  go_simp
                  try rfl
                simp only [Act.put, List.setIfInBounds_toArray, List.set_cons_zero, List.set_cons_succ]
                go_big_quiet_on
                go_big_quiet_want
                apply Exists.intro
                refine ⟨fun u hu => ?_, ?_⟩
                · obtain ⟨hu0, hu1, hu2, hu3, hu4⟩ := hu
                  unfold Oper.quietAt
                  go_simp
                  try rfl
                simp only [Act.put, List.setIfInBounds_toArray, List.set_cons_zero, List.set_cons_succ]
                go_big_quiet_on
                go_big_quiet_want
                apply Exists.intro
                refine ⟨fun u hu => ?_, ?_⟩
                · obtain ⟨hu0, hu1, hu2, hu3, hu4⟩ := hu
                  unfold Oper.quietAt
                  go_simp
                  try rfl
                simp only [Act.put, List.setIfInBounds_toArray, List.set_cons_zero, List.set_cons_succ]
                go_big_quiet_on
                go_big_quiet_want
                refine ⟨.int .i64 (-1), fun u hu => ?_, ?_⟩
                · obtain ⟨hu0, hu1, hu2, hu3, hu4⟩ := hu
                  unfold Oper.quietAt
                  go_simp
                  refine (l26Find_any (X := X.take k) HTL (by omega) ((HRT.out.below hu0).more hu0.size)).mono ?_
                  rintro e u9 ⟨rfl, rfl⟩
                  rw [HPK.out, HPR.out]
                  exact ⟨rfl, ⟨hu0, hu1, hu2, hu3, hu4⟩⟩
                simp only [Act.put, List.setIfInBounds_toArray, List.set_cons_zero, List.set_cons_succ]
                go_big_quiet_on
                go_big_quiet_want
                apply Exists.intro
                refine ⟨fun u hu => ?_, ?_⟩
                · obtain ⟨hu0, hu1, hu2, hu3, hu4⟩ := hu
                  unfold Oper.quietAt
                  go_simp
                  try rfl
                simp only [Act.put, List.setIfInBounds_toArray, List.set_cons_zero, List.set_cons_succ]
                go_big_quiet_on
                go_big_quiet_want
                apply Exists.intro
                refine ⟨fun u hu => ?_, ?_⟩
                · obtain ⟨hu0, hu1, hu2, hu3, hu4⟩ := hu
                  unfold Oper.quietAt
                  go_simp
                  try rfl
                simp only [Act.put, List.setIfInBounds_toArray, List.set_cons_zero, List.set_cons_succ]
                go_big_quiet_on
                go_big_quiet_want
                apply Exists.intro
                refine ⟨fun u hu => ?_, ?_⟩
                · obtain ⟨hu0, hu1, hu2, hu3, hu4⟩ := hu
                  unfold Oper.quietAt
                  go_simp
                  try rfl
                simp only [Act.put, List.setIfInBounds_toArray, List.set_cons_zero, List.set_cons_succ]
                go_big_quiet_on
                refine wpQuiet_nil ?_
                rintro u ⟨r, _⟩
                go_wp2_with fail
                go_ret
                exact ⟨ret_b HV.out.symm, hb.trans (r.mono hsz)⟩
              | some j =>
                have HP := Lib.hid (And.intro (asc_snoc hall.out.1 (HASC.out)) (src_snoc hall.out.2 (show srcAt X k = true by rw [HAT.out, HW.out, hp9, e1]; rfl)))
                have HPR := Lib.hid (show fndR (parS X k) = (j : Int) by rw [hp9]; rfl)
                have j0 : ¬ (j : Int) < 0 := by omega
                have j1 : (0 : Int) ≤ (j : Int) := by omega
                clear hz e1 hp9
                go_wp2_with fail
                refine wp_region_quiet (C := fun u => Below wr.heap.size wr u ∧ u.cell? p = some (.int .i64 x.1) ∧ u.cell? ⟨p.block, p.off + 1, none⟩ = some (.int .i64 x.2.1) ∧ u.cell? ⟨p.block, p.off + 2, none⟩ = some (.int .i64 x.2.2.1) ∧ u.cell? ⟨p.block, p.off + 3, none⟩ = some (.bool x.2.2.2)) (by kernel_rfl) (by kernel_rfl) (KE _ (Below.refl _ _).drew) ?_
                rw [List.toList_toArray]
                go_big_quiet_want
                go_big_quiet_op
                go_big_quiet_on
                go_big_quiet_want
                go_big_quiet_op
                go_big_quiet_on
                go_big_quiet_want
                apply Exists.intro
                refine ⟨fun u hu => ?_, ?_⟩
                · obtain ⟨hu0, hu1, hu2, hu3, hu4⟩ := hu
                  unfold Oper.quietAt
                  go_simp
                  try rfl
                simp only [Act.put, List.setIfInBounds_toArray, List.set_cons_zero, List.set_cons_succ]
                go_big_quiet_on
                go_big_quiet_want
                apply Exists.intro
                refine ⟨fun u hu => ?_, ?_⟩
                · obtain ⟨hu0, hu1, hu2, hu3, hu4⟩ := hu
                  unfold Oper.quietAt
                  go_simp
                  try rfl
                simp only [Act.put, List.setIfInBounds_toArray, List.set_cons_zero, List.set_cons_succ]
                go_big_quiet_on
                go_big_quiet_want
                apply Exists.intro
                refine ⟨fun u hu => ?_, ?_⟩
                · obtain ⟨hu0, hu1, hu2, hu3, hu4⟩ := hu
                  unfold Oper.quietAt
                  go_simp
                  try rfl
                simp only [Act.put, List.setIfInBounds_toArray, List.set_cons_zero, List.set_cons_succ]
                go_big_quiet_on
                go_big_quiet_want
                refine ⟨.bool true, fun u hu => ?_, ?_⟩
                · obtain ⟨hu0, hu1, hu2, hu3, hu4⟩ := hu
                  unfold Oper.quietAt
                  go_simp
                  refine (l1In_QS _ _ _ HI.out).mono ?_
                  rintro e u9 ⟨rfl, rfl⟩
                  exact ⟨rfl, ⟨hu0, hu1, hu2, hu3, hu4⟩⟩
                simp only [Act.put, List.setIfInBounds_toArray, List.set_cons_zero, List.set_cons_succ]
                go_big_quiet_on
                go_big_quiet_want
                apply Exists.intro
                refine ⟨fun u hu => ?_, ?_⟩
                · obtain ⟨hu0, hu1, hu2, hu3, hu4⟩ := hu
                  unfold Oper.quietAt
                  go_simp
                  try rfl
                simp only [Act.put, List.setIfInBounds_toArray, List.set_cons_zero, List.set_cons_succ]
                go_big_quiet_on
                go_big_quiet_want
                go_big_quiet_op
                go_big_quiet_on
                go_big_quiet_want
                go_big_quiet_op
                go_big_quiet_on
                go_big_quiet_want
                go_big_quiet_op
                go_big_quiet_on
                go_big_quiet_want
                apply Exists.intro
                refine ⟨fun u hu => ?_, ?_⟩
                · obtain ⟨hu0, hu1, hu2, hu3, hu4⟩ := hu
                  unfold Oper.quietAt
                  go_simp
                  try rfl
                simp only [Act.put, List.setIfInBounds_toArray, List.set_cons_zero, List.set_cons_succ]
                go_big_quiet_on
                go_big_quiet_want
                apply Exists.intro
                refine ⟨fun u hu => ?_, ?_⟩
                · obtain ⟨hu0, hu1, hu2, hu3, hu4⟩ := hu
                  unfold Oper.quietAt
                  go_simp
                  try rfl
                simp only [Act.put, List.setIfInBounds_toArray, List.set_cons_zero, List.set_cons_succ]
                go_big_quiet_on
                go_big_quiet_want
                apply Exists.intro
                refine ⟨fun u hu => ?_, ?_⟩
                · obtain ⟨hu0, hu1, hu2, hu3, hu4⟩ := hu
                  unfold Oper.quietAt
                  go_simp
                  try rfl
                simp only [Act.put, List.setIfInBounds_toArray, List.set_cons_zero, List.set_cons_succ]
                go_big_quiet_on
                go_big_quiet_want
                refine ⟨.bool true, fun u hu => ?_, ?_⟩
                · obtain ⟨hu0, hu1, hu2, hu3, hu4⟩ := hu
                  unfold Oper.quietAt
                  go_simp
                  refine (l1In_QS _ _ _ HW.out).mono ?_
                  rintro e u9 ⟨rfl, rfl⟩
                  exact ⟨rfl, ⟨hu0, hu1, hu2, hu3, hu4⟩⟩
                simp only [Act.put, List.setIfInBounds_toArray, List.set_cons_zero, List.set_cons_succ]
                go_big_quiet_on
                go_big_quiet_want
                apply Exists.intro
                refine ⟨fun u hu => ?_, ?_⟩
                · obtain ⟨hu0, hu1, hu2, hu3, hu4⟩ := hu
                  unfold Oper.quietAt
                  go_simp
                  try rfl
                simp only [Act.put, List.setIfInBounds_toArray, List.set_cons_zero, List.set_cons_succ]
                go_big_quiet_on
                go_big_quiet_want
                apply Exists.intro
                refine ⟨fun u hu => ?_, ?_⟩
                · obtain ⟨hu0, hu1, hu2, hu3, hu4⟩ := hu
                  unfold Oper.quietAt
                  go_simp
                  try rfl
                simp only [Act.put, List.setIfInBounds_toArray, List.set_cons_zero, List.set_cons_succ]
                go_big_quiet_on
                go_big_quiet_want
                go_big_quiet_op
                go_big_quiet_on
                go_big_quiet_want
                go_big_quiet_op
                go_big_quiet_on
                go_big_quiet_want
                apply Exists.intro
                refine ⟨fun u hu => ?_, ?_⟩
                · obtain ⟨hu0, hu1, hu2, hu3, hu4⟩ := hu
                  unfold Oper.quietAt
                  go_simp
                  try rfl
                simp only [Act.put, List.setIfInBounds_toArray, List.set_cons_zero, List.set_cons_succ]
                go_big_quiet_on
                go_big_quiet_want
                go_big_quiet_op
                go_big_quiet_on
                repeat go_big_quiet_skip
                go_big_quiet_want
                apply Exists.intro
                refine ⟨fun u hu => ?_, ?_⟩
                · obtain ⟨hu0, hu1, hu2, hu3, hu4⟩ := hu
                  unfold Oper.quietAt
                  go_simp
                  try rfl
                simp only [Act.put, List.setIfInBounds_toArray, List.set_cons_zero, List.set_cons_succ]
                go_big_quiet_on
                go_big_quiet_want
                apply Exists.intro
                refine ⟨fun u hu => ?_, ?_⟩
                · obtain ⟨hu0, hu1, hu2, hu3, hu4⟩ := hu
                  unfold Oper.quietAt
                  go_simp
                  try rfl
                simp only [Act.put, List.setIfInBounds_toArray, List.set_cons_zero, List.set_cons_succ]
                go_big_quiet_on
                go_big_quiet_want
                go_big_quiet_op
                go_big_quiet_on
                go_big_quiet_want
                go_big_quiet_op
                go_big_quiet_on
                go_big_quiet_want
                go_big_quiet_op
                go_big_quiet_on
                go_big_quiet_want
                apply Exists.intro
                refine ⟨fun u hu => ?_, ?_⟩
                · obtain ⟨hu0, hu1, hu2, hu3, hu4⟩ := hu
                  unfold Oper.quietAt
                  go_simp
                  try rfl
                simp only [Act.put, List.setIfInBounds_toArray, List.set_cons_zero, List.set_cons_succ]
                go_big_quiet_on
                go_big_quiet_want
                apply Exists.intro
                refine ⟨fun u hu => ?_, ?_⟩
                · obtain ⟨hu0, hu1, hu2, hu3, hu4⟩ := hu
                  unfold Oper.quietAt
                  go_simp
                  try rfl
                simp only [Act.put, List.setIfInBounds_toArray, List.set_cons_zero, List.set_cons_succ]
                go_big_quiet_on
                go_big_quiet_want
                apply Exists.intro
                refine ⟨fun u hu => ?_, ?_⟩
                · obtain ⟨hu0, hu1, hu2, hu3, hu4⟩ := hu
                  unfold Oper.quietAt
                  go_simp
                  try rfl
                simp only [Act.put, List.setIfInBounds_toArray, List.set_cons_zero, List.set_cons_succ]
                go_big_quiet_on
                go_big_quiet_want
                apply Exists.intro
                refine ⟨fun u hu => ?_, ?_⟩
                · obtain ⟨hu0, hu1, hu2, hu3, hu4⟩ := hu
                  unfold Oper.quietAt
                  go_simp
                  try rfl
                simp only [Act.put, List.setIfInBounds_toArray, List.set_cons_zero, List.set_cons_succ]
                go_big_quiet_on
                go_big_quiet_want
                go_big_quiet_op
                go_big_quiet_on
                go_big_quiet_want
                go_big_quiet_op
                go_big_quiet_on
                go_big_quiet_want
                go_big_quiet_op
                go_big_quiet_on
                go_big_quiet_want
                apply Exists.intro
                refine ⟨fun u hu => ?_, ?_⟩
                · obtain ⟨hu0, hu1, hu2, hu3, hu4⟩ := hu
                  unfold Oper.quietAt
                  go_simp
                  try rfl
                simp only [Act.put, List.setIfInBounds_toArray, List.set_cons_zero, List.set_cons_succ]
                go_big_quiet_on
                go_big_quiet_want
                go_big_quiet_op
                go_big_quiet_on
                go_big_quiet_want
                go_big_quiet_op
                go_big_quiet_on
                go_big_quiet_want
                apply Exists.intro
                refine ⟨fun u hu => ?_, ?_⟩
                · obtain ⟨hu0, hu1, hu2, hu3, hu4⟩ := hu
                  unfold Oper.quietAt
                  go_simp
                  try rfl
                simp only [Act.put, List.setIfInBounds_toArray, List.set_cons_zero, List.set_cons_succ]
                go_big_quiet_on
                go_big_quiet_want
                apply Exists.intro
                refine ⟨fun u hu => ?_, ?_⟩
                · obtain ⟨hu0, hu1, hu2, hu3, hu4⟩ := hu
                  unfold Oper.quietAt
                  go_simp
                  try rfl
                simp only [Act.put, List.setIfInBounds_toArray, List.set_cons_zero, List.set_cons_succ]
                go_big_quiet_on
                go_big_quiet_want
                apply Exists.intro
                refine ⟨fun u hu => ?_, ?_⟩
                · obtain ⟨hu0, hu1, hu2, hu3, hu4⟩ := hu
                  unfold Oper.quietAt
                  go_simp
                  try rfl
                simp only [Act.put, List.setIfInBounds_toArray, List.set_cons_zero, List.set_cons_succ]
                go_big_quiet_on
                go_big_quiet_want
                refine ⟨.int .i64 (j : Int), fun u hu => ?_, ?_⟩
                · obtain ⟨hu0, hu1, hu2, hu3, hu4⟩ := hu
                  unfold Oper.quietAt
                  go_simp
                  refine (l26Find_any (X := X.take k) HTL (by omega) ((HRT.out.below hu0).more hu0.size)).mono ?_
                  rintro e u9 ⟨rfl, rfl⟩
                  rw [HPK.out, HPR.out]
                  exact ⟨rfl, ⟨hu0, hu1, hu2, hu3, hu4⟩⟩
                simp only [Act.put, List.setIfInBounds_toArray, List.set_cons_zero, List.set_cons_succ]
                go_big_quiet_on
                go_big_quiet_want
                apply Exists.intro
                refine ⟨fun u hu => ?_, ?_⟩
                · obtain ⟨hu0, hu1, hu2, hu3, hu4⟩ := hu
                  unfold Oper.quietAt
                  go_simp
                  try rfl
                simp only [Act.put, List.setIfInBounds_toArray, List.set_cons_zero, List.set_cons_succ]
                go_big_quiet_on
                go_big_quiet_want
                apply Exists.intro
                refine ⟨fun u hu => ?_, ?_⟩
                · obtain ⟨hu0, hu1, hu2, hu3, hu4⟩ := hu
                  unfold Oper.quietAt
                  go_simp
                  try rfl
                simp only [Act.put, List.setIfInBounds_toArray, List.set_cons_zero, List.set_cons_succ]
                go_big_quiet_on
                go_big_quiet_want
                apply Exists.intro
                refine ⟨fun u hu => ?_, ?_⟩
                · obtain ⟨hu0, hu1, hu2, hu3, hu4⟩ := hu
                  unfold Oper.quietAt
                  go_simp
                  try rfl
                simp only [Act.put, List.setIfInBounds_toArray, List.set_cons_zero, List.set_cons_succ]
                go_big_quiet_on
                refine wpQuiet_nil ?_
                rintro u ⟨r, _⟩
                go_wp2_with fail
                go_roundw
                case rel => exact ⟨k + 1, by omega, by go_num, HP, hb.trans (r.mono hsz)⟩
                case measure => simp [intOf]; omega
          · obtain ⟨j9, hj⟩ : ∃ j, k = j + 1 := ⟨k - 1, by omega⟩
            have hk1 : j9 < X.length := by omega
            have hkj : j9 < (X.map (·.1)).length := by simpa using hk1
            have j0 : (0 : Int) ≤ (j9 : Int) := by omega
            have j1 : (j9 : Int) < (n : Int) := by omega
            have hwj : IntKind.i64.wrap ((k : Int) - 1) = (j9 : Int) := (IntWalk.i64_in ((k : Int) - 1) (by omega)).trans (by omega)
            have hkp : 0 < k := by omega
            have hkp' : (0 : Int) < (k : Int) := by omega
            have dk : decide ((0 : Int) < (k : Int)) = true := decide_eq_true hkp'
            obtain ⟨ad', p', e', hp', hab', g0, g1, g2, g3⟩ := src_cells ((hr.below hb).more hb.size) hk1
            injection e' with e'
            subst e'
            have hDj : (X.map (·.1)).getD j9 0 = X[j9].1 := by rw [ascD hkj]; simp
            obtain ⟨y, hy⟩ : ∃ y, y = X[j9] := ⟨_, rfl⟩
            rw [← hy] at g0 hDj
            have HA := Lib.hid (asc_2 HD.out hj hDj HI.out)
            clear hy hDj hj g1 g2 g3 hk0
            have KE := fun (u : World) (q : Below wr.heap.size wr u) => show Below wr.heap.size wr u ∧ u.cell? p = some (.int .i64 x.1) ∧ u.cell? ⟨p.block, p.off + 1, none⟩ = some (.int .i64 x.2.1) ∧ u.cell? ⟨p.block, p.off + 2, none⟩ = some (.int .i64 x.2.2.1) ∧ u.cell? ⟨p.block, p.off + 3, none⟩ = some (.bool x.2.2.2) ∧ u.cell? p' = some (.int .i64 y.1) from ⟨q, nwS q h0, nwS q h1, nwS q h2, nwS q h3, nwS q g0⟩
            by_cases hxy : y.1 < x.1
            · have d1 : decide (x.1 ≤ y.1) = false := decide_eq_false (by omega)
              have HASC := Lib.hid (HA.out.trans (decide_eq_true hxy))
              by_cases hz : x.2.1 = 0
              · have HP := Lib.hid (And.intro (asc_snoc hall.out.1 (HASC.out)) (src_snoc hall.out.2 (show srcAt X k = true by rw [HAT.out, HW.out, hz]; rfl)))
                have e0 : (x.2.1 != 0) = false := by simpa using hz
                clear hz
                go_wp2_with fail
                refine wp_region_quiet (C := fun u => Below wr.heap.size wr u ∧ u.cell? p = some (.int .i64 x.1) ∧ u.cell? ⟨p.block, p.off + 1, none⟩ = some (.int .i64 x.2.1) ∧ u.cell? ⟨p.block, p.off + 2, none⟩ = some (.int .i64 x.2.2.1) ∧ u.cell? ⟨p.block, p.off + 3, none⟩ = some (.bool x.2.2.2) ∧ u.cell? p' = some (.int .i64 y.1)) (by kernel_rfl) (by kernel_rfl) (KE _ (Below.refl _ _).drew) ?_
                rw [List.toList_toArray]
                go_big_quiet_want
                go_big_quiet_op
                go_big_quiet_on
                go_big_quiet_want
                go_big_quiet_op
                go_big_quiet_on
                go_big_quiet_want
                apply Exists.intro
                refine ⟨fun u hu => ?_, ?_⟩
                · obtain ⟨hu0, hu1, hu2, hu3, hu4, hu5⟩ := hu
                  unfold Oper.quietAt
                  go_simp
                  try rfl
                simp only [Act.put, List.setIfInBounds_toArray, List.set_cons_zero, List.set_cons_succ]
                go_big_quiet_on
                go_big_quiet_want
                apply Exists.intro
                refine ⟨fun u hu => ?_, ?_⟩
                · obtain ⟨hu0, hu1, hu2, hu3, hu4, hu5⟩ := hu
                  unfold Oper.quietAt
                  go_simp
                  try rfl
                simp only [Act.put, List.setIfInBounds_toArray, List.set_cons_zero, List.set_cons_succ]
                go_big_quiet_on
                go_big_quiet_want
                apply Exists.intro
                refine ⟨fun u hu => ?_, ?_⟩
                · obtain ⟨hu0, hu1, hu2, hu3, hu4, hu5⟩ := hu
                  unfold Oper.quietAt
                  go_simp
                  try rfl
                simp only [Act.put, List.setIfInBounds_toArray, List.set_cons_zero, List.set_cons_succ]
                go_big_quiet_on
                go_big_quiet_want
                refine ⟨.bool true, fun u hu => ?_, ?_⟩
                · obtain ⟨hu0, hu1, hu2, hu3, hu4, hu5⟩ := hu
                  unfold Oper.quietAt
                  go_simp
                  refine (l1In_QS _ _ _ HI.out).mono ?_
                  rintro e u9 ⟨rfl, rfl⟩
                  exact ⟨rfl, ⟨hu0, hu1, hu2, hu3, hu4, hu5⟩⟩
                simp only [Act.put, List.setIfInBounds_toArray, List.set_cons_zero, List.set_cons_succ]
                go_big_quiet_on
                go_big_quiet_want
                apply Exists.intro
                refine ⟨fun u hu => ?_, ?_⟩
                · obtain ⟨hu0, hu1, hu2, hu3, hu4, hu5⟩ := hu
                  unfold Oper.quietAt
                  go_simp
                  try rfl
                simp only [Act.put, List.setIfInBounds_toArray, List.set_cons_zero, List.set_cons_succ]
                go_big_quiet_on
                go_big_quiet_want
                go_big_quiet_op
                go_big_quiet_on
                go_big_quiet_want
                go_big_quiet_op
                go_big_quiet_on
                go_big_quiet_want
                go_big_quiet_op
                go_big_quiet_on
                go_big_quiet_want
                apply Exists.intro
                refine ⟨fun u hu => ?_, ?_⟩
                · obtain ⟨hu0, hu1, hu2, hu3, hu4, hu5⟩ := hu
                  unfold Oper.quietAt
                  go_simp
                  try rfl
                simp only [Act.put, List.setIfInBounds_toArray, List.set_cons_zero, List.set_cons_succ]
                go_big_quiet_on
                go_big_quiet_want
                apply Exists.intro
                refine ⟨fun u hu => ?_, ?_⟩
                · obtain ⟨hu0, hu1, hu2, hu3, hu4, hu5⟩ := hu
                  unfold Oper.quietAt
                  go_simp
                  try rfl
                simp only [Act.put, List.setIfInBounds_toArray, List.set_cons_zero, List.set_cons_succ]
                go_big_quiet_on
                go_big_quiet_want
                apply Exists.intro
                refine ⟨fun u hu => ?_, ?_⟩
                · obtain ⟨hu0, hu1, hu2, hu3, hu4, hu5⟩ := hu
                  unfold Oper.quietAt
                  go_simp
                  try rfl
                simp only [Act.put, List.setIfInBounds_toArray, List.set_cons_zero, List.set_cons_succ]
                go_big_quiet_on
                go_big_quiet_want
                refine ⟨.bool true, fun u hu => ?_, ?_⟩
                · obtain ⟨hu0, hu1, hu2, hu3, hu4, hu5⟩ := hu
                  unfold Oper.quietAt
                  go_simp
                  refine (l1In_QS _ _ _ HW.out).mono ?_
                  rintro e u9 ⟨rfl, rfl⟩
                  exact ⟨rfl, ⟨hu0, hu1, hu2, hu3, hu4, hu5⟩⟩
                simp only [Act.put, List.setIfInBounds_toArray, List.set_cons_zero, List.set_cons_succ]
                go_big_quiet_on
                go_big_quiet_want
                apply Exists.intro
                refine ⟨fun u hu => ?_, ?_⟩
                · obtain ⟨hu0, hu1, hu2, hu3, hu4, hu5⟩ := hu
                  unfold Oper.quietAt
                  go_simp
                  try rfl
                simp only [Act.put, List.setIfInBounds_toArray, List.set_cons_zero, List.set_cons_succ]
                go_big_quiet_on
                go_big_quiet_want
                apply Exists.intro
                refine ⟨fun u hu => ?_, ?_⟩
                · obtain ⟨hu0, hu1, hu2, hu3, hu4, hu5⟩ := hu
                  unfold Oper.quietAt
                  go_simp
                  try rfl
                simp only [Act.put, List.setIfInBounds_toArray, List.set_cons_zero, List.set_cons_succ]
                go_big_quiet_on
                go_big_quiet_want
                go_big_quiet_op
                go_big_quiet_on
                go_big_quiet_want
                go_big_quiet_op
                go_big_quiet_on
                go_big_quiet_want
                apply Exists.intro
                refine ⟨fun u hu => ?_, ?_⟩
                · obtain ⟨hu0, hu1, hu2, hu3, hu4, hu5⟩ := hu
                  unfold Oper.quietAt
                  go_simp
                  try rfl
                simp only [Act.put, List.setIfInBounds_toArray, List.set_cons_zero, List.set_cons_succ]
                go_big_quiet_on
                go_big_quiet_want
                go_big_quiet_op
                go_big_quiet_on
                go_big_quiet_want
                go_big_quiet_op
                go_big_quiet_on
                go_big_quiet_want
                go_big_quiet_op
                go_big_quiet_on
                go_big_quiet_want
                apply Exists.intro
                refine ⟨fun u hu => ?_, ?_⟩
                · obtain ⟨hu0, hu1, hu2, hu3, hu4, hu5⟩ := hu
                  unfold Oper.quietAt
                  go_simp
                  try rfl
                simp only [Act.put, List.setIfInBounds_toArray, List.set_cons_zero, List.set_cons_succ]
                go_big_quiet_on
                go_big_quiet_want
                apply Exists.intro
                refine ⟨fun u hu => ?_, ?_⟩
                · obtain ⟨hu0, hu1, hu2, hu3, hu4, hu5⟩ := hu
                  unfold Oper.quietAt
                  go_simp
                  try rfl
                simp only [Act.put, List.setIfInBounds_toArray, List.set_cons_zero, List.set_cons_succ]
                go_big_quiet_on
                go_big_quiet_want
                apply Exists.intro
                refine ⟨fun u hu => ?_, ?_⟩
                · obtain ⟨hu0, hu1, hu2, hu3, hu4, hu5⟩ := hu
                  unfold Oper.quietAt
                  go_simp
                  try rfl
                simp only [Act.put, List.setIfInBounds_toArray, List.set_cons_zero, List.set_cons_succ]
                go_big_quiet_on
                go_big_quiet_want
                apply Exists.intro
                refine ⟨fun u hu => ?_, ?_⟩
                · obtain ⟨hu0, hu1, hu2, hu3, hu4, hu5⟩ := hu
                  unfold Oper.quietAt
                  go_simp
                  try rfl
                simp only [Act.put, List.setIfInBounds_toArray, List.set_cons_zero, List.set_cons_succ]
                go_big_quiet_on
                go_big_quiet_want
                go_big_quiet_op
                go_big_quiet_on
                go_big_quiet_want
                go_big_quiet_op
                go_big_quiet_on
                go_big_quiet_want
                apply Exists.intro
                refine ⟨fun u hu => ?_, ?_⟩
                · obtain ⟨hu0, hu1, hu2, hu3, hu4, hu5⟩ := hu
                  unfold Oper.quietAt
                  go_simp
                  try rfl
                simp only [Act.put, List.setIfInBounds_toArray, List.set_cons_zero, List.set_cons_succ]
                go_big_quiet_on
                go_big_quiet_want
                apply Exists.intro
                refine ⟨fun u hu => ?_, ?_⟩
                · obtain ⟨hu0, hu1, hu2, hu3, hu4, hu5⟩ := hu
                  unfold Oper.quietAt
                  go_simp
                  try rfl
                simp only [Act.put, List.setIfInBounds_toArray, List.set_cons_zero, List.set_cons_succ]
                go_big_quiet_on
                go_big_quiet_want
                apply Exists.intro
                refine ⟨fun u hu => ?_, ?_⟩
                · obtain ⟨hu0, hu1, hu2, hu3, hu4, hu5⟩ := hu
                  unfold Oper.quietAt
                  go_simp
                  try rfl
                simp only [Act.put, List.setIfInBounds_toArray, List.set_cons_zero, List.set_cons_succ]
                go_big_quiet_on
                go_big_quiet_want
                apply Exists.intro
                refine ⟨fun u hu => ?_, ?_⟩
                · obtain ⟨hu0, hu1, hu2, hu3, hu4, hu5⟩ := hu
                  unfold Oper.quietAt
                  go_simp
                  try rfl
                simp only [Act.put, List.setIfInBounds_toArray, List.set_cons_zero, List.set_cons_succ]
                go_big_quiet_on
                go_big_quiet_want
                apply Exists.intro
                refine ⟨fun u hu => ?_, ?_⟩
                · obtain ⟨hu0, hu1, hu2, hu3, hu4, hu5⟩ := hu
                  unfold Oper.quietAt
                  go_simp
                  try rfl
                simp only [Act.put, List.setIfInBounds_toArray, List.set_cons_zero, List.set_cons_succ]
                go_big_quiet_on
                go_big_quiet_want
                apply Exists.intro
                refine ⟨fun u hu => ?_, ?_⟩
                · obtain ⟨hu0, hu1, hu2, hu3, hu4, hu5⟩ := hu
                  unfold Oper.quietAt
                  go_simp
                  try rfl
                simp only [Act.put, List.setIfInBounds_toArray, List.set_cons_zero, List.set_cons_succ]
                go_big_quiet_on
                go_big_quiet_want
                go_big_quiet_op
                go_big_quiet_on
                go_big_quiet_want
                go_big_quiet_op
                go_big_quiet_on
                go_big_quiet_want
                go_big_quiet_op
                go_big_quiet_on
                go_big_quiet_want
                apply Exists.intro
                refine ⟨fun u hu => ?_, ?_⟩
                · obtain ⟨hu0, hu1, hu2, hu3, hu4, hu5⟩ := hu
                  unfold Oper.quietAt
                  go_simp
                  try rfl
                simp only [Act.put, List.setIfInBounds_toArray, List.set_cons_zero, List.set_cons_succ]
                go_big_quiet_on
                go_big_quiet_want
                apply Exists.intro
                refine ⟨fun u hu => ?_, ?_⟩
                · obtain ⟨hu0, hu1, hu2, hu3, hu4, hu5⟩ := hu
                  unfold Oper.quietAt
                  go_simp
                  try rfl
                simp only [Act.put, List.setIfInBounds_toArray, List.set_cons_zero, List.set_cons_succ]
                go_big_quiet_on
                go_big_quiet_want
                apply Exists.intro
                refine ⟨fun u hu => ?_, ?_⟩
                · obtain ⟨hu0, hu1, hu2, hu3, hu4, hu5⟩ := hu
                  unfold Oper.quietAt
                  go_simp
                  try rfl
                simp only [Act.put, List.setIfInBounds_toArray, List.set_cons_zero, List.set_cons_succ]
                go_big_quiet_on
                go_big_quiet_want
                apply Exists.intro
                refine ⟨fun u hu => ?_, ?_⟩
                · obtain ⟨hu0, hu1, hu2, hu3, hu4, hu5⟩ := hu
                  unfold Oper.quietAt
                  go_simp
                  try rfl
                simp only [Act.put, List.setIfInBounds_toArray, List.set_cons_zero, List.set_cons_succ]
                go_big_quiet_on
                go_big_quiet_want
                go_big_quiet_op
                go_big_quiet_on
                repeat go_big_quiet_skip
                go_big_quiet_want
                apply Exists.intro
                refine ⟨fun u hu => ?_, ?_⟩
                · obtain ⟨hu0, hu1, hu2, hu3, hu4, hu5⟩ := hu
                  unfold Oper.quietAt
                  go_simp
                  try rfl
                simp only [Act.put, List.setIfInBounds_toArray, List.set_cons_zero, List.set_cons_succ]
                go_big_quiet_on
                go_big_quiet_want
                apply Exists.intro
                refine ⟨fun u hu => ?_, ?_⟩
                · obtain ⟨hu0, hu1, hu2, hu3, hu4, hu5⟩ := hu
                  unfold Oper.quietAt
                  go_simp
                  try rfl
                simp only [Act.put, List.setIfInBounds_toArray, List.set_cons_zero, List.set_cons_succ]
                go_big_quiet_on
                refine wpQuiet_nil ?_
                rintro u ⟨r, _⟩
                go_wp2_with fail
                go_roundw
                case rel => exact ⟨k + 1, by omega, by go_num, HP, hb.trans (r.mono hsz)⟩
                case measure => simp [intOf]; omega
              · have e0 : (x.2.1 != 0) = true := by simpa using hz
                have e1 : (x.2.1 == 0) = false := by simpa using hz
                cases hp9 : parS X k with
                | none =>
                  have HV := Lib.hid (src_no hkz (by rw [HAT.out, HW.out, e1, hp9]; rfl))
                  have HPR := Lib.hid (show fndR (parS X k) = -1 by rw [hp9]; rfl)
                  clear hz e1 hp9
                  go_wp2_with fail
                  refine wp_region_quiet (C := fun u => Below wr.heap.size wr u ∧ u.cell? p = some (.int .i64 x.1) ∧ u.cell? ⟨p.block, p.off + 1, none⟩ = some (.int .i64 x.2.1) ∧ u.cell? ⟨p.block, p.off + 2, none⟩ = some (.int .i64 x.2.2.1) ∧ u.cell? ⟨p.block, p.off + 3, none⟩ = some (.bool x.2.2.2) ∧ u.cell? p' = some (.int .i64 y.1)) (by kernel_rfl) (by kernel_rfl) (KE _ (Below.refl _ _).drew) ?_
                  rw [List.toList_toArray]
                  go_big_quiet_want
                  go_big_quiet_op
                  go_big_quiet_on
                  go_big_quiet_want
                  go_big_quiet_op
                  go_big_quiet_on
                  go_big_quiet_want
                  apply Exists.intro
                  refine ⟨fun u hu => ?_, ?_⟩
                  · obtain ⟨hu0, hu1, hu2, hu3, hu4, hu5⟩ := hu
                    unfold Oper.quietAt
                    go_simp
                    try rfl
                  simp only [Act.put, List.setIfInBounds_toArray, List.set_cons_zero, List.set_cons_succ]
                  go_big_quiet_on
                  go_big_quiet_want
                  apply Exists.intro
                  refine ⟨fun u hu => ?_, ?_⟩
                  · obtain ⟨hu0, hu1, hu2, hu3, hu4, hu5⟩ := hu
                    unfold Oper.quietAt
                    go_simp
                    try rfl
                  simp only [Act.put, List.setIfInBounds_toArray, List.set_cons_zero, List.set_cons_succ]
                  go_big_quiet_on
                  go_big_quiet_want
                  apply Exists.intro
                  refine ⟨fun u hu => ?_, ?_⟩
                  · obtain ⟨hu0, hu1, hu2, hu3, hu4, hu5⟩ := hu
                    unfold Oper.quietAt
                    go_simp
                    try rfl
                  simp only [Act.put, List.setIfInBounds_toArray, List.set_cons_zero, List.set_cons_succ]
                  go_big_quiet_on
                  go_big_quiet_want
                  refine ⟨.bool true, fun u hu => ?_, ?_⟩
                  · obtain ⟨hu0, hu1, hu2, hu3, hu4, hu5⟩ := hu
                    unfold Oper.quietAt
                    go_simp
                    refine (l1In_QS _ _ _ HI.out).mono ?_
                    rintro e u9 ⟨rfl, rfl⟩
                    exact ⟨rfl, ⟨hu0, hu1, hu2, hu3, hu4, hu5⟩⟩
                  simp only [Act.put, List.setIfInBounds_toArray, List.set_cons_zero, List.set_cons_succ]
                  go_big_quiet_on
                  go_big_quiet_want
                  apply Exists.intro
                  refine ⟨fun u hu => ?_, ?_⟩
                  · obtain ⟨hu0, hu1, hu2, hu3, hu4, hu5⟩ := hu
                    unfold Oper.quietAt
                    go_simp
                    try rfl
                  simp only [Act.put, List.setIfInBounds_toArray, List.set_cons_zero, List.set_cons_succ]
                  go_big_quiet_on
                  go_big_quiet_want
                  go_big_quiet_op
                  go_big_quiet_on
                  go_big_quiet_want
                  go_big_quiet_op
                  go_big_quiet_on
                  go_big_quiet_want
                  go_big_quiet_op
                  go_big_quiet_on
                  go_big_quiet_want
                  apply Exists.intro
                  refine ⟨fun u hu => ?_, ?_⟩
                  · obtain ⟨hu0, hu1, hu2, hu3, hu4, hu5⟩ := hu
                    unfold Oper.quietAt
                    go_simp
                    try rfl
                  simp only [Act.put, List.setIfInBounds_toArray, List.set_cons_zero, List.set_cons_succ]
                  go_big_quiet_on
                  go_big_quiet_want
                  apply Exists.intro
                  refine ⟨fun u hu => ?_, ?_⟩
                  · obtain ⟨hu0, hu1, hu2, hu3, hu4, hu5⟩ := hu
                    unfold Oper.quietAt
                    go_simp
                    try rfl
                  simp only [Act.put, List.setIfInBounds_toArray, List.set_cons_zero, List.set_cons_succ]
                  go_big_quiet_on
                  go_big_quiet_want
                  apply Exists.intro
                  refine ⟨fun u hu => ?_, ?_⟩
                  · obtain ⟨hu0, hu1, hu2, hu3, hu4, hu5⟩ := hu
                    unfold Oper.quietAt
                    go_simp
                    try rfl
                  simp only [Act.put, List.setIfInBounds_toArray, List.set_cons_zero, List.set_cons_succ]
                  go_big_quiet_on
                  go_big_quiet_want
                  refine ⟨.bool true, fun u hu => ?_, ?_⟩
                  · obtain ⟨hu0, hu1, hu2, hu3, hu4, hu5⟩ := hu
                    unfold Oper.quietAt
                    go_simp
                    refine (l1In_QS _ _ _ HW.out).mono ?_
                    rintro e u9 ⟨rfl, rfl⟩
                    exact ⟨rfl, ⟨hu0, hu1, hu2, hu3, hu4, hu5⟩⟩
                  simp only [Act.put, List.setIfInBounds_toArray, List.set_cons_zero, List.set_cons_succ]
                  go_big_quiet_on
                  go_big_quiet_want
                  apply Exists.intro
                  refine ⟨fun u hu => ?_, ?_⟩
                  · obtain ⟨hu0, hu1, hu2, hu3, hu4, hu5⟩ := hu
                    unfold Oper.quietAt
                    go_simp
                    try rfl
                  simp only [Act.put, List.setIfInBounds_toArray, List.set_cons_zero, List.set_cons_succ]
                  go_big_quiet_on
                  go_big_quiet_want
                  apply Exists.intro
                  refine ⟨fun u hu => ?_, ?_⟩
                  · obtain ⟨hu0, hu1, hu2, hu3, hu4, hu5⟩ := hu
                    unfold Oper.quietAt
                    go_simp
                    try rfl
                  simp only [Act.put, List.setIfInBounds_toArray, List.set_cons_zero, List.set_cons_succ]
                  go_big_quiet_on
                  go_big_quiet_want
                  go_big_quiet_op
                  go_big_quiet_on
                  go_big_quiet_want
                  go_big_quiet_op
                  go_big_quiet_on
                  go_big_quiet_want
                  apply Exists.intro
                  refine ⟨fun u hu => ?_, ?_⟩
                  · obtain ⟨hu0, hu1, hu2, hu3, hu4, hu5⟩ := hu
                    unfold Oper.quietAt
                    go_simp
                    try rfl
                  simp only [Act.put, List.setIfInBounds_toArray, List.set_cons_zero, List.set_cons_succ]
                  go_big_quiet_on
                  go_big_quiet_want
                  go_big_quiet_op
                  go_big_quiet_on
                  go_big_quiet_want
                  go_big_quiet_op
                  go_big_quiet_on
                  go_big_quiet_want
                  go_big_quiet_op
                  go_big_quiet_on
                  go_big_quiet_want
                  apply Exists.intro
                  refine ⟨fun u hu => ?_, ?_⟩
                  · obtain ⟨hu0, hu1, hu2, hu3, hu4, hu5⟩ := hu
                    unfold Oper.quietAt
                    go_simp
                    try rfl
                  simp only [Act.put, List.setIfInBounds_toArray, List.set_cons_zero, List.set_cons_succ]
                  go_big_quiet_on
                  go_big_quiet_want
                  apply Exists.intro
                  refine ⟨fun u hu => ?_, ?_⟩
                  · obtain ⟨hu0, hu1, hu2, hu3, hu4, hu5⟩ := hu
                    unfold Oper.quietAt
                    go_simp
                    try rfl
                  simp only [Act.put, List.setIfInBounds_toArray, List.set_cons_zero, List.set_cons_succ]
                  go_big_quiet_on
                  go_big_quiet_want
                  apply Exists.intro
                  refine ⟨fun u hu => ?_, ?_⟩
                  · obtain ⟨hu0, hu1, hu2, hu3, hu4, hu5⟩ := hu
                    unfold Oper.quietAt
                    go_simp
                    try rfl
                  simp only [Act.put, List.setIfInBounds_toArray, List.set_cons_zero, List.set_cons_succ]
                  go_big_quiet_on
                  go_big_quiet_want
                  apply Exists.intro
                  refine ⟨fun u hu => ?_, ?_⟩
                  · obtain ⟨hu0, hu1, hu2, hu3, hu4, hu5⟩ := hu
                    unfold Oper.quietAt
                    go_simp
                    try rfl
                  simp only [Act.put, List.setIfInBounds_toArray, List.set_cons_zero, List.set_cons_succ]
                  go_big_quiet_on
                  go_big_quiet_want
                  go_big_quiet_op
                  go_big_quiet_on
                  go_big_quiet_want
                  go_big_quiet_op
                  go_big_quiet_on
                  go_big_quiet_want
                  apply Exists.intro
                  refine ⟨fun u hu => ?_, ?_⟩
                  · obtain ⟨hu0, hu1, hu2, hu3, hu4, hu5⟩ := hu
                    unfold Oper.quietAt
                    go_simp
                    try rfl
                  simp only [Act.put, List.setIfInBounds_toArray, List.set_cons_zero, List.set_cons_succ]
                  go_big_quiet_on
                  go_big_quiet_want
                  apply Exists.intro
                  refine ⟨fun u hu => ?_, ?_⟩
                  · obtain ⟨hu0, hu1, hu2, hu3, hu4, hu5⟩ := hu
                    unfold Oper.quietAt
                    go_simp
                    try rfl
                  simp only [Act.put, List.setIfInBounds_toArray, List.set_cons_zero, List.set_cons_succ]
                  go_big_quiet_on
                  go_big_quiet_want
                  apply Exists.intro
                  refine ⟨fun u hu => ?_, ?_⟩
                  · obtain ⟨hu0, hu1, hu2, hu3, hu4, hu5⟩ := hu
                    unfold Oper.quietAt
                    go_simp
                    try rfl
                  simp only [Act.put, List.setIfInBounds_toArray, List.set_cons_zero, List.set_cons_succ]
                  go_big_quiet_on
                  go_big_quiet_want
                  apply Exists.intro
                  refine ⟨fun u hu => ?_, ?_⟩
                  · obtain ⟨hu0, hu1, hu2, hu3, hu4, hu5⟩ := hu
                    unfold Oper.quietAt
                    go_simp
                    try rfl
                  simp only [Act.put, List.setIfInBounds_toArray, List.set_cons_zero, List.set_cons_succ]
                  go_big_quiet_on
                  go_big_quiet_want
                  apply Exists.intro
                  refine ⟨fun u hu => ?_, ?_⟩
                  · obtain ⟨hu0, hu1, hu2, hu3, hu4, hu5⟩ := hu
                    unfold Oper.quietAt
                    go_simp
                    try rfl
                  simp only [Act.put, List.setIfInBounds_toArray, List.set_cons_zero, List.set_cons_succ]
                  go_big_quiet_on
                  go_big_quiet_want
                  apply Exists.intro
                  refine ⟨fun u hu => ?_, ?_⟩
                  · obtain ⟨hu0, hu1, hu2, hu3, hu4, hu5⟩ := hu
                    unfold Oper.quietAt
                    go_simp
                    try rfl
                  simp only [Act.put, List.setIfInBounds_toArray, List.set_cons_zero, List.set_cons_succ]
                  go_big_quiet_on
                  go_big_quiet_want
                  go_big_quiet_op
                  go_big_quiet_on
                  go_big_quiet_want
                  go_big_quiet_op
                  go_big_quiet_on
                  go_big_quiet_want
                  go_big_quiet_op
                  go_big_quiet_on
                  go_big_quiet_want
                  apply Exists.intro
                  refine ⟨fun u hu => ?_, ?_⟩
                  · obtain ⟨hu0, hu1, hu2, hu3, hu4, hu5⟩ := hu
                    unfold Oper.quietAt
                    go_simp
                    try rfl
                  simp only [Act.put, List.setIfInBounds_toArray, List.set_cons_zero, List.set_cons_succ]
                  go_big_quiet_on
                  go_big_quiet_want
                  apply Exists.intro
                  refine ⟨fun u hu => ?_, ?_⟩
                  · obtain ⟨hu0, hu1, hu2, hu3, hu4, hu5⟩ := hu
                    unfold Oper.quietAt
                    go_simp
                    try rfl
                  simp only [Act.put, List.setIfInBounds_toArray, List.set_cons_zero, List.set_cons_succ]
                  go_big_quiet_on
                  go_big_quiet_want
                  apply Exists.intro
                  refine ⟨fun u hu => ?_, ?_⟩
                  · obtain ⟨hu0, hu1, hu2, hu3, hu4, hu5⟩ := hu
                    unfold Oper.quietAt
                    go_simp
                    try rfl
                  simp only [Act.put, List.setIfInBounds_toArray, List.set_cons_zero, List.set_cons_succ]
                  go_big_quiet_on
                  go_big_quiet_want
                  apply Exists.intro
                  refine ⟨fun u hu => ?_, ?_⟩
                  · obtain ⟨hu0, hu1, hu2, hu3, hu4, hu5⟩ := hu
                    unfold Oper.quietAt
                    go_simp
                    try rfl
                  simp only [Act.put, List.setIfInBounds_toArray, List.set_cons_zero, List.set_cons_succ]
                  go_big_quiet_on
                  go_big_quiet_want
                  go_big_quiet_op
                  go_big_quiet_on
                  go_big_quiet_want
                  go_big_quiet_op
                  go_big_quiet_on
                  go_big_quiet_want
                  go_big_quiet_op
                  go_big_quiet_on
                  go_big_quiet_want
                  apply Exists.intro
                  refine ⟨fun u hu => ?_, ?_⟩
                  · obtain ⟨hu0, hu1, hu2, hu3, hu4, hu5⟩ := hu
                    unfold Oper.quietAt
                    go_simp
                    try rfl
                  simp only [Act.put, List.setIfInBounds_toArray, List.set_cons_zero, List.set_cons_succ]
                  go_big_quiet_on
                  go_big_quiet_want
                  go_big_quiet_op
                  go_big_quiet_on
                  go_big_quiet_want
                  go_big_quiet_op
                  go_big_quiet_on
                  go_big_quiet_want
                  apply Exists.intro
                  refine ⟨fun u hu => ?_, ?_⟩
                  · obtain ⟨hu0, hu1, hu2, hu3, hu4, hu5⟩ := hu
                    unfold Oper.quietAt
                    go_simp
                    try rfl
                  simp only [Act.put, List.setIfInBounds_toArray, List.set_cons_zero, List.set_cons_succ]
                  go_big_quiet_on
                  go_big_quiet_want
                  apply Exists.intro
                  refine ⟨fun u hu => ?_, ?_⟩
                  · obtain ⟨hu0, hu1, hu2, hu3, hu4, hu5⟩ := hu
                    unfold Oper.quietAt
                    go_simp
                    try rfl
                  simp only [Act.put, List.setIfInBounds_toArray, List.set_cons_zero, List.set_cons_succ]
                  go_big_quiet_on
                  go_big_quiet_want
                  apply Exists.intro
                  refine ⟨fun u hu => ?_, ?_⟩
                  · obtain ⟨hu0, hu1, hu2, hu3, hu4, hu5⟩ := hu
                    unfold Oper.quietAt
                    go_simp
                    try rfl
                  simp only [Act.put, List.setIfInBounds_toArray, List.set_cons_zero, List.set_cons_succ]
                  go_big_quiet_on
                  go_big_quiet_want
                  refine ⟨.int .i64 (-1), fun u hu => ?_, ?_⟩
                  · obtain ⟨hu0, hu1, hu2, hu3, hu4, hu5⟩ := hu
                    unfold Oper.quietAt
                    go_simp
                    refine (l26Find_any (X := X.take k) HTL (by omega) ((HRT.out.below hu0).more hu0.size)).mono ?_
                    rintro e u9 ⟨rfl, rfl⟩
                    rw [HPK.out, HPR.out]
                    exact ⟨rfl, ⟨hu0, hu1, hu2, hu3, hu4, hu5⟩⟩
                  simp only [Act.put, List.setIfInBounds_toArray, List.set_cons_zero, List.set_cons_succ]
                  go_big_quiet_on
                  go_big_quiet_want
                  apply Exists.intro
                  refine ⟨fun u hu => ?_, ?_⟩
                  · obtain ⟨hu0, hu1, hu2, hu3, hu4, hu5⟩ := hu
                    unfold Oper.quietAt
                    go_simp
                    try rfl
                  simp only [Act.put, List.setIfInBounds_toArray, List.set_cons_zero, List.set_cons_succ]
                  go_big_quiet_on
                  go_big_quiet_want
                  apply Exists.intro
                  refine ⟨fun u hu => ?_, ?_⟩
                  · obtain ⟨hu0, hu1, hu2, hu3, hu4, hu5⟩ := hu
                    unfold Oper.quietAt
                    go_simp
                    try rfl
                  simp only [Act.put, List.setIfInBounds_toArray, List.set_cons_zero, List.set_cons_succ]
                  go_big_quiet_on
                  go_big_quiet_want
                  apply Exists.intro
                  refine ⟨fun u hu => ?_, ?_⟩
                  · obtain ⟨hu0, hu1, hu2, hu3, hu4, hu5⟩ := hu
                    unfold Oper.quietAt
                    go_simp
                    try rfl
                  simp only [Act.put, List.setIfInBounds_toArray, List.set_cons_zero, List.set_cons_succ]
                  go_big_quiet_on
                  refine wpQuiet_nil ?_
                  rintro u ⟨r, _⟩
                  go_wp2_with fail
                  go_ret
                  exact ⟨ret_b HV.out.symm, hb.trans (r.mono hsz)⟩
                | some j =>
                  have HP := Lib.hid (And.intro (asc_snoc hall.out.1 (HASC.out)) (src_snoc hall.out.2 (show srcAt X k = true by rw [HAT.out, HW.out, hp9, e1]; rfl)))
                  have HPR := Lib.hid (show fndR (parS X k) = (j : Int) by rw [hp9]; rfl)
                  have j0 : ¬ (j : Int) < 0 := by omega
                  have j1 : (0 : Int) ≤ (j : Int) := by omega
                  clear hz e1 hp9
                  go_wp2_with fail
                  refine wp_region_quiet (C := fun u => Below wr.heap.size wr u ∧ u.cell? p = some (.int .i64 x.1) ∧ u.cell? ⟨p.block, p.off + 1, none⟩ = some (.int .i64 x.2.1) ∧ u.cell? ⟨p.block, p.off + 2, none⟩ = some (.int .i64 x.2.2.1) ∧ u.cell? ⟨p.block, p.off + 3, none⟩ = some (.bool x.2.2.2) ∧ u.cell? p' = some (.int .i64 y.1)) (by kernel_rfl) (by kernel_rfl) (KE _ (Below.refl _ _).drew) ?_
                  rw [List.toList_toArray]
                  go_big_quiet_want
                  go_big_quiet_op
                  go_big_quiet_on
                  go_big_quiet_want
                  go_big_quiet_op
                  go_big_quiet_on
                  go_big_quiet_want
                  apply Exists.intro
                  refine ⟨fun u hu => ?_, ?_⟩
                  · obtain ⟨hu0, hu1, hu2, hu3, hu4, hu5⟩ := hu
                    unfold Oper.quietAt
                    go_simp
                    try rfl
                  simp only [Act.put, List.setIfInBounds_toArray, List.set_cons_zero, List.set_cons_succ]
                  go_big_quiet_on
                  go_big_quiet_want
                  apply Exists.intro
                  refine ⟨fun u hu => ?_, ?_⟩
                  · obtain ⟨hu0, hu1, hu2, hu3, hu4, hu5⟩ := hu
                    unfold Oper.quietAt
                    go_simp
                    try rfl
                  simp only [Act.put, List.setIfInBounds_toArray, List.set_cons_zero, List.set_cons_succ]
                  go_big_quiet_on
                  go_big_quiet_want
                  apply Exists.intro
                  refine ⟨fun u hu => ?_, ?_⟩
                  · obtain ⟨hu0, hu1, hu2, hu3, hu4, hu5⟩ := hu
                    unfold Oper.quietAt
                    go_simp
                    try rfl
                  simp only [Act.put, List.setIfInBounds_toArray, List.set_cons_zero, List.set_cons_succ]
                  go_big_quiet_on
                  go_big_quiet_want
                  refine ⟨.bool true, fun u hu => ?_, ?_⟩
                  · obtain ⟨hu0, hu1, hu2, hu3, hu4, hu5⟩ := hu
                    unfold Oper.quietAt
                    go_simp
                    refine (l1In_QS _ _ _ HI.out).mono ?_
                    rintro e u9 ⟨rfl, rfl⟩
                    exact ⟨rfl, ⟨hu0, hu1, hu2, hu3, hu4, hu5⟩⟩
                  simp only [Act.put, List.setIfInBounds_toArray, List.set_cons_zero, List.set_cons_succ]
                  go_big_quiet_on
                  go_big_quiet_want
                  apply Exists.intro
                  refine ⟨fun u hu => ?_, ?_⟩
                  · obtain ⟨hu0, hu1, hu2, hu3, hu4, hu5⟩ := hu
                    unfold Oper.quietAt
                    go_simp
                    try rfl
                  simp only [Act.put, List.setIfInBounds_toArray, List.set_cons_zero, List.set_cons_succ]
                  go_big_quiet_on
                  go_big_quiet_want
                  go_big_quiet_op
                  go_big_quiet_on
                  go_big_quiet_want
                  go_big_quiet_op
                  go_big_quiet_on
                  go_big_quiet_want
                  go_big_quiet_op
                  go_big_quiet_on
                  go_big_quiet_want
                  apply Exists.intro
                  refine ⟨fun u hu => ?_, ?_⟩
                  · obtain ⟨hu0, hu1, hu2, hu3, hu4, hu5⟩ := hu
                    unfold Oper.quietAt
                    go_simp
                    try rfl
                  simp only [Act.put, List.setIfInBounds_toArray, List.set_cons_zero, List.set_cons_succ]
                  go_big_quiet_on
                  go_big_quiet_want
                  apply Exists.intro
                  refine ⟨fun u hu => ?_, ?_⟩
                  · obtain ⟨hu0, hu1, hu2, hu3, hu4, hu5⟩ := hu
                    unfold Oper.quietAt
                    go_simp
                    try rfl
                  simp only [Act.put, List.setIfInBounds_toArray, List.set_cons_zero, List.set_cons_succ]
                  go_big_quiet_on
                  go_big_quiet_want
                  apply Exists.intro
                  refine ⟨fun u hu => ?_, ?_⟩
                  · obtain ⟨hu0, hu1, hu2, hu3, hu4, hu5⟩ := hu
                    unfold Oper.quietAt
                    go_simp
                    try rfl
                  simp only [Act.put, List.setIfInBounds_toArray, List.set_cons_zero, List.set_cons_succ]
                  go_big_quiet_on
                  go_big_quiet_want
                  refine ⟨.bool true, fun u hu => ?_, ?_⟩
                  · obtain ⟨hu0, hu1, hu2, hu3, hu4, hu5⟩ := hu
                    unfold Oper.quietAt
                    go_simp
                    refine (l1In_QS _ _ _ HW.out).mono ?_
                    rintro e u9 ⟨rfl, rfl⟩
                    exact ⟨rfl, ⟨hu0, hu1, hu2, hu3, hu4, hu5⟩⟩
                  simp only [Act.put, List.setIfInBounds_toArray, List.set_cons_zero, List.set_cons_succ]
                  go_big_quiet_on
                  go_big_quiet_want
                  apply Exists.intro
                  refine ⟨fun u hu => ?_, ?_⟩
                  · obtain ⟨hu0, hu1, hu2, hu3, hu4, hu5⟩ := hu
                    unfold Oper.quietAt
                    go_simp
                    try rfl
                  simp only [Act.put, List.setIfInBounds_toArray, List.set_cons_zero, List.set_cons_succ]
                  go_big_quiet_on
                  go_big_quiet_want
                  apply Exists.intro
                  refine ⟨fun u hu => ?_, ?_⟩
                  · obtain ⟨hu0, hu1, hu2, hu3, hu4, hu5⟩ := hu
                    unfold Oper.quietAt
                    go_simp
                    try rfl
                  simp only [Act.put, List.setIfInBounds_toArray, List.set_cons_zero, List.set_cons_succ]
                  go_big_quiet_on
                  go_big_quiet_want
                  go_big_quiet_op
                  go_big_quiet_on
                  go_big_quiet_want
                  go_big_quiet_op
                  go_big_quiet_on
                  go_big_quiet_want
                  apply Exists.intro
                  refine ⟨fun u hu => ?_, ?_⟩
                  · obtain ⟨hu0, hu1, hu2, hu3, hu4, hu5⟩ := hu
                    unfold Oper.quietAt
                    go_simp
                    try rfl
                  simp only [Act.put, List.setIfInBounds_toArray, List.set_cons_zero, List.set_cons_succ]
                  go_big_quiet_on
                  go_big_quiet_want
                  go_big_quiet_op
                  go_big_quiet_on
                  go_big_quiet_want
                  go_big_quiet_op
                  go_big_quiet_on
                  go_big_quiet_want
                  go_big_quiet_op
                  go_big_quiet_on
                  go_big_quiet_want
                  apply Exists.intro
                  refine ⟨fun u hu => ?_, ?_⟩
                  · obtain ⟨hu0, hu1, hu2, hu3, hu4, hu5⟩ := hu
                    unfold Oper.quietAt
                    go_simp
                    try rfl
                  simp only [Act.put, List.setIfInBounds_toArray, List.set_cons_zero, List.set_cons_succ]
                  go_big_quiet_on
                  go_big_quiet_want
                  apply Exists.intro
                  refine ⟨fun u hu => ?_, ?_⟩
                  · obtain ⟨hu0, hu1, hu2, hu3, hu4, hu5⟩ := hu
                    unfold Oper.quietAt
                    go_simp
                    try rfl
                  simp only [Act.put, List.setIfInBounds_toArray, List.set_cons_zero, List.set_cons_succ]
                  go_big_quiet_on
                  go_big_quiet_want
                  apply Exists.intro
                  refine ⟨fun u hu => ?_, ?_⟩
                  · obtain ⟨hu0, hu1, hu2, hu3, hu4, hu5⟩ := hu
                    unfold Oper.quietAt
                    go_simp
                    try rfl
                  simp only [Act.put, List.setIfInBounds_toArray, List.set_cons_zero, List.set_cons_succ]
                  go_big_quiet_on
                  go_big_quiet_want
                  apply Exists.intro
                  refine ⟨fun u hu => ?_, ?_⟩
                  · obtain ⟨hu0, hu1, hu2, hu3, hu4, hu5⟩ := hu
                    unfold Oper.quietAt
                    go_simp
                    try rfl
                  simp only [Act.put, List.setIfInBounds_toArray, List.set_cons_zero, List.set_cons_succ]
                  go_big_quiet_on
                  go_big_quiet_want
                  go_big_quiet_op
                  go_big_quiet_on
                  go_big_quiet_want
                  go_big_quiet_op
                  go_big_quiet_on
                  go_big_quiet_want
                  apply Exists.intro
                  refine ⟨fun u hu => ?_, ?_⟩
                  · obtain ⟨hu0, hu1, hu2, hu3, hu4, hu5⟩ := hu
                    unfold Oper.quietAt
                    go_simp
                    try rfl
                  simp only [Act.put, List.setIfInBounds_toArray, List.set_cons_zero, List.set_cons_succ]
                  go_big_quiet_on
                  go_big_quiet_want
                  apply Exists.intro
                  refine ⟨fun u hu => ?_, ?_⟩
                  · obtain ⟨hu0, hu1, hu2, hu3, hu4, hu5⟩ := hu
                    unfold Oper.quietAt
                    go_simp
                    try rfl
                  simp only [Act.put, List.setIfInBounds_toArray, List.set_cons_zero, List.set_cons_succ]
                  go_big_quiet_on
                  go_big_quiet_want
                  apply Exists.intro
                  refine ⟨fun u hu => ?_, ?_⟩
                  · obtain ⟨hu0, hu1, hu2, hu3, hu4, hu5⟩ := hu
                    unfold Oper.quietAt
                    go_simp
                    try rfl
                  simp only [Act.put, List.setIfInBounds_toArray, List.set_cons_zero, List.set_cons_succ]
                  go_big_quiet_on
                  go_big_quiet_want
                  apply Exists.intro
                  refine ⟨fun u hu => ?_, ?_⟩
                  · obtain ⟨hu0, hu1, hu2, hu3, hu4, hu5⟩ := hu
                    unfold Oper.quietAt
                    go_simp
                    try rfl
                  simp only [Act.put, List.setIfInBounds_toArray, List.set_cons_zero, List.set_cons_succ]
                  go_big_quiet_on
                  go_big_quiet_want
                  apply Exists.intro
                  refine ⟨fun u hu => ?_, ?_⟩
                  · obtain ⟨hu0, hu1, hu2, hu3, hu4, hu5⟩ := hu
                    unfold Oper.quietAt
                    go_simp
                    try rfl
                  simp only [Act.put, List.setIfInBounds_toArray, List.set_cons_zero, List.set_cons_succ]
                  go_big_quiet_on
                  go_big_quiet_want
                  apply Exists.intro
                  refine ⟨fun u hu => ?_, ?_⟩
                  · obtain ⟨hu0, hu1, hu2, hu3, hu4, hu5⟩ := hu
                    unfold Oper.quietAt
                    go_simp
                    try rfl
                  simp only [Act.put, List.setIfInBounds_toArray, List.set_cons_zero, List.set_cons_succ]
                  go_big_quiet_on
                  go_big_quiet_want
                  go_big_quiet_op
                  go_big_quiet_on
                  go_big_quiet_want
                  go_big_quiet_op
                  go_big_quiet_on
                  go_big_quiet_want
                  go_big_quiet_op
                  go_big_quiet_on
                  go_big_quiet_want
                  apply Exists.intro
                  refine ⟨fun u hu => ?_, ?_⟩
                  · obtain ⟨hu0, hu1, hu2, hu3, hu4, hu5⟩ := hu
                    unfold Oper.quietAt
                    go_simp
                    try rfl
                  simp only [Act.put, List.setIfInBounds_toArray, List.set_cons_zero, List.set_cons_succ]
                  go_big_quiet_on
                  go_big_quiet_want
                  apply Exists.intro
                  refine ⟨fun u hu => ?_, ?_⟩
                  · obtain ⟨hu0, hu1, hu2, hu3, hu4, hu5⟩ := hu
                    unfold Oper.quietAt
                    go_simp
                    try rfl
                  simp only [Act.put, List.setIfInBounds_toArray, List.set_cons_zero, List.set_cons_succ]
                  go_big_quiet_on
                  go_big_quiet_want
                  apply Exists.intro
                  refine ⟨fun u hu => ?_, ?_⟩
                  · obtain ⟨hu0, hu1, hu2, hu3, hu4, hu5⟩ := hu
                    unfold Oper.quietAt
                    go_simp
                    try rfl
                  simp only [Act.put, List.setIfInBounds_toArray, List.set_cons_zero, List.set_cons_succ]
                  go_big_quiet_on
                  go_big_quiet_want
                  apply Exists.intro
                  refine ⟨fun u hu => ?_, ?_⟩
                  · obtain ⟨hu0, hu1, hu2, hu3, hu4, hu5⟩ := hu
                    unfold Oper.quietAt
                    go_simp
                    try rfl
                  simp only [Act.put, List.setIfInBounds_toArray, List.set_cons_zero, List.set_cons_succ]
                  go_big_quiet_on
                  go_big_quiet_want
                  go_big_quiet_op
                  go_big_quiet_on
                  go_big_quiet_want
                  go_big_quiet_op
                  go_big_quiet_on
                  go_big_quiet_want
                  go_big_quiet_op
                  go_big_quiet_on
                  go_big_quiet_want
                  apply Exists.intro
                  refine ⟨fun u hu => ?_, ?_⟩
                  · obtain ⟨hu0, hu1, hu2, hu3, hu4, hu5⟩ := hu
                    unfold Oper.quietAt
                    go_simp
                    try rfl
                  simp only [Act.put, List.setIfInBounds_toArray, List.set_cons_zero, List.set_cons_succ]
                  go_big_quiet_on
                  go_big_quiet_want
                  go_big_quiet_op
                  go_big_quiet_on
                  go_big_quiet_want
                  go_big_quiet_op
                  go_big_quiet_on
                  go_big_quiet_want
                  apply Exists.intro
                  refine ⟨fun u hu => ?_, ?_⟩
                  · obtain ⟨hu0, hu1, hu2, hu3, hu4, hu5⟩ := hu
                    unfold Oper.quietAt
                    go_simp
                    try rfl
                  simp only [Act.put, List.setIfInBounds_toArray, List.set_cons_zero, List.set_cons_succ]
                  go_big_quiet_on
                  go_big_quiet_want
                  apply Exists.intro
                  refine ⟨fun u hu => ?_, ?_⟩
                  · obtain ⟨hu0, hu1, hu2, hu3, hu4, hu5⟩ := hu
                    unfold Oper.quietAt
                    go_simp
                    try rfl
                  simp only [Act.put, List.setIfInBounds_toArray, List.set_cons_zero, List.set_cons_succ]
                  go_big_quiet_on
                  go_big_quiet_want
                  apply Exists.intro
                  refine ⟨fun u hu => ?_, ?_⟩
                  · obtain ⟨hu0, hu1, hu2, hu3, hu4, hu5⟩ := hu
                    unfold Oper.quietAt
                    go_simp
                    try rfl
                  simp only [Act.put, List.setIfInBounds_toArray, List.set_cons_zero, List.set_cons_succ]
                  go_big_quiet_on
                  go_big_quiet_want
                  refine ⟨.int .i64 (j : Int), fun u hu => ?_, ?_⟩
                  · obtain ⟨hu0, hu1, hu2, hu3, hu4, hu5⟩ := hu
                    unfold Oper.quietAt
                    go_simp
                    refine (l26Find_any (X := X.take k) HTL (by omega) ((HRT.out.below hu0).more hu0.size)).mono ?_
                    rintro e u9 ⟨rfl, rfl⟩
                    rw [HPK.out, HPR.out]
                    exact ⟨rfl, ⟨hu0, hu1, hu2, hu3, hu4, hu5⟩⟩
                  simp only [Act.put, List.setIfInBounds_toArray, List.set_cons_zero, List.set_cons_succ]
                  go_big_quiet_on
                  go_big_quiet_want
                  apply Exists.intro
                  refine ⟨fun u hu => ?_, ?_⟩
                  · obtain ⟨hu0, hu1, hu2, hu3, hu4, hu5⟩ := hu
                    unfold Oper.quietAt
                    go_simp
                    try rfl
                  simp only [Act.put, List.setIfInBounds_toArray, List.set_cons_zero, List.set_cons_succ]
                  go_big_quiet_on
                  go_big_quiet_want
                  apply Exists.intro
                  refine ⟨fun u hu => ?_, ?_⟩
                  · obtain ⟨hu0, hu1, hu2, hu3, hu4, hu5⟩ := hu
                    unfold Oper.quietAt
                    go_simp
                    try rfl
                  simp only [Act.put, List.setIfInBounds_toArray, List.set_cons_zero, List.set_cons_succ]
                  go_big_quiet_on
                  go_big_quiet_want
                  apply Exists.intro
                  refine ⟨fun u hu => ?_, ?_⟩
                  · obtain ⟨hu0, hu1, hu2, hu3, hu4, hu5⟩ := hu
                    unfold Oper.quietAt
                    go_simp
                    try rfl
                  simp only [Act.put, List.setIfInBounds_toArray, List.set_cons_zero, List.set_cons_succ]
                  go_big_quiet_on
                  refine wpQuiet_nil ?_
                  rintro u ⟨r, _⟩
                  go_wp2_with fail
                  go_roundw
                  case rel => exact ⟨k + 1, by omega, by go_num, HP, hb.trans (r.mono hsz)⟩
                  case measure => simp [intOf]; omega
            · have d1 : decide (x.1 ≤ y.1) = true := decide_eq_true (by omega)
              have HV := Lib.hid (src_noasc (asc_no hki (HA.out.trans (decide_eq_false hxy))))
              go_wp2_with fail
              refine wp_region_quiet (C := fun u => Below wr.heap.size wr u ∧ u.cell? p = some (.int .i64 x.1) ∧ u.cell? ⟨p.block, p.off + 1, none⟩ = some (.int .i64 x.2.1) ∧ u.cell? ⟨p.block, p.off + 2, none⟩ = some (.int .i64 x.2.2.1) ∧ u.cell? ⟨p.block, p.off + 3, none⟩ = some (.bool x.2.2.2) ∧ u.cell? p' = some (.int .i64 y.1)) (by kernel_rfl) (by kernel_rfl) (KE _ (Below.refl _ _).drew) ?_
              rw [List.toList_toArray]
              go_big_quiet_want
              go_big_quiet_op
              go_big_quiet_on
              go_big_quiet_want
              go_big_quiet_op
              go_big_quiet_on
              go_big_quiet_want
              apply Exists.intro
              refine ⟨fun u hu => ?_, ?_⟩
              · obtain ⟨hu0, hu1, hu2, hu3, hu4, hu5⟩ := hu
                unfold Oper.quietAt
                go_simp
                try rfl
              simp only [Act.put, List.setIfInBounds_toArray, List.set_cons_zero, List.set_cons_succ]
              go_big_quiet_on
              go_big_quiet_want
              apply Exists.intro
              refine ⟨fun u hu => ?_, ?_⟩
              · obtain ⟨hu0, hu1, hu2, hu3, hu4, hu5⟩ := hu
                unfold Oper.quietAt
                go_simp
                try rfl
              simp only [Act.put, List.setIfInBounds_toArray, List.set_cons_zero, List.set_cons_succ]
              go_big_quiet_on
              go_big_quiet_want
              apply Exists.intro
              refine ⟨fun u hu => ?_, ?_⟩
              · obtain ⟨hu0, hu1, hu2, hu3, hu4, hu5⟩ := hu
                unfold Oper.quietAt
                go_simp
                try rfl
              simp only [Act.put, List.setIfInBounds_toArray, List.set_cons_zero, List.set_cons_succ]
              go_big_quiet_on
              go_big_quiet_want
              refine ⟨.bool true, fun u hu => ?_, ?_⟩
              · obtain ⟨hu0, hu1, hu2, hu3, hu4, hu5⟩ := hu
                unfold Oper.quietAt
                go_simp
                refine (l1In_QS _ _ _ HI.out).mono ?_
                rintro e u9 ⟨rfl, rfl⟩
                exact ⟨rfl, ⟨hu0, hu1, hu2, hu3, hu4, hu5⟩⟩
              simp only [Act.put, List.setIfInBounds_toArray, List.set_cons_zero, List.set_cons_succ]
              go_big_quiet_on
              go_big_quiet_want
              apply Exists.intro
              refine ⟨fun u hu => ?_, ?_⟩
              · obtain ⟨hu0, hu1, hu2, hu3, hu4, hu5⟩ := hu
                unfold Oper.quietAt
                go_simp
                try rfl
              simp only [Act.put, List.setIfInBounds_toArray, List.set_cons_zero, List.set_cons_succ]
              go_big_quiet_on
              go_big_quiet_want
              go_big_quiet_op
              go_big_quiet_on
              go_big_quiet_want
              go_big_quiet_op
              go_big_quiet_on
              go_big_quiet_want
              go_big_quiet_op
              go_big_quiet_on
              go_big_quiet_want
              apply Exists.intro
              refine ⟨fun u hu => ?_, ?_⟩
              · obtain ⟨hu0, hu1, hu2, hu3, hu4, hu5⟩ := hu
                unfold Oper.quietAt
                go_simp
                try rfl
              simp only [Act.put, List.setIfInBounds_toArray, List.set_cons_zero, List.set_cons_succ]
              go_big_quiet_on
              go_big_quiet_want
              apply Exists.intro
              refine ⟨fun u hu => ?_, ?_⟩
              · obtain ⟨hu0, hu1, hu2, hu3, hu4, hu5⟩ := hu
                unfold Oper.quietAt
                go_simp
                try rfl
              simp only [Act.put, List.setIfInBounds_toArray, List.set_cons_zero, List.set_cons_succ]
              go_big_quiet_on
              go_big_quiet_want
              apply Exists.intro
              refine ⟨fun u hu => ?_, ?_⟩
              · obtain ⟨hu0, hu1, hu2, hu3, hu4, hu5⟩ := hu
                unfold Oper.quietAt
                go_simp
                try rfl
              simp only [Act.put, List.setIfInBounds_toArray, List.set_cons_zero, List.set_cons_succ]
              go_big_quiet_on
              go_big_quiet_want
              refine ⟨.bool true, fun u hu => ?_, ?_⟩
              · obtain ⟨hu0, hu1, hu2, hu3, hu4, hu5⟩ := hu
                unfold Oper.quietAt
                go_simp
                refine (l1In_QS _ _ _ HW.out).mono ?_
                rintro e u9 ⟨rfl, rfl⟩
                exact ⟨rfl, ⟨hu0, hu1, hu2, hu3, hu4, hu5⟩⟩
              simp only [Act.put, List.setIfInBounds_toArray, List.set_cons_zero, List.set_cons_succ]
              go_big_quiet_on
              go_big_quiet_want
              apply Exists.intro
              refine ⟨fun u hu => ?_, ?_⟩
              · obtain ⟨hu0, hu1, hu2, hu3, hu4, hu5⟩ := hu
                unfold Oper.quietAt
                go_simp
                try rfl
              simp only [Act.put, List.setIfInBounds_toArray, List.set_cons_zero, List.set_cons_succ]
              go_big_quiet_on
              go_big_quiet_want
              apply Exists.intro
              refine ⟨fun u hu => ?_, ?_⟩
              · obtain ⟨hu0, hu1, hu2, hu3, hu4, hu5⟩ := hu
                unfold Oper.quietAt
                go_simp
                try rfl
              simp only [Act.put, List.setIfInBounds_toArray, List.set_cons_zero, List.set_cons_succ]
              go_big_quiet_on
              go_big_quiet_want
              go_big_quiet_op
              go_big_quiet_on
              go_big_quiet_want
              go_big_quiet_op
              go_big_quiet_on
              go_big_quiet_want
              apply Exists.intro
              refine ⟨fun u hu => ?_, ?_⟩
              · obtain ⟨hu0, hu1, hu2, hu3, hu4, hu5⟩ := hu
                unfold Oper.quietAt
                go_simp
                try rfl
              simp only [Act.put, List.setIfInBounds_toArray, List.set_cons_zero, List.set_cons_succ]
              go_big_quiet_on
              go_big_quiet_want
              go_big_quiet_op
              go_big_quiet_on
              go_big_quiet_want
              go_big_quiet_op
              go_big_quiet_on
              go_big_quiet_want
              go_big_quiet_op
              go_big_quiet_on
              go_big_quiet_want
              apply Exists.intro
              refine ⟨fun u hu => ?_, ?_⟩
              · obtain ⟨hu0, hu1, hu2, hu3, hu4, hu5⟩ := hu
                unfold Oper.quietAt
                go_simp
                try rfl
              simp only [Act.put, List.setIfInBounds_toArray, List.set_cons_zero, List.set_cons_succ]
              go_big_quiet_on
              go_big_quiet_want
              apply Exists.intro
              refine ⟨fun u hu => ?_, ?_⟩
              · obtain ⟨hu0, hu1, hu2, hu3, hu4, hu5⟩ := hu
                unfold Oper.quietAt
                go_simp
                try rfl
              simp only [Act.put, List.setIfInBounds_toArray, List.set_cons_zero, List.set_cons_succ]
              go_big_quiet_on
              go_big_quiet_want
              apply Exists.intro
              refine ⟨fun u hu => ?_, ?_⟩
              · obtain ⟨hu0, hu1, hu2, hu3, hu4, hu5⟩ := hu
                unfold Oper.quietAt
                go_simp
                try rfl
              simp only [Act.put, List.setIfInBounds_toArray, List.set_cons_zero, List.set_cons_succ]
              go_big_quiet_on
              go_big_quiet_want
              apply Exists.intro
              refine ⟨fun u hu => ?_, ?_⟩
              · obtain ⟨hu0, hu1, hu2, hu3, hu4, hu5⟩ := hu
                unfold Oper.quietAt
                go_simp
                try rfl
              simp only [Act.put, List.setIfInBounds_toArray, List.set_cons_zero, List.set_cons_succ]
              go_big_quiet_on
              go_big_quiet_want
              go_big_quiet_op
              go_big_quiet_on
              go_big_quiet_want
              go_big_quiet_op
              go_big_quiet_on
              go_big_quiet_want
              apply Exists.intro
              refine ⟨fun u hu => ?_, ?_⟩
              · obtain ⟨hu0, hu1, hu2, hu3, hu4, hu5⟩ := hu
                unfold Oper.quietAt
                go_simp
                try rfl
              simp only [Act.put, List.setIfInBounds_toArray, List.set_cons_zero, List.set_cons_succ]
              go_big_quiet_on
              go_big_quiet_want
              apply Exists.intro
              refine ⟨fun u hu => ?_, ?_⟩
              · obtain ⟨hu0, hu1, hu2, hu3, hu4, hu5⟩ := hu
                unfold Oper.quietAt
                go_simp
                try rfl
              simp only [Act.put, List.setIfInBounds_toArray, List.set_cons_zero, List.set_cons_succ]
              go_big_quiet_on
              go_big_quiet_want
              apply Exists.intro
              refine ⟨fun u hu => ?_, ?_⟩
              · obtain ⟨hu0, hu1, hu2, hu3, hu4, hu5⟩ := hu
                unfold Oper.quietAt
                go_simp
                try rfl
              simp only [Act.put, List.setIfInBounds_toArray, List.set_cons_zero, List.set_cons_succ]
              go_big_quiet_on
              go_big_quiet_want
              apply Exists.intro
              refine ⟨fun u hu => ?_, ?_⟩
              · obtain ⟨hu0, hu1, hu2, hu3, hu4, hu5⟩ := hu
                unfold Oper.quietAt
                go_simp
                try rfl
              simp only [Act.put, List.setIfInBounds_toArray, List.set_cons_zero, List.set_cons_succ]
              go_big_quiet_on
              go_big_quiet_want
              apply Exists.intro
              refine ⟨fun u hu => ?_, ?_⟩
              · obtain ⟨hu0, hu1, hu2, hu3, hu4, hu5⟩ := hu
                unfold Oper.quietAt
                go_simp
                try rfl
              simp only [Act.put, List.setIfInBounds_toArray, List.set_cons_zero, List.set_cons_succ]
              go_big_quiet_on
              go_big_quiet_want
              apply Exists.intro
              refine ⟨fun u hu => ?_, ?_⟩
              · obtain ⟨hu0, hu1, hu2, hu3, hu4, hu5⟩ := hu
                unfold Oper.quietAt
                go_simp
                try rfl
              simp only [Act.put, List.setIfInBounds_toArray, List.set_cons_zero, List.set_cons_succ]
              go_big_quiet_on
              go_big_quiet_want
              go_big_quiet_op
              go_big_quiet_on
              repeat go_big_quiet_skip
              go_big_quiet_want
              apply Exists.intro
              refine ⟨fun u hu => ?_, ?_⟩
              · obtain ⟨hu0, hu1, hu2, hu3, hu4, hu5⟩ := hu
                unfold Oper.quietAt
                go_simp
                try rfl
              simp only [Act.put, List.setIfInBounds_toArray, List.set_cons_zero, List.set_cons_succ]
              go_big_quiet_on
              refine wpQuiet_nil ?_
              rintro u ⟨r, _⟩
              go_wp2_with fail
              go_ret
              exact ⟨ret_b HV.out.symm, hb.trans (r.mono hsz)⟩
    · have e : k = n := by omega
      subst e
      have HVV := Lib.hid (show srcB X = decide ((k : Int) ≤ 15) by
        have h1 : ascB (X.map (·.1)) = true := asc_end (by simpa using hl.out) hall.out.1
        unfold srcB
        rw [h1, show (List.range X.length).all (srcAt X) = true by rw [hl.out]; exact hall.out.2, hl.out, Bool.and_true, Bool.and_true]
        exact decide_eq_decide.2 (by omega))
      go_wp2_with fail
      go_ret
      exact ⟨ret_b HVV.out.symm, hb⟩
end
end Go.Proofs.Ytdhnhhicjjcmdaa
