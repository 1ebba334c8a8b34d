/- Contracts of the code's RepeatsOf and IsTwisted (chapter 26). Condition: the slice has at most 2^40 elements. -/
import Derived.Test.YtdhnhhicjjcmdaaSrcC
import Derived.Test.YtdhnhhicjjcmdaaInts
import Derived.BigQuiet
import Derived.Deep.Quiet
namespace Go.Proofs.Ytdhnhhicjjcmdaa
open Go.ChangeShapes Go.WideShapes Go.ChangeAt Go.RowKit
set_option maxRecDepth 100000
theorem nwE {w w' : World} {p : Addr} {v : Value} (r : Below w.heap.size w w') (h : w.cell? p = some v) : w'.cell? p = some v := (r.cell (p := p) (cell_lt h)).trans h
theorem alloc_e (w : World) (o : Obj) : Below w.heap.size w (w.alloc o) := (Below.refl _ _).alloc (Nat.le_refl _) _
theorem rpt_no {X : List Src} {id : Int} (h : srcB X = false) : rptL X id = [] := by unfold rptL; rw [h]; rfl
theorem rpt_ok {X : List Src} {id : Int} (h : srcB X = true) : rptL X id = rptP X id X.length := if_pos h
theorem rpt_none {X : List Src} {id : Int} {k : Nat} (h : parS X k = none) : rptK X id k = false := by unfold rptK; rw [h]; rfl
theorem rpt_some {X : List Src} {id : Int} {k j : Nat} (h : parS X k = some j) (hr : rootS X k < X.length) : rptK X id k = (X[rootS X k].1 == id) := by unfold rptK; rw [h, getS hr]; rfl
theorem rptP_succ {X : List Src} {id : Int} {k : Nat} (hk : k < X.length) : rptP X id (k + 1) = if rptK X id k then rptP X id k ++ [X[k].1] else rptP X id k := by rw [rptP, getS hk]
section
variable {w : World} {A : Option Addr} {n c : Nat} {X : List Src}
set_option maxHeartbeats 2000000 in
theorem impRepeatsOf_any {id : Int} (hl : Hid (X.length = n)) (hn : n ≤ 1099511627776) (hr : Rd w w.heap.size A (flE srcE X)) :
    Calls Try.prog 21 #[.slice A n c, .int .i64 id] w (fun e w' => ∃ v, e = .returned v ∧ Row w' w.heap.size w'.heap.size 3 v (ivs (rptL X id)) ∧ Below w.heap.size w w') := by
  obtain ⟨ii, hi, hz0, hz1, hz2⟩ := info_parts IntS_info
  go_enter Try.func21, Try.ntmps21
  go_wp2_with fail
  refine (forestOf_any hl hn hr).mono ?_
  rintro e w1 ⟨hb, ⟨hB, rfl⟩ | ⟨hB, v, bs, rfl, hbl, hrow, hf, hinc⟩⟩
  · have HROW0 := Lib.hid ((Row.made (w := w1) w1.heap.size #[] 0 3 (Nat.le_refl _) rfl (Nat.zero_le _)).wide (lo' := w.heap.size) hb.size (hi' := (w1.alloc (Obj.cells #[] 3)).heap.size) (by simp))
    have HV := Lib.hid (rpt_no (id := id) hB)
    have hb0 := hb.trans ((alloc_e w1 (Obj.cells #[] 3)).mono hb.size)
    clear hB
    go_wp2_with fail
    go_loopw [7, 18] (fun v i wr => i = .int .i64 0 ∧ Hid (Row wr w.heap.size wr.heap.size 3 v (ivs (rptL X id))) ∧ Below w.heap.size w wr) (fun _ _ _ => 0)
    case atStart => exact ⟨rfl, Lib.hid (by rw [HV.out]; exact HROW0.out), hb0⟩
    case round =>
      obtain ⟨rfl, hrow, hb2⟩ := hrel
      clear hb0 HROW0
      go_wp2_with fail
      go_ret
      exact ⟨_, rfl, hrow.out, hb2⟩
  · have HBL := Lib.hid (show bs.length = n from hbl.trans hl.out)
    obtain ⟨Av, cv, rfl, hrd, _, _⟩ := hrow.rd (n := n) (by rw [pts_len]; exact HBL.out)
    have HRD := Lib.hid hrd
    have HF := Lib.hid hf
    have HI := Lib.hid hinc
    have HV := Lib.hid (rpt_ok (id := id) hB)
    have HROW0 := Lib.hid ((Row.made (w := w1) w1.heap.size #[] 0 3 (Nat.le_refl _) rfl (Nat.zero_le _)).wide (lo' := w1.heap.size) (Nat.le_refl _) (hi' := (w1.alloc (Obj.cells #[] 3)).heap.size) (by simp))
    have hb0 := alloc_e w1 (Obj.cells #[] 3)
    clear hB hrow hrd hf hinc
    go_wp2_with fail
    go_loopw [7, 18] (fun v i wr => ∃ k : Nat, k ≤ n ∧ i = .int .i64 k ∧ Hid (Row wr w1.heap.size wr.heap.size 3 v (ivs (rptP X id k))) ∧ Below w1.heap.size w1 wr) (fun _ i _ => n - (intOf i).toNat)
    case atStart => exact ⟨0, Nat.zero_le _, rfl, Lib.hid HROW0.out, hb0⟩
    case round =>
      obtain ⟨k, hk, rfl, hrow, hbr⟩ := hrel
      clear hb0 HROW0
      by_cases hlt : k < n
      · have hkx : k < X.length := by rw [hl.out]; exact hlt
        have hkb : k < bs.length := by rw [HBL.out]; exact hlt
        obtain ⟨ad, rfl, hab, hc⟩ := pts_at (HRD.out.below hbr) hkb
        have HFR := Lib.hid (HF.out.new hbr)
        obtain ⟨_, _, bx⟩ := HFR.out k bs[k] X[k] (List.getElem?_eq_getElem hkb) (List.getElem?_eq_getElem hkx)
        obtain ⟨b0, _, _, _, b4⟩ := bx.k5
        have i0 : (0 : Int) ≤ (k : Int) := by omega
        have i1 : (k : Int) < (n : Int) := by omega
        have HS := Lib.hid (rptP_succ (id := id) hkx)
        have HPL := Lib.hid (fun j (h : parS X k = some j) => par_lt h)
        have HBB := Lib.hid (List.getElem?_eq_getElem hkb)
        obtain ⟨x, hx⟩ : ∃ x, x = X[k].1 := ⟨_, rfl⟩
        obtain ⟨b, hbb⟩ : ∃ b, b = bs[k] := ⟨_, rfl⟩
        rw [← hx] at b0 HS
        rw [← hbb] at hc b0 b4 HBB
        clear hx bx hbb
        have hbX : bs.length ≤ X.length := by rw [HBL.out, hl.out]; exact Nat.le_refl _
        cases hp : parS X k with
        | none =>
          have HN := Lib.hid (show rptP X id (k + 1) = rptP X id k by rw [HS.out, rpt_none hp]; rfl)
          rw [show ptrV ((parS X k).bind fun j => bs[j]?) = .pointer none by rw [hp]; rfl] at b4
          clear hp
          go_wp2_with fail
          go_roundw
          case rel => exact ⟨k + 1, by omega, by go_num, by rw [HN.out]; exact hrow, hbr⟩
          case measure => simp [intOf]; omega
        | some j =>
          have hjb : j < bs.length := by have := HPL.out j hp; omega
          have hrx : rootS X k < X.length := Nat.lt_of_le_of_lt (root_le X k) hkx
          have HR := Lib.hid (rpt_some (id := id) hp hrx)
          rw [show ptrV ((parS X k).bind fun j => bs[j]?) = .pointer (some ⟨bs[j], 0, none⟩) by rw [hp]; simp [ptrV, List.getElem?_eq_getElem hjb]] at b4
          obtain ⟨q, hq⟩ : ∃ q, q = bs[j] := ⟨_, rfl⟩
          rw [← hq] at b4
          clear hp hq hjb
          go_wp2_with fail
          refine (root_any hbX HBB HFR.out HI.out).mono ?_
          rintro e u ⟨b', rfl, hb', rfl⟩
          obtain ⟨_, _, bx⟩ := HFR.out (rootS X k) b' X[rootS X k] hb' (List.getElem?_eq_getElem hrx)
          obtain ⟨d0, _, _, _, _⟩ := bx.k5
          obtain ⟨y, hy⟩ : ∃ y, y = X[rootS X k].1 := ⟨_, rfl⟩
          rw [← hy] at d0 HR
          clear bx hy hb'
          by_cases hyi : y = id
          · have e0 : (y == id) = true := by simpa using hyi
            have HN := Lib.hid (show rptP X id (k + 1) = rptP X id k ++ [x] by rw [HS.out, HR.out, e0]; rfl)
            have hsz := hbr.size
            have b1 := alloc_e wr (Obj.cells #[.int .i64 x] 3)
            have HRW := Lib.hid ((hrow.out.new b1))
            have HMADE := Lib.hid (show Rd _ _ _ (ivs [x]) from Rd.made wr #[.int .i64 x] 3)
            have HB1 := Lib.hid (hbr.trans (b1.mono hsz))
            have L1 := Lib.hid (show (ivs (rptP X id k)).length + 1 ≤ maxLen ∧ ((ivs (rptP X id k)).length + 1) * 8 ≤ 140737488355328 by have := rpt_len X id k; rw [ivs_len]; unfold maxLen; omega)
            clear hyi b1
            go_wp2_with (at_builtin; (refine wpList_app rfl (.tmp 37) (.tmp 43) 32 rfl 3 ii _ 8 Try.underlying32 hi hz0 hz1 hz2 rfl rfl rfl HRW.out rfl HMADE.out int_one L1.out.1 L1.out.2 (by simp; omega) ?_; intro v1 w2 hrow1 ho1))
            rw [show ivs (rptP X id k) ++ ivs [x] = ivs (rptP X id k ++ [x]) from (ivs_sn _ _).symm, ← HN.out] at hrow1
            have hb1 := HB1.out.trans (ho1.below (Nat.le_refl _) (by simp; omega))
            go_roundw
            case rel => exact ⟨k + 1, by omega, by go_num, Lib.hid hrow1, hb1⟩
            case measure => simp [intOf]; omega
          · have e0 : (y == id) = false := by simpa using hyi
            have HN := Lib.hid (show rptP X id (k + 1) = rptP X id k by rw [HS.out, HR.out, e0]; rfl)
            clear hyi
            go_wp2_with fail
            go_roundw
            case rel => exact ⟨k + 1, by omega, by go_num, by rw [HN.out]; exact hrow, hbr⟩
            case measure => simp [intOf]; omega
      · have e : k = n := by omega
        subst e
        rw [show rptP X id k = rptL X id by rw [HV.out, hl.out]] at hrow
        have HRF := Lib.hid (hrow.out.wide (lo' := w.heap.size) hb.size (Nat.le_refl _))
        have hbf := hb.trans (hbr.mono hb.size)
        go_wp2_with fail
        go_ret
        exact ⟨_, rfl, HRF.out, hbf⟩
set_option maxHeartbeats 2000000 in
theorem impIsTwisted_any {id : Int} (hl : Hid (X.length = n)) (hn : n ≤ 1099511627776) (hr : Rd w w.heap.size A (flE srcE X)) :
    Calls Try.prog 31 #[.slice A n c, .int .i64 id] w (Tells (twiB X id) w) := by
  go_enter Try.func31, Try.ntmps31
  go_wp2_with fail
  refine (forestOf_any hl hn hr).mono ?_
  rintro e w1 ⟨hb, ⟨hB, rfl⟩ | ⟨hB, v, bs, rfl, hbl, hrow, hf, hinc⟩⟩
  · have HV := Lib.hid (twi_no (id := id) hB)
    clear hB
    go_wp2_with fail
    refine (find_any (n := 0) (bs := []) (X := X) (lo := 0) (Lib.hid rfl) (by omega) (by omega) Rd.nil FR.nil).mono ?_
    rintro e u ⟨rfl, rfl⟩
    rw [show ptrV ((fndS (X.take 0) id).bind fun j => ([] : List Nat)[j]?) = .pointer none by cases fndS (X.take 0) id <;> simp [ptrV]]
    go_wp2_with fail
    refine wp_region_quiet (C := fun u9 => Below w1.heap.size w1 u9) (by kernel_rfl) (by kernel_rfl) (Below.refl _ _).drew ?_
    rw [List.toList_toArray]
    go_big_quiet_want
    go_big_quiet_op
    go_big_quiet_on
    go_big_quiet_want
    apply Exists.intro
    refine ⟨fun u hu => ?_, ?_⟩
    · have hu0 := hu
      unfold Oper.quietAt
      go_simp
      try rfl
    simp only [Act.put, List.setIfInBounds_toArray, List.set_cons_zero, List.set_cons_succ]
    go_big_quiet_on
    go_big_quiet_want
    go_big_quiet_op
    go_big_quiet_on
    repeat go_big_quiet_skip
    go_big_quiet_want
    apply Exists.intro
    refine ⟨fun u hu => ?_, ?_⟩
    · have hu0 := hu
      unfold Oper.quietAt
      go_simp
      try rfl
    simp only [Act.put, List.setIfInBounds_toArray, List.set_cons_zero, List.set_cons_succ]
    go_big_quiet_on
    go_big_quiet_want
    apply Exists.intro
    refine ⟨fun u hu => ?_, ?_⟩
    · have hu0 := hu
      unfold Oper.quietAt
      go_simp
      try rfl
    simp only [Act.put, List.setIfInBounds_toArray, List.set_cons_zero, List.set_cons_succ]
    go_big_quiet_on
    refine wpQuiet_nil ?_
    rintro u9 r
    go_wp2_with fail
    go_ret
    exact ⟨ret_b HV.out.symm, hb.trans (r.mono hb.size)⟩
  · have HBL := Lib.hid (show bs.length = n from hbl.trans hl.out)
    obtain ⟨Av, cv, rfl, hrd, _, _⟩ := hrow.rd (n := n) (by rw [pts_len]; exact HBL.out)
    have HRD := Lib.hid hrd
    have HF := Lib.hid hf
    have HI := Lib.hid hinc
    have HBT := Lib.hid hB
    have hbX : bs.length ≤ X.length := by rw [HBL.out, hl.out]; exact Nat.le_refl _
    have HT := Lib.hid (show X.take n = X from List.take_of_length_le (by rw [hl.out]; exact Nat.le_refl _))
    clear hB hrow hrd hf hinc
    cases hk : fndS X id with
    | none =>
      have HV := Lib.hid (twi_none hk)
      have HK := Lib.hid hk
      clear hk
      go_wp2_with fail
      refine (find_any (X := X) HBL hn (by rw [hl.out]; exact Nat.le_refl _) HRD.out HF.out).mono ?_
      rintro e u ⟨rfl, rfl⟩
      rw [HT.out, HK.out, show ptrV ((none : Option Nat).bind fun j => bs[j]?) = .pointer none from rfl]
      go_wp2_with fail
      refine wp_region_quiet (C := fun u9 => Below w1.heap.size w1 u9) (by kernel_rfl) (by kernel_rfl) (Below.refl _ _).drew ?_
      rw [List.toList_toArray]
      go_big_quiet_want
      go_big_quiet_op
      go_big_quiet_on
      go_big_quiet_want
      apply Exists.intro
      refine ⟨fun u hu => ?_, ?_⟩
      · have hu0 := hu
        unfold Oper.quietAt
        go_simp
        try rfl
      simp only [Act.put, List.setIfInBounds_toArray, List.set_cons_zero, List.set_cons_succ]
      go_big_quiet_on
      go_big_quiet_want
      go_big_quiet_op
      go_big_quiet_on
      repeat go_big_quiet_skip
      go_big_quiet_want
      apply Exists.intro
      refine ⟨fun u hu => ?_, ?_⟩
      · have hu0 := hu
        unfold Oper.quietAt
        go_simp
        try rfl
      simp only [Act.put, List.setIfInBounds_toArray, List.set_cons_zero, List.set_cons_succ]
      go_big_quiet_on
      go_big_quiet_want
      apply Exists.intro
      refine ⟨fun u hu => ?_, ?_⟩
      · have hu0 := hu
        unfold Oper.quietAt
        go_simp
        try rfl
      simp only [Act.put, List.setIfInBounds_toArray, List.set_cons_zero, List.set_cons_succ]
      go_big_quiet_on
      refine wpQuiet_nil ?_
      rintro u9 r
      go_wp2_with fail
      go_ret
      exact ⟨ret_b HV.out.symm, hb.trans (r.mono hb.size)⟩
    | some k =>
      obtain ⟨hkx, _⟩ := fnd_lt hk
      have hkb : k < bs.length := by rw [HBL.out, ← hl.out]; exact hkx
      have hrx : rootS X k < X.length := Nat.lt_of_le_of_lt (root_le X k) hkx
      have hrb : rootS X k < bs.length := Nat.lt_of_le_of_lt (root_le X k) hkb
      have HV := Lib.hid (twi_some HBT.out hk)
      have HK := Lib.hid hk
      obtain ⟨b, hbb⟩ : ∃ b, bs[k]? = some b := ⟨_, List.getElem?_eq_getElem hkb⟩
      obtain ⟨d, hdd⟩ : ∃ d, bs[rootS X k]? = some d := ⟨_, List.getElem?_eq_getElem hrb⟩
      obtain ⟨_, _, bx⟩ := HF.out k b X[k] hbb (List.getElem?_eq_getElem hkx)
      obtain ⟨_, _, _, b3, _⟩ := bx.k5
      obtain ⟨_, _, bx2⟩ := HF.out (rootS X k) d X[rootS X k] hdd (List.getElem?_eq_getElem hrx)
      obtain ⟨_, _, _, d3, _⟩ := bx2.k5
      have HBB := Lib.hid hbb
      have HDD := Lib.hid hdd
      have HV2 := Lib.hid (show twiB X id = (X[k].2.2.2 != X[rootS X k].2.2.2) by rw [HV.out, getS hkx, getS hrx])
      obtain ⟨p1, hp1⟩ : ∃ p1, p1 = X[k].2.2.2 := ⟨_, rfl⟩
      obtain ⟨p2, hp2⟩ : ∃ p2, p2 = X[rootS X k].2.2.2 := ⟨_, rfl⟩
      rw [← hp1] at b3 HV2
      rw [← hp2] at d3 HV2
      clear hk hbb hdd bx bx2 hp1 hp2
      go_wp2_with fail
      refine (find_any (X := X) HBL hn (by rw [hl.out]; exact Nat.le_refl _) HRD.out HF.out).mono ?_
      rintro e u ⟨rfl, rfl⟩
      rw [HT.out, HK.out, show ptrV ((some k).bind fun j => bs[j]?) = .pointer (some ⟨b, 0, none⟩) by simp [ptrV, HBB.out]]
      have KE := fun (u : World) (q : Below w1.heap.size w1 u) => show Below w1.heap.size w1 u ∧ u.cell? ⟨b, 3, none⟩ = some (.bool p1) ∧ u.cell? ⟨d, 3, none⟩ = some (.bool p2) from ⟨q, nwE q b3, nwE q d3⟩
      go_wp2_with fail
      refine wp_region_quiet (C := fun u => Below w1.heap.size w1 u ∧ u.cell? ⟨b, 3, none⟩ = some (.bool p1) ∧ u.cell? ⟨d, 3, none⟩ = some (.bool p2)) (by kernel_rfl) (by kernel_rfl) (KE _ (Below.refl _ _).drew) ?_
      rw [List.toList_toArray]
      go_big_quiet_want
      go_big_quiet_op
      go_big_quiet_on
      go_big_quiet_want
      apply Exists.intro
      refine ⟨fun u hu => ?_, ?_⟩
      · obtain ⟨hu0, hu1, hu2⟩ := hu
        unfold Oper.quietAt
        go_simp
        try rfl
      simp only [Act.put, List.setIfInBounds_toArray, List.set_cons_zero, List.set_cons_succ]
      go_big_quiet_on
      go_big_quiet_want
      go_big_quiet_op
      go_big_quiet_on
      go_big_quiet_want
      go_big_quiet_op
      go_big_quiet_on
      go_big_quiet_want
      apply Exists.intro
      refine ⟨fun u hu => ?_, ?_⟩
      · obtain ⟨hu0, hu1, hu2⟩ := hu
        unfold Oper.quietAt
        go_simp
        try rfl
      simp only [Act.put, List.setIfInBounds_toArray, List.set_cons_zero, List.set_cons_succ]
      go_big_quiet_on
      go_big_quiet_want
      apply Exists.intro
      refine ⟨fun u hu => ?_, ?_⟩
      · obtain ⟨hu0, hu1, hu2⟩ := hu
        unfold Oper.quietAt
        go_simp
        try rfl
      simp only [Act.put, List.setIfInBounds_toArray, List.set_cons_zero, List.set_cons_succ]
      go_big_quiet_on
      go_big_quiet_want
      apply Exists.intro
      refine ⟨fun u hu => ?_, ?_⟩
      · obtain ⟨hu0, hu1, hu2⟩ := hu
        unfold Oper.quietAt
        go_simp
        try rfl
      simp only [Act.put, List.setIfInBounds_toArray, List.set_cons_zero, List.set_cons_succ]
      go_big_quiet_on
      go_big_quiet_want
      apply Exists.intro
      refine ⟨fun u hu => ?_, ?_⟩
      · obtain ⟨hu0, hu1, hu2⟩ := hu
        unfold Oper.quietAt
        go_simp
        try rfl
      simp only [Act.put, List.setIfInBounds_toArray, List.set_cons_zero, List.set_cons_succ]
      go_big_quiet_on
      go_big_quiet_want
      go_big_quiet_op
      go_big_quiet_on
      go_big_quiet_want
      refine ⟨.pointer (some ⟨d, 0, none⟩), fun u hu => ?_, ?_⟩
      · obtain ⟨hu0, hu1, hu2⟩ := hu
        unfold Oper.quietAt
        go_simp
        refine (root_any hbX HBB (HF.out.new hu0) HI.out).mono ?_
        rintro e u9 ⟨b', rfl, hb', rfl⟩
        injection hb'.symm.trans HDD.out with hb'
        subst hb'
        exact ⟨rfl, ⟨hu0, hu1, hu2⟩⟩
      simp only [Act.put, List.setIfInBounds_toArray, List.set_cons_zero, List.set_cons_succ]
      go_big_quiet_on
      go_big_quiet_want
      apply Exists.intro
      refine ⟨fun u hu => ?_, ?_⟩
      · obtain ⟨hu0, hu1, hu2⟩ := hu
        unfold Oper.quietAt
        go_simp
        try rfl
      simp only [Act.put, List.setIfInBounds_toArray, List.set_cons_zero, List.set_cons_succ]
      go_big_quiet_on
      go_big_quiet_want
      apply Exists.intro
      refine ⟨fun u hu => ?_, ?_⟩
      · obtain ⟨hu0, hu1, hu2⟩ := hu
        unfold Oper.quietAt
        go_simp
        try rfl
      simp only [Act.put, List.setIfInBounds_toArray, List.set_cons_zero, List.set_cons_succ]
      go_big_quiet_on
      go_big_quiet_want
      apply Exists.intro
      refine ⟨fun u hu => ?_, ?_⟩
      · obtain ⟨hu0, hu1, hu2⟩ := hu
        unfold Oper.quietAt
        go_simp
        try rfl
      simp only [Act.put, List.setIfInBounds_toArray, List.set_cons_zero, List.set_cons_succ]
      go_big_quiet_on
      go_big_quiet_want
      apply Exists.intro
      refine ⟨fun u hu => ?_, ?_⟩
      · obtain ⟨hu0, hu1, hu2⟩ := hu
        unfold Oper.quietAt
        go_simp
        try rfl
      simp only [Act.put, List.setIfInBounds_toArray, List.set_cons_zero, List.set_cons_succ]
      go_big_quiet_on
      go_big_quiet_want
      apply Exists.intro
      refine ⟨fun u hu => ?_, ?_⟩
      · obtain ⟨hu0, hu1, hu2⟩ := hu
        unfold Oper.quietAt
        go_simp
        try rfl
      simp only [Act.put, List.setIfInBounds_toArray, List.set_cons_zero, List.set_cons_succ]
      go_big_quiet_on
      go_big_quiet_want
      apply Exists.intro
      refine ⟨fun u hu => ?_, ?_⟩
      · obtain ⟨hu0, hu1, hu2⟩ := hu
        unfold Oper.quietAt
        go_simp
        try rfl
      simp only [Act.put, List.setIfInBounds_toArray, List.set_cons_zero, List.set_cons_succ]
      go_big_quiet_on
      go_big_quiet_want
      apply Exists.intro
      refine ⟨fun u hu => ?_, ?_⟩
      · obtain ⟨hu0, hu1, hu2⟩ := hu
        unfold Oper.quietAt
        go_simp
        try rfl
      simp only [Act.put, List.setIfInBounds_toArray, List.set_cons_zero, List.set_cons_succ]
      go_big_quiet_on
      refine wpQuiet_nil ?_
      rintro u9 ⟨r, _⟩
      go_wp2_with fail
      go_ret
      exact ⟨ret_b HV2.out.symm, hb.trans (r.mono hb.size)⟩
end
end Go.Proofs.Ytdhnhhicjjcmdaa
