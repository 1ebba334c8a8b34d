/- Contract of the model Quarrels. Condition: the slices have at most 2^40 elements. -/
import Derived.Test.YtfcckpapcnhejaaFndM
import Derived.Test.YtfcckpapcnhejaaCopyL
import Derived.Test.YtfcckpapcnhejaaGrow
namespace Go.Proofs.Ytfcckpapcnhejaa
open Go.ChangeShapes Go.WideShapes Go.ChangeAt Go.RowKit
set_option maxRecDepth 100000
section
variable {w : World} {A A' : Option Addr} {n c n' c' : Nat} {X : List (List Int)} {f : List Int}
theorem rdSS_pair {x y : List Int} {A1 A2 : Option Addr} {c1 c2 : Nat} (h1 : Rd w w.heap.size A1 (ivs x)) (h2 : Rd w w.heap.size A2 (ivs y)) (m1 : x.length ≤ c1) (m2 : y.length ≤ c2) (k1 : c1 ≤ maxLen) (k2 : c2 ≤ maxLen) :
    RdSS (w.alloc (Obj.cells #[.slice A1 x.length c1, .slice A2 y.length c2] 22)) (w.heap.size + 1) (some ⟨w.heap.size, 0, none⟩) [x, y] := by
  have hb := alloc_new w (Obj.cells #[.slice A1 x.length c1, .slice A2 y.length c2] 22)
  have hm := Rd.made w #[.slice A1 x.length c1, .slice A2 y.length c2] 22
  intro k z hz
  match k, hz with
  | 0, hz =>
    simp at hz
    subst hz
    obtain ⟨ad, e, hl, hc⟩ := hm 0 _ rfl
    exact ⟨ad, A1, c1, e, hl, hc, m1, k1, (h1.below hb).more (Nat.le_succ _)⟩
  | 1, hz =>
    simp at hz
    subst hz
    obtain ⟨ad, e, hl, hc⟩ := hm 1 _ rfl
    exact ⟨ad, A2, c2, e, hl, hc, m2, k2, (h2.below hb).more (Nat.le_succ _)⟩
  | k + 2, hz => simp at hz
def okM (f x : List Int) : Bool := !(canR [x, f])
theorem quaX_offM (h : (storeB X && isF f) = false) : quaX X f = [] := by unfold quaX; rw [h]; rfl
theorem quaX_onM (h : storeB X = true) (hf : isF f = true) : quaX X f = X.filter (okM f) := by unfold quaX; rw [h, hf]; rfl
set_option maxHeartbeats 4000000 in
theorem specQuarrels_any (hl : Hid (X.length = n)) (hn : n ≤ 1000000000000) (hc : n ≤ c) (hs : Hid (∀ x ∈ X, x.length ≤ 1099511627776)) (hr : RdSS w w.heap.size A X) (hn' : f.length ≤ 1099511627776) (hc' : f.length ≤ c') (hcm' : c' ≤ maxLen) (hr' : Rd w w.heap.size A' (ivs f)) :
    Calls Try.prog 40 #[.slice A n c, .slice A' f.length c'] w (fun e w' => ∃ v, e = .returned v ∧ OwnSS w' w.heap.size w'.heap.size v (quaX X f) ∧ Below w.heap.size w w') := by
  obtain ⟨i0, hi, hz0, hz1, hz2⟩ := info_parts IntS_info
  obtain ⟨b, hbb⟩ : ∃ b, b = storeB X := ⟨_, rfl⟩
  obtain ⟨d, hd⟩ : ∃ d, d = isF f := ⟨_, rfl⟩
  have HB := Lib.hid hbb.symm
  have HD := Lib.hid hd.symm
  have HR := Lib.hid hr
  have HR' := Lib.hid hr'
  have ho0 := OwnSS.made0 w
  have hb0 := alloc_new w (Obj.cells #[] 22)
  have HOFF := Lib.hid (fun h : (b && d) = false => quaX_offM (X := X) (f := f) (by rw [← hbb, ← hd]; exact h))
  have HON := Lib.hid (fun (h : b = true) (h2 : d = true) => quaX_onM (X := X) (f := f) (hbb.symm.trans h) (hd.symm.trans h2))
  clear hr hr' hbb hd
  go_enter Try.func40, Try.ntmps40
  go_wp2_with fail
  go_loopw [5, 6] (fun v i wr => ∃ k : Nat, k ≤ n ∧ i = .int .i64 k ∧ OwnSS wr w.heap.size wr.heap.size v (if b && d then (X.take k).filter (okM f) else []) ∧ Hid (k = 0 ∨ (b && d) = true) ∧ Below w.heap.size w wr) (fun _ i _ => n - (intOf i).toNat)
  case atStart => exact ⟨0, Nat.zero_le _, rfl, by split <;> exact ho0, Lib.hid (.inl rfl), hb0⟩
  case round =>
    obtain ⟨k, hk, rfl, hov, hk0, hbw⟩ := hrel
    have hsz := hbw.size
    clear ho0 hb0
    by_cases hlt : k < n
    · have hkz : k < X.length := by rw [hl.out]; exact hlt
      have HOV := Lib.hid hov
      clear hov
      go_wp2_with fail
      refine (specIsStore_any hl (by omega) hc hs ((HR.out.below hbw).more hsz)).mono ?_
      rintro e w1 ⟨he, r⟩
      rw [HB.out] at he
      subst he
      have q1 := hbw.trans (r.mono hsz)
      cases b with
      | false =>
        have HV := Lib.hid (HOFF.out (by rfl))
        go_wp2_with fail
        go_ret
        exact ⟨_, rfl, by rw [HV.out]; exact (HOV.out.new r).wide (Nat.le_refl _) r.size, q1⟩
      | true =>
        go_wp2_with fail
        refine (specIsFormula_any (f := f) (Lib.hid rfl) hn' ((HR'.out.below q1).more q1.size)).mono ?_
        rintro e w2 ⟨he, rfl⟩
        rw [HD.out] at he
        subst he
        cases d with
        | false =>
          have HV := Lib.hid (HOFF.out (by rfl))
          go_wp2_with fail
          go_ret
          exact ⟨_, rfl, by rw [HV.out]; exact (HOV.out.new r).wide (Nat.le_refl _) r.size, q1⟩
        | true =>
          obtain ⟨ad, Aj, cj, rfl, hab, hcc, hcj, hcm, hrd⟩ := ((HR.out.below q1).more q1.size).at_ hkz
          have hxl := hs.out X[k] (List.getElem_mem _)
          have HYS := Lib.hid (fun h : okM f X[k] = true => filt_yes (p := okM f) hkz h)
          have HNO := Lib.hid (fun h : okM f X[k] = false => filt_no (p := okM f) hkz h)
          have hov : OwnSS wr w.heap.size wr.heap.size u5 ((X.take k).filter (okM f)) := by have := HOV.out; simpa using this
          obtain ⟨x, hx⟩ : ∃ x, x = X[k] := ⟨_, rfl⟩
          obtain ⟨Y, hY⟩ : ∃ Y, Y = (X.take k).filter (okM f) := ⟨_, rfl⟩
          have hYl : Y.length ≤ k := by rw [hY]; exact filt_len _ _ _
          rw [← hx] at hcc hcj hxl hrd HYS HNO
          rw [← hY] at hov HYS HNO
          have hss := rdSS_pair hrd ((HR'.out.below q1).more q1.size) hcj hc' hcm hcm'
          have hba := alloc_new w1 (Obj.cells #[.slice Aj x.length cj, .slice A' f.length c'] 22)
          obtain ⟨W3, hW⟩ : ∃ v : World, v = w1.alloc (Obj.cells #[.slice Aj x.length cj, .slice A' f.length c'] 22) := ⟨_, rfl⟩
          have hsz3 : W3.heap.size = w1.heap.size + 1 := by rw [hW]; simp
          rw [← hW] at hba hss
          rw [← hsz3] at hss
          have HW := Lib.hid hW.symm
          have HSS := Lib.hid hss
          have i0' : (0 : Int) ≤ (k : Int) := by omega
          obtain ⟨g, hg⟩ : ∃ g, g = canR [x, f] := ⟨_, rfl⟩
          have HGG := Lib.hid hg.symm
          have HOM := Lib.hid (show okM f x = !g by rw [hg]; rfl)
          have HRX := Lib.hid hrd
          have HOY := Lib.hid hov
          have HCC := Lib.hid hcc
          clear hW hss hx hY hg hov HOV hrd
          go_wp2_with fail
          rw [HW.out]
          refine (specCanHold_any (X := [x, f]) (n := 2) (Lib.hid rfl) (by omega) (Lib.hid (fun z hz => by
            simp at hz
            rcases hz with rfl | rfl
            · exact hxl
            · exact hn')) HSS.out).mono ?_
          rintro e w4 ⟨he, r4⟩
          rw [HGG.out] at he
          subst he
          have p4 : Below w1.heap.size w1 w4 := hba.trans (r4.mono hba.size)
          have q4 := q1.trans (p4.mono q1.size)
          have pr4 : Below wr.heap.size wr w4 := r.trans (p4.mono r.size)
          cases g with
          | true =>
            have HE := Lib.hid (HNO.out (by rw [HOM.out]; rfl))
            clear hcc
            go_wp2_with fail
            go_roundw
            case rel => exact ⟨k + 1, by omega, by go_num, by rw [show (true && true) = true from rfl, if_pos rfl, HE.out]; exact (HOY.out.new pr4).wide (Nat.le_refl _) pr4.size, Lib.hid (.inr rfl), q4⟩
            case measure => simp [intOf]; omega
          | false =>
            have HE := Lib.hid (HYS.out (by rw [HOM.out]; rfl))
            have hk0' := alloc_new w4 (Obj.cells #[] 3)
            have hc0 := ((p4.trans (hk0'.mono p4.size)).cell (p := ad.add k) (cell_lt HCC.out)).trans HCC.out
            have hrow0 := Row.made (w := w4) w4.heap.size #[] 0 3 (Nat.le_refl _) rfl (Nat.zero_le _)
            have HRD := Lib.hid (((HRX.out.below p4).more p4.size).below hk0')
            have HOW := Lib.hid ((HOY.out.new pr4).new hk0')
            have L1 := Lib.hid (show ([] : List Value).length + x.length ≤ maxLen ∧ (([] : List Value).length + x.length) * 8 ≤ 140737488355328 by unfold maxLen; simp; omega)
            have HIL := Lib.hid (ivs_len x)
            have hq4s := q4.size
            have hp4s := pr4.size
            clear hcc
            go_wp2_with (first
              | (at_builtin; refine wpList_app rfl (.tmp 31) (.tmp 35) 22 rfl 3 i0 _ 8 Try.underlying22 hi hz0 hz1 hz2 rfl rfl rfl hrow0 HIL.out HRD.out int_one L1.out.1 L1.out.2 (by simp) ?_; intro v1 w5 hrow1 ho1; obtain ⟨A9, c9, rfl, _, _, _⟩ := hrow1.rd (n := x.length) (by simp [ivs]); have r5 : Below w4.heap.size w4 w5 := hk0'.trans (ho1.below (Nat.le_refl _) (by simp)); have hba5 := alloc_new w5 (Obj.cells #[Value.slice A9 x.length c9] 22); have HO5 := Lib.hid ((HOW.out.out ho1 (.inl hp4s)).new hba5); have HRW := Lib.hid (hrow1.new hba5); have HM := Lib.hid (Rd.made w5 #[Value.slice A9 x.length c9] 22); have q5 := q4.trans (r5.mono hq4s); have hq5 := q5.size; have hq6 := q5.trans (hba5.mono hq5))
              | (at_builtin; refine wpList_appSS rfl (.tmp 30) (.tmp 37) rfl rfl rfl HO5.out HRW.out HM.out hp4s (by omega) (by omega) (by simp; omega) ?_; intro v9 w9 hown9 hb9))
            go_roundw
            case rel => exact ⟨k + 1, by omega, by go_num, by rw [show (true && true) = true from rfl, if_pos rfl, HE.out]; exact hown9, Lib.hid (.inr rfl), hq6.trans hb9⟩
            case measure => simp [intOf]; omega
    · have e : k = n := by omega
      subst e
      have HOV := Lib.hid hov
      clear hov
      have HX := Lib.hid (show (if b && d then (X.take k).filter (okM f) else []) = quaX X f by
        rw [List.take_of_length_le (by rw [hl.out]; exact Nat.le_refl _)]
        cases hb2 : b && d with
        | true =>
          rw [Bool.and_eq_true] at hb2
          rw [HON.out hb2.1 hb2.2, if_pos rfl]
        | false => rw [HOFF.out hb2, if_neg (by simp)])
      go_wp2_with fail
      go_ret
      refine ⟨_, rfl, ?_, hbw⟩
      rw [← HX.out]
      exact HOV.out
end
end Go.Proofs.Ytfcckpapcnhejaa
