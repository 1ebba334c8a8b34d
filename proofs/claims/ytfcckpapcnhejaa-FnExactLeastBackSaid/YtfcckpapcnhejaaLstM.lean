/- Contract of the model LeastBack. Condition: the slices have at most 2^40 elements. -/
import Derived.Test.YtfcckpapcnhejaaFndM
import Derived.Test.YtfcckpapcnhejaaInts
namespace Go.Proofs.Ytfcckpapcnhejaa
open Go.ChangeShapes Go.WideShapes Go.ChangeAt Go.RowKit
set_option maxRecDepth 100000
theorem badN_step {X : List (List Int)} {k m : Nat} (hk : k < X.length) : badN (X.take (k + 1)) m = badN (X.take k) m + if valR X[k] m then 0 else 1 := by
  unfold badN
  rw [List.take_succ_eq_append_getElem hk, List.filter_append, List.length_append]
  cases h : valR X[k] m <;> simp [h]
theorem rdSS_one {w : World} {x : List Int} {A1 : Option Addr} {c1 : Nat} (h1 : Rd w w.heap.size A1 (ivs x)) (m1 : x.length ≤ c1) (k1 : c1 ≤ maxLen) :
    RdSS (w.alloc (Obj.cells #[.slice A1 x.length c1] 22)) (w.heap.size + 1) (some ⟨w.heap.size, 0, none⟩) [x] := by
  have hb := alloc_new w (Obj.cells #[.slice A1 x.length c1] 22)
  have hm := Rd.made w #[.slice A1 x.length c1] 22
  intro k z hz
  match k, hz with
  | 0, hz =>
    simp at hz
    subst hz
    obtain ⟨ad, e, hl, hc⟩ := hm 0 _ rfl
    exact ⟨ad, A1, c1, e, hl, hc, m1, k1, (h1.below hb).more (Nat.le_succ _)⟩
  | k + 1, hz => simp at hz
section
variable {w : World} {A A' : Option Addr} {n c n' c' : Nat} {X : List (List Int)} {f : List Int}
set_option maxHeartbeats 4000000 in
theorem specLeastBack_any (hl : Hid (X.length = n)) (hn : n ≤ 1099511627776) (hc : n ≤ c) (hs : Hid (∀ x ∈ X, x.length ≤ 1099511627776)) (hr : RdSS w w.heap.size A X) (hl' : Hid (f.length = n')) (hn' : n' ≤ 1099511627776) (hc' : n' ≤ c') (hcm' : c' ≤ maxLen) (hr' : Rd w w.heap.size A' (ivs f)) :
    Calls Try.prog 42 #[.slice A n c, .slice A' n' c'] w (fun e w' => e = .returned (.int .i64 (lstN X f)) ∧ Below w.heap.size w w') := by
  obtain ⟨b, hb⟩ : ∃ b, b = storeB X := ⟨_, rfl⟩
  obtain ⟨d, hd⟩ : ∃ d, d = canR [f] := ⟨_, rfl⟩
  have HB := Lib.hid hb.symm
  have HD := Lib.hid hd.symm
  have HOFF := Lib.hid (show (b && d) = false → lstN X f = -1 from fun h => lst_off (by rw [← hb, ← hd]; exact h))
  have HON := Lib.hid (show b = true → d = true → lstN X f = (lsN X f 64 : Nat) from fun h1 h2 => lsN_lst (hb.symm.trans h1) (hd.symm.trans h2))
  clear hb hd
  go_enter Try.func42, Try.ntmps42
  go_wp2_with fail
  refine (specIsStore_any hl hn hc hs hr).mono ?_
  rintro e w1 ⟨he, r⟩
  rw [HB.out] at he
  subst he
  cases b with
  | false =>
    have HV := Lib.hid (HOFF.out (by trivial))
    go_wp2_with fail
    go_ret
    exact ⟨ret_i HV.out.symm, r⟩
  | true =>
    have HR1 := Lib.hid ((hr.below r).more r.size)
    have hr1' := (hr'.below r).more r.size
    have hss := rdSS_one hr1' (by rw [hl'.out]; exact hc') hcm'
    have hb2 := alloc_new w1 (Obj.cells #[.slice A' f.length c'] 22)
    rw [hl'.out] at hss hb2
    obtain ⟨W2, hW⟩ : ∃ v : World, v = w1.alloc (Obj.cells #[.slice A' n' c'] 22) := ⟨_, rfl⟩
    have hsz : W2.heap.size = w1.heap.size + 1 := by rw [hW]; simp
    rw [← hW] at hb2 hss
    rw [← hsz] at hss
    have HSS := Lib.hid hss
    have HW := Lib.hid hW.symm
    have HR1' := Lib.hid hr1'
    clear hss hW hsz hr hr' hr1'
    go_wp2_with fail
    rw [HW.out]
    refine (specCanHold_any (X := [f]) (n := 1) (Lib.hid rfl) (by omega) (Lib.hid (fun x hx => by rw [List.mem_singleton.1 hx, hl'.out]; exact hn')) HSS.out).mono ?_
    rintro e w3 ⟨he, r3⟩
    rw [HD.out] at he
    subst he
    have q13 : Below w1.heap.size w1 w3 := hb2.trans (r3.mono hb2.size)
    have q3 := r.trans (q13.mono r.size)
    cases d with
    | false =>
      have HV := Lib.hid (HOFF.out (by trivial))
      go_wp2_with fail
      go_ret
      exact ⟨ret_i HV.out.symm, q3⟩
    | true =>
      have HV := Lib.hid (HON.out (by trivial) (by trivial))
      have HR3 := Lib.hid ((HR1.out.below q13).more q13.size)
      have HR3' := Lib.hid ((HR1'.out.below q13).more q13.size)
      have hb0 : lsN X f 0 = n := by rw [← hl.out]; rfl
      have HB0 := Lib.hid hb0
      clear hb0
      go_wp2_with fail
      go_loopw [5, 6] (fun s i wr => ∃ m : Nat, m ≤ 64 ∧ i = .int .i64 m ∧ s = .int .i64 (lsN X f m : Nat) ∧ Below w3.heap.size w3 wr) (fun _ i _ => 64 - (intOf i).toNat)
      case atStart => exact ⟨0, by omega, rfl, by rw [HB0.out], Below.refl _ _⟩
      case round =>
        obtain ⟨m, hm, rfl, rfl, hbw⟩ := hrel
        obtain ⟨wo, hwo⟩ : ∃ u, u = wr := ⟨_, rfl⟩
        subst hwo
        have hsz := hbw.size
        by_cases hlt : m < 64
        · have HST := Lib.hid (lsN_succ X f m)
          have hlle := lsN_le X f m
          have hble := badN_le X m
          rw [hl.out] at hlle hble
          obtain ⟨v, hv⟩ : ∃ v, v = valR f m := ⟨_, rfl⟩
          have HVV : Hid (valB f (rowR m) = v) := Lib.hid hv.symm
          rw [← hv] at HST
          obtain ⟨L, hL⟩ : ∃ L, L = lsN X f m := ⟨_, rfl⟩
          rw [← hL] at HST hlle ⊢
          clear hv hL
          go_wp2_with fail
          refine (l11Row_any hlt).mono ?_
          rintro e u1 ⟨x, rfl, hrow, r1⟩
          obtain ⟨Ab, cb, rfl, hrb, _, _⟩ := hrow.rd (n := 6) (by rw [bls_len, rowR_len])
          have q1 := hbw.trans (r1.mono hsz)
          go_wp2_with fail
          refine (specValue_any (f := f) (L := rowR m) hl' hn' ((HR3'.out.below q1).more q1.size) (Lib.hid (rowR_len m)) hrb).mono ?_
          rintro e u2 ⟨he, r2⟩
          rw [HVV.out] at he
          subst he
          have q2 := q1.trans (r2.mono q1.size)
          clear hrow hrb
          cases v with
          | false =>
            have HE := Lib.hid (show lsN X f (m + 1) = L by rw [HST.out]; rfl)
            go_wp2_with fail
            go_roundw
            case rel => exact ⟨m + 1, by omega, by go_num, by rw [HE.out], q2⟩
            case measure => simp [intOf]; omega
          | true =>
            have HE := Lib.hid (show lsN X f (m + 1) = min L (badN X m) by rw [HST.out]; rfl)
            go_wp2_with fail
            go_loopw [7, 8] (fun s i wi => ∃ k : Nat, k ≤ n ∧ i = .int .i64 k ∧ s = .int .i64 (badN (X.take k) m : Nat) ∧ Below u2.heap.size u2 wi) (fun _ i _ => n - (intOf i).toNat)
            case atStart => exact ⟨0, by omega, rfl, rfl, Below.refl _ _⟩
            case round =>
              obtain ⟨k, hk, rfl, rfl, hbi⟩ := hrel
              have hsi := hbi.size
              have q2i := q2.trans (hbi.mono q2.size)
              by_cases hlt2 : k < n
              · have hkz : k < X.length := by rw [hl.out]; exact hlt2
                obtain ⟨ad, Aj, cj, rfl, hab, hcc, _, _, hrd⟩ := ((HR3.out.below q2i).more q2i.size).at_ hkz
                have hxl := hs.out X[k] (List.getElem_mem _)
                have HBS := Lib.hid (badN_step (m := m) hkz)
                have hbk := badN_le (X.take k) m
                rw [List.length_take] at hbk
                obtain ⟨x, hx⟩ : ∃ x, x = X[k] := ⟨_, rfl⟩
                rw [← hx] at hcc hrd hxl HBS
                obtain ⟨B, hB⟩ : ∃ B, B = badN (X.take k) m := ⟨_, rfl⟩
                rw [← hB] at HBS hbk ⊢
                have i0 : (0 : Int) ≤ (k : Int) := by omega
                have KE := Lib.hid (fun (u : World) (q : Below wr.heap.size wr u) => (q.cell (p := ad.add k) (cell_lt hcc)).trans hcc)
                have HRX := Lib.hid hrd
                obtain ⟨y, hy⟩ : ∃ y, y = valR x m := ⟨_, rfl⟩
                have HY : Hid (valB x (rowR m) = y) := Lib.hid hy.symm
                rw [← hy] at HBS
                clear hx hB hy hrd
                go_wp2_with fail
                go_region_law (first
                  | (go_simp; go_at_call 51; (with_reducible refine (l11Row_any hlt).mono ?_); rintro e v1 ⟨vv, rfl, hrow, r5⟩; obtain ⟨Ab, cb, rfl, hrb, _, _⟩ := hrow.rd (n := 6) (by rw [bls_len, rowR_len]); have p1 : Below wr.heap.size wr v1 := (by first | exact r5 | exact (Below.refl _ _).drew.trans r5); have c1 := KE.out v1 p1)
                  | (go_simp; go_at_call 50; (with_reducible refine (specValue_any (f := x) (L := rowR m) (Lib.hid rfl) hxl ((HRX.out.below p1).more p1.size) (Lib.hid (rowR_len m)) hrb).mono ?_); rintro e v2 ⟨he, r6⟩; rw [HY.out] at he; subst he; have p2 : Below wr.heap.size wr v2 := p1.trans (r6.mono p1.size)))
                all_goals
                  have p3 := hbi.trans (p2.mono hsi)
                  cases y with
                  | true =>
                    have HF := Lib.hid (show badN (X.take (k + 1)) m = B by rw [HBS.out]; rfl)
                    go_wp2_with fail
                    go_roundw
                    case rel => exact ⟨k + 1, by omega, by go_num, by rw [HF.out], p3⟩
                    case measure => simp [intOf]; omega
                  | false =>
                    have HF := Lib.hid (show badN (X.take (k + 1)) m = B + 1 by rw [HBS.out]; rfl)
                    go_wp2_with fail
                    go_roundw
                    case rel => exact ⟨k + 1, by omega, by go_num, by rw [HF.out]; go_num, p3⟩
                    case measure => simp [intOf]; omega
              · have e : k = n := by omega
                subst e
                have HTK := Lib.hid (show X.take k = X from List.take_of_length_le (by rw [hl.out]; exact Nat.le_refl _))
                rw [HTK.out]
                have HM := Lib.hid (show mn (L : Int) (badN X m : Nat) = (lsN X f (m + 1) : Nat) by rw [HE.out]; unfold mn; split <;> omega)
                obtain ⟨Bm, hBm⟩ : ∃ Bm, Bm = badN X m := ⟨_, rfl⟩
                rw [← hBm] at HM hble ⊢
                clear hBm
                go_wp2_with fail
                refine (smin_any (L : Int) (Bm : Nat) _).mono ?_
                rintro e w9 ⟨rfl, rfl⟩
                rw [HM.out]
                go_wp2_with fail
                go_roundw
                case rel => exact ⟨m + 1, by omega, by go_num, rfl, q2i⟩
                case measure => simp [intOf]; omega
        · have e : m = 64 := by omega
          subst e
          go_wp2_with fail
          go_ret
          exact ⟨ret_i HV.out.symm, q3.trans (hbw.mono q3.size)⟩
end
end Go.Proofs.Ytfcckpapcnhejaa
