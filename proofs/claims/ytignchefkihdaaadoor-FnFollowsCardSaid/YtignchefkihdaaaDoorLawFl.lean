/- The law of chapter 11: a formula follows just if its opposite cannot hold with the others. Conditions: the code is small; the library's table lies as its initialiser lays it. -/
import Derived.Test.YtignchefkihdaaaDoorDrawFl2
import Derived.Test.YtignchefkihdaaaDoorTabZ
import Derived.Test.YtignchefkihdaaaDoorTabC3
import Derived.Test.YtignchefkihdaaaDoorJoinC
import Derived.Test.YtignchefkihdaaaDoorFmlC
import Derived.Deep.DeepCutAuto
import Derived.Deep.CutRange
namespace Go.Proofs.YtignchefkihdaaaDoor
open Go.ChangeShapes Go.WideShapes Go.ChangeAt Go.RowKit
set_option maxRecDepth 100000
/-- What is kept: the list and the formula. -/
structure KQ (W : World) (Ax Af : Option Addr) (X : List (List Int)) (f : List Int) (w : World) : Prop where
  hb : Below W.heap.size W w
  rx : RdSS w w.heap.size Ax X
  rf : Rd w w.heap.size Af (ivs f)
theorem KQ.new {W : World} {Ax Af : Option Addr} {X : List (List Int)} {f : List Int} {w w' : World} (h : KQ W Ax Af X f w) (r : Below w.heap.size w w') : KQ W Ax Af X f w' := ⟨trans_nwF h.hb r, rdSS_nwF h.rx r, rd_nwF h.rf r⟩
theorem rdSS_oneF {w : World} {x : List Int} {A1 : Option Addr} {n c1 : Nat} (hn : x.length = n) (h1 : Rd w w.heap.size A1 (ivs x)) (m1 : n ≤ c1) (k1 : c1 ≤ maxLen) :
    RdSS (w.alloc (Obj.cells #[.slice A1 n c1] 25)) (w.alloc (Obj.cells #[.slice A1 n c1] 25)).heap.size (some ⟨w.heap.size, 0, none⟩) [x] := by
  subst hn
  have hb : Below w.heap.size w (w.alloc (Obj.cells #[.slice A1 x.length c1] 25)) := (Below.refl _ _).alloc (Nat.le_refl _) _
  have hm := Rd.made w #[.slice A1 x.length c1] 25
  intro k z hz
  match k, hz with
  | 0, hz =>
    simp at hz
    subst hz
    obtain ⟨ad, e, hl, hc⟩ := hm 0 _ rfl
    exact ⟨ad, A1, c1, e, by simpa using hl, hc, m1, k1, (h1.below hb).more hb.size⟩
  | k + 1, hz => simp at hz
theorem ok_snoc {X : List (List Int)} {k : Nat} (hk : k < X.length) : okR (X.take (k + 1)) = (okR (X.take k) && isF X[k]) := by
  unfold okR
  rw [List.take_succ_eq_append_getElem hk, List.all_append]
  simp
set_option maxHeartbeats 16000000 in
theorem fl_core {W : World} {A : Option Addr} {n c : Nat} (h : Code8 W A n) (hs : n ≤ 1048576) (hT : TzTab W) : Calls Tryd.prog 3 #[.slice A n c] W (fun e W' => e = .returned (.bool true) ∧ Below W.heap.size W W') := by
  have HC := Lib.hid h
  have HT := Lib.hid hT
  clear hT
  go_enter Tryd.func3, Tryd.ntmps3
  go_wp2_with (go_at_call 4; refine (big_no (by omega)).mono ?_; rintro e w1 ⟨rfl, rfl⟩)
  refine (drawFol h).mono ?_
  rintro e w2 ⟨X, f, Ax, Af, cx, cf, hX, hf, rfl, ⟨qx, mx⟩, ⟨qf, mf⟩, rx, rf, b2⟩
  have HX := Lib.hid hX
  have hxl := hX.1
  have ks : KQ W Ax Af X f w2 := ⟨b2, rx, rf⟩
  clear h hX rx rf b2
  go_wp2_with fail
  refine (impNotOf_any (f := f) (Lib.hid rfl) (by omega) qf mf ks.rf).mono ?_
  rintro e w3 ⟨v, rfl, hrow, r⟩
  replace ks := ks.new r
  obtain ⟨Q, hQ⟩ : ∃ Q, fmlL (f ++ [-1]) = Q := ⟨_, rfl⟩
  rw [hQ] at hrow
  have hQl : Q.length ≤ 16 := by rw [← hQ]; unfold fmlL; split <;> simp; omega
  obtain ⟨N, hN⟩ : ∃ N, Q.length = N := ⟨_, rfl⟩
  obtain ⟨Aq, cq, rfl, rq, qq, mq⟩ := hrow.rd (n := N) (by rw [ivs_len, hN])
  have HQ := Lib.hid hQ
  have HN := Lib.hid hN
  clear r hrow hQ hN
  go_upto_region 5 with fail
  go_cut [29] from 23 to 29 (fun c wx => ∃ t : Bool, c = .bool t ∧ (t = true → isF f = true ∧ isF (f ++ [-1]) = true) ∧ KQ W Ax Af X f wx ∧ Rd wx wx.heap.size Aq (ivs Q))
  case first =>
    cases hF : isF (f ++ [-1]) with
    | false =>
      have hN0 : N = 0 := by rw [← HN.out, ← HQ.out]; unfold fmlL; rw [hF]; rfl
      subst hN0
      clear hF
      go_wp2_with fail
      go_meet
      case rel => exact ⟨false, rfl, (fun h => by cases h), ks, rq⟩
    | true =>
      have hN0 : 0 < N := by rw [← HN.out, ← HQ.out]; unfold fmlL; rw [hF]; simp
      have hN1 : (0 : Int) < (N : Int) := by omega
      have hff := isF_not hF
      have HFF := Lib.hid hff
      have HF := Lib.hid hF
      clear hF hff
      go_wp2_with fail
      refine (impIsFormula_any (f := f) (Lib.hid rfl) ks.rf).mono ?_
      rintro e w4 ⟨he, r⟩
      rw [HFF.out] at he
      subst he
      replace ks := ks.new r
      replace rq := rd_nwF rq r
      clear r
      go_wp2_with fail
      go_meet
      case rel => exact ⟨true, rfl, fun _ => ⟨HFF.out, HF.out⟩, ks, rq⟩
  case rest =>
    clear ks rq
    obtain ⟨t, rfl, ht, ks, rq⟩ := hcut
    have HTT := Lib.hid ht
    clear ht
    go_upto_if 29 with fail
    go_cut [] from 6 to 63 (fun wx => Below W.heap.size W wx)
    case first =>
      cases t with
      | false =>
        go_wp2_with fail
        go_meet
        case rel => exact ks.hb
      | true =>
        obtain ⟨hff, hF⟩ := HTT.out rfl
        have hqe : Q = f ++ [-1] := by rw [← HQ.out]; unfold fmlL; rw [hF]; rfl
        have HF := Lib.hid hF
        have HQE := Lib.hid hqe
        clear hff hF hqe HTT
        go_wp2_with fail
        go_loopw [6, 7] (fun vd i wr => ∃ (k : Nat) (z : Bool), k ≤ X.length ∧ i = .int .i64 k ∧ vd = .bool z ∧ Hid (okR (X.take k) = z) ∧ KQ W Ax Af X f wr ∧ Rd wr wr.heap.size Aq (ivs Q)) (fun _ i _ => X.length - (intOf i).toNat)
        case atStart => exact ⟨0, true, Nat.zero_le _, rfl, rfl, Lib.hid rfl, ks, rq⟩
        case round =>
          obtain ⟨k, z, hk, rfl, rfl, hz, hks, hrq⟩ := hrel
          clear ks rq
          by_cases hlt : k < X.length
          · have hS := Lib.hid (ok_snoc hlt)
            have i0 : (0 : Int) ≤ (k : Int) := by omega
            have i1 : (k : Int) < (X.length : Int) := by omega
            have ww1 := IntWalk.i64_in ((k : Int) + 1) (by omega)
            cases z with
            | false =>
              have HV := Lib.hid (show okR (X.take (k + 1)) = false by rw [hS.out, hz.out]; rfl)
              go_wp2_with fail
              go_roundw
              case rel => exact ⟨k + 1, false, by omega, by go_num, rfl, HV, hks, hrq⟩
              case measure => simp [intOf]; omega
            | true =>
              obtain ⟨ad, Aj, cj, rfl, hab, hc, hcj, hmj, hrj⟩ := hks.rx.at_ hlt
              have HV := Lib.hid (show okR (X.take (k + 1)) = isF X[k] by rw [hS.out, hz.out]; rfl)
              obtain ⟨x, hx⟩ : ∃ x, X[k] = x := ⟨_, rfl⟩
              rw [hx] at hc hcj hrj HV
              have HKS := Lib.hid hks
              have HRQ := Lib.hid hrq
              clear hx hks hrq hS
              go_wp2_with fail
              refine (impIsFormula_any (f := x) (Lib.hid rfl) hrj).mono ?_
              rintro e w5 ⟨rfl, r⟩
              obtain ⟨y, hy⟩ : ∃ y, isF x = y := ⟨_, rfl⟩
              rw [hy] at HV ⊢
              clear hy hc
              have hk5 := HKS.out.new r
              have hq5 := rd_nwF HRQ.out r
              clear r
              go_wp2_with fail
              go_roundw
              case rel => exact ⟨k + 1, y, by omega, by go_num, rfl, HV, hk5, hq5⟩
              case measure => simp [intOf]; omega
          · have e : k = X.length := by omega
            subst e
            rw [List.take_of_length_le (Nat.le_refl _)] at hz
            cases z with
            | false =>
              have HFO := Lib.hid (folR_no (f := f) hz.out)
              go_wp2_with fail
              refine (impFollows_any (X := X) (f := f) (Lib.hid rfl) (by omega) qx mx hks.rx (Lib.hid rfl) qf mf hks.rf).mono ?_
              rintro e w6 ⟨he, r⟩
              rw [HFO.out] at he
              subst he
              have hk6 := hks.new r
              clear r
              go_wp2_with fail
              go_meet
              case rel => exact hk6.hb
            | true =>
              have hfc := folR_can HF.out hz.out
              rw [← HQE.out] at hfc
              obtain ⟨y, hy⟩ : ∃ y, canR (X ++ [Q]) = y := ⟨_, rfl⟩
              rw [hy] at hfc
              have HFC := Lib.hid hfc
              have HY := Lib.hid hy
              have hyy : (!y == y) = false := by cases y <;> rfl
              clear hfc hy
              go_wp2_with fail
              refine (impFollows_any (X := X) (f := f) (Lib.hid rfl) (by omega) qx mx hks.rx (Lib.hid rfl) qf mf hks.rf).mono ?_
              rintro e w6 ⟨he, r⟩
              rw [HFC.out] at he
              subst he
              have hk6 := hks.new r
              have hq6 := rd_nwF hrq r
              clear r hks hrq
              go_wp2_with fail
              refine (withF_any (X := X) (f := Q) (Lib.hid rfl) (by omega) hk6.rx HN qq mq hq6).mono ?_
              rintro e w7 ⟨A2, c2, rfl, r2, r⟩
              have hk7 := hk6.new r
              clear r hk6 hq6
              go_wp2_with fail
              refine (impCanHold_any (X := X ++ [Q]) (Lib.hid (by simp)) (by omega) r2).mono ?_
              rintro e w8 ⟨he, r⟩
              rw [HY.out] at he
              subst he
              have hk8 := hk7.new r
              clear r hk7 r2
              cases y
              all_goals
                go_wp2_with fail
                go_meet
                case rel => exact hk8.hb
    case rest =>
      clear ks rq HTT HQ HN hQl qq mq HX qx mx qf mf
      have b9 := hcut
      clear hcut
      go_wp2_with fail
      refine (drawAlw (HC.out.below b9)).mono ?_
      rintro e w10 ⟨g, Ag, cg, hg, rfl, ⟨qg, mg⟩, rg, r⟩
      have b10 := trans_nwF b9 r
      clear r b9
      go_wp2_with fail
      refine (impCountRows_any (f := g) (Lib.hid rfl) rg).mono ?_
      rintro e w11 ⟨rfl, r⟩
      have b11 := trans_nwF b10 r
      replace rg := rd_nwF rg r
      clear r b10
      go_wp2_with fail
      refine (impFirstRow_any (f := g) (HT.out.new b11) (Lib.hid rfl) rg).mono ?_
      rintro e w12 ⟨rfl, r⟩
      have b12 := trans_nwF b11 r
      replace rg := rd_nwF rg r
      clear r b11
      have hal : alwR g = (cntR g == 64) := rfl
      have h1 := fstR_cnt g
      have h2 := fun h : alwR g = true => alwR_fst h
      have h3 := fun h : isF (g ++ [-1]) = true => cntR_not h
      have h4 := cntR_le g
      obtain ⟨R, hR⟩ : ∃ R, fstR g = R := ⟨_, rfl⟩
      obtain ⟨C, hC⟩ : ∃ C, cntR g = C := ⟨_, rfl⟩
      obtain ⟨al, hAL⟩ : ∃ al, alwR g = al := ⟨_, rfl⟩
      rw [hR, hC] at h1
      rw [hR, hAL] at h2
      rw [hC] at h3 h4
      rw [hAL, hC] at hal
      rw [hR, hC]
      have HAL := Lib.hid hAL
      have H3 := Lib.hid h3
      have hc64 : ((C : Int) == 64) = al := by rw [hal, Bool.eq_iff_iff]; simp; omega
      have aa : (al != al) = false := by simp
      obtain ⟨p, hp⟩ : ∃ p, decide (0 < C) = p := ⟨_, rfl⟩
      have hp1 : decide (0 ≤ R) = p := by rw [← hp]; exact h1
      have hp2 : decide ((0 : Int) < (C : Int)) = p := by rw [← hp]; exact decide_eq_decide.2 (by omega)
      have pp : (p != p) = false := by simp
      have hR0 : al = true → R = 0 := h2
      clear hR hC hAL hal h1 h2 h3
      go_wp2_with fail
      refine (impIsAlways_any (f := g) (Lib.hid rfl) rg).mono ?_
      rintro e w13 ⟨he, r⟩
      rw [HAL.out] at he
      subst he
      have b13 := trans_nwF b12 r
      replace rg := rd_nwF rg r
      clear r b12
      go_wp2_with fail
      refine (impIsAlways_any (f := g) (Lib.hid rfl) rg).mono ?_
      rintro e w14 ⟨he, r⟩
      rw [HAL.out] at he
      subst he
      have b14 := trans_nwF b13 r
      replace rg := rd_nwF rg r
      clear r b13
      cases al with
      | false =>
        clear hR0
        go_wp2_with fail
        refine (impNotOf_any (f := g) (Lib.hid rfl) (by omega) qg mg rg).mono ?_
        rintro e w15 ⟨v, rfl, hrow, r⟩
        have b15 := trans_nwF b14 r
        replace rg := rd_nwF rg r
        cases hF : isF (g ++ [-1]) with
        | false =>
          rw [show fmlL (g ++ [-1]) = [] by unfold fmlL; rw [hF]; rfl] at hrow
          obtain ⟨Am, cm, rfl, _, _, _⟩ := hrow.rd (n := 0) rfl
          clear r hrow hF b14 rg
          go_wp2_with fail
          refine (drawAlk (HC.out.below b15)).mono ?_
          rintro e w20 ⟨x, y, Ax, Ay, cx, cy, hx, hy, rfl, ⟨qx, mx⟩, ⟨qy, my⟩, rx, ry, r⟩
          have b20 := trans_nwF b15 r
          clear r b15
          have hcm := alkR_comm y x
          have hcn := fun h : alkR x y = true => alkR_cnt h
          have hfo := fun h : alkR x y = true => alkR_fol h
          obtain ⟨k, hk⟩ : ∃ k, alkR x y = k := ⟨_, rfl⟩
          rw [hk] at hcm hcn hfo
          have HK := Lib.hid hk
          have HK2 := Lib.hid hcm
          have HCN := Lib.hid hcn
          have HFO := Lib.hid hfo
          have kk : (k == k) = true := by simp
          clear hk hcm hcn hfo
          go_wp2_with fail
          refine (impAreAlike_any qx mx rx qy my ry).mono ?_
          rintro e w21 ⟨he, r⟩
          rw [HK.out] at he
          subst he
          have b21 := trans_nwF b20 r
          replace rx := rd_nwF rx r
          replace ry := rd_nwF ry r
          clear r b20
          go_wp2_with fail
          refine (impAreAlike_any qy my ry qx mx rx).mono ?_
          rintro e w22 ⟨he, r⟩
          rw [HK2.out] at he
          subst he
          have b22 := trans_nwF b21 r
          replace rx := rd_nwF rx r
          replace ry := rd_nwF ry r
          clear r b21
          go_wp2_with fail
          refine (impAreAlike_any qx mx rx qy my ry).mono ?_
          rintro e w23 ⟨he, r⟩
          rw [HK.out] at he
          subst he
          have b23 := trans_nwF b22 r
          replace rx := rd_nwF rx r
          replace ry := rd_nwF ry r
          clear r b22
          cases k with
          | false =>
            go_wp2_with fail
            go_ret
            exact ⟨rfl, b23⟩
          | true =>
            have HE := Lib.hid (HCN.out rfl)
            have HF1 := Lib.hid (HFO.out rfl)
            clear HCN HFO
            go_wp2_with fail
            refine (impCountRows_any (f := x) (Lib.hid rfl) rx).mono ?_
            rintro e w24 ⟨rfl, r⟩
            rw [HE.out]
            have b24 := trans_nwF b23 r
            replace rx := rd_nwF rx r
            replace ry := rd_nwF ry r
            clear r b23
            obtain ⟨D, hD⟩ : ∃ D, cntR y = D := ⟨_, rfl⟩
            rw [hD]
            have HD := Lib.hid hD
            clear hD
            go_wp2_with fail
            refine (impCountRows_any (f := y) (Lib.hid rfl) ry).mono ?_
            rintro e w25 ⟨rfl, r⟩
            rw [HD.out]
            have b25 := trans_nwF b24 r
            replace rx := rd_nwF rx r
            replace ry := rd_nwF ry r
            have one := rdSS_oneF (x := x) rfl rx qx mx
            have q26 : Below w25.heap.size w25 (w25.alloc (Obj.cells #[.slice Ax x.length cx] 25)) := (Below.refl _ _).alloc (Nat.le_refl _) _
            have b26 := trans_nwF b25 q26
            have ry26 := rd_nwF ry q26
            clear r b24 b25 rx ry
            go_wp2_with fail
            refine (impFollows_any (X := [x]) (f := y) (n := 1) (Lib.hid rfl) (by omega) (Nat.le_refl _) (by unfold maxLen; omega) one (Lib.hid rfl) qy my ry26).mono ?_
            rintro e w27 ⟨he, r⟩
            rw [HF1.out] at he
            subst he
            have b27 := trans_nwF b26 r
            go_wp2_with fail
            go_ret
            exact ⟨rfl, b27⟩
        | true =>
          have hc := H3.out hF
          have HFG := Lib.hid (isF_not hF)
          rw [show fmlL (g ++ [-1]) = g ++ [-1] by unfold fmlL; rw [hF]; rfl] at hrow
          obtain ⟨q, hq⟩ : ∃ q, g ++ [-1] = q := ⟨_, rfl⟩
          obtain ⟨M, hM⟩ : ∃ M, q.length = M := ⟨_, rfl⟩
          rw [hq] at hrow hc
          have hM0 : 0 < M := by rw [← hM, ← hq]; simp
          have hM1 : (0 : Int) < (M : Int) := by omega
          obtain ⟨Am, cm, rfl, rm, _, _⟩ := hrow.rd (n := M) (by rw [ivs_len, hM])
          have HM := Lib.hid hM
          obtain ⟨D, hD⟩ : ∃ D, cntR q = D := ⟨_, rfl⟩
          have HD := Lib.hid hD
          rw [hD] at hc
          have ww1 : IntKind.i64.wrap (64 - (C : Int)) = (D : Int) := by rw [show (64 : Int) - (C : Int) = (D : Int) by omega]; exact IntWalk.i64_in _ (by omega)
          clear r hrow hF b14 hq hM hD
          go_wp2_with fail
          refine (impIsFormula_any (f := g) (Lib.hid rfl) rg).mono ?_
          rintro e w16 ⟨he, r⟩
          rw [HFG.out] at he
          subst he
          have b16 := trans_nwF b15 r
          replace rm := rd_nwF rm r
          clear r b15 rg
          go_wp2_with fail
          refine (impCountRows_any (f := q) HM rm).mono ?_
          rintro e w17 ⟨rfl, r⟩
          rw [HD.out]
          have b17 := trans_nwF b16 r
          clear r b16 rm
          go_wp2_with fail
          refine (drawAlk (HC.out.below b17)).mono ?_
          rintro e w20 ⟨x, y, Ax, Ay, cx, cy, hx, hy, rfl, ⟨qx, mx⟩, ⟨qy, my⟩, rx, ry, r⟩
          have b20 := trans_nwF b17 r
          clear r b17
          have hcm := alkR_comm y x
          have hcn := fun h : alkR x y = true => alkR_cnt h
          have hfo := fun h : alkR x y = true => alkR_fol h
          obtain ⟨k, hk⟩ : ∃ k, alkR x y = k := ⟨_, rfl⟩
          rw [hk] at hcm hcn hfo
          have HK := Lib.hid hk
          have HK2 := Lib.hid hcm
          have HCN := Lib.hid hcn
          have HFO := Lib.hid hfo
          have kk : (k == k) = true := by simp
          clear hk hcm hcn hfo
          go_wp2_with fail
          refine (impAreAlike_any qx mx rx qy my ry).mono ?_
          rintro e w21 ⟨he, r⟩
          rw [HK.out] at he
          subst he
          have b21 := trans_nwF b20 r
          replace rx := rd_nwF rx r
          replace ry := rd_nwF ry r
          clear r b20
          go_wp2_with fail
          refine (impAreAlike_any qy my ry qx mx rx).mono ?_
          rintro e w22 ⟨he, r⟩
          rw [HK2.out] at he
          subst he
          have b22 := trans_nwF b21 r
          replace rx := rd_nwF rx r
          replace ry := rd_nwF ry r
          clear r b21
          go_wp2_with fail
          refine (impAreAlike_any qx mx rx qy my ry).mono ?_
          rintro e w23 ⟨he, r⟩
          rw [HK.out] at he
          subst he
          have b23 := trans_nwF b22 r
          replace rx := rd_nwF rx r
          replace ry := rd_nwF ry r
          clear r b22
          cases k with
          | false =>
            go_wp2_with fail
            go_ret
            exact ⟨rfl, b23⟩
          | true =>
            have HE := Lib.hid (HCN.out rfl)
            have HF1 := Lib.hid (HFO.out rfl)
            clear HCN HFO
            go_wp2_with fail
            refine (impCountRows_any (f := x) (Lib.hid rfl) rx).mono ?_
            rintro e w24 ⟨rfl, r⟩
            rw [HE.out]
            have b24 := trans_nwF b23 r
            replace rx := rd_nwF rx r
            replace ry := rd_nwF ry r
            clear r b23
            obtain ⟨D, hD⟩ : ∃ D, cntR y = D := ⟨_, rfl⟩
            rw [hD]
            have HD := Lib.hid hD
            clear hD
            go_wp2_with fail
            refine (impCountRows_any (f := y) (Lib.hid rfl) ry).mono ?_
            rintro e w25 ⟨rfl, r⟩
            rw [HD.out]
            have b25 := trans_nwF b24 r
            replace rx := rd_nwF rx r
            replace ry := rd_nwF ry r
            have one := rdSS_oneF (x := x) rfl rx qx mx
            have q26 : Below w25.heap.size w25 (w25.alloc (Obj.cells #[.slice Ax x.length cx] 25)) := (Below.refl _ _).alloc (Nat.le_refl _) _
            have b26 := trans_nwF b25 q26
            have ry26 := rd_nwF ry q26
            clear r b24 b25 rx ry
            go_wp2_with fail
            refine (impFollows_any (X := [x]) (f := y) (n := 1) (Lib.hid rfl) (by omega) (Nat.le_refl _) (by unfold maxLen; omega) one (Lib.hid rfl) qy my ry26).mono ?_
            rintro e w27 ⟨he, r⟩
            rw [HF1.out] at he
            subst he
            have b27 := trans_nwF b26 r
            go_wp2_with fail
            go_ret
            exact ⟨rfl, b27⟩
      | true =>
        have hR := hR0 rfl
        subst hR
        clear hR0
        go_wp2_with fail
        refine (impNotOf_any (f := g) (Lib.hid rfl) (by omega) qg mg rg).mono ?_
        rintro e w15 ⟨v, rfl, hrow, r⟩
        have b15 := trans_nwF b14 r
        replace rg := rd_nwF rg r
        cases hF : isF (g ++ [-1]) with
        | false =>
          rw [show fmlL (g ++ [-1]) = [] by unfold fmlL; rw [hF]; rfl] at hrow
          obtain ⟨Am, cm, rfl, _, _, _⟩ := hrow.rd (n := 0) rfl
          clear r hrow hF b14 rg
          go_wp2_with fail
          refine (drawAlk (HC.out.below b15)).mono ?_
          rintro e w20 ⟨x, y, Ax, Ay, cx, cy, hx, hy, rfl, ⟨qx, mx⟩, ⟨qy, my⟩, rx, ry, r⟩
          have b20 := trans_nwF b15 r
          clear r b15
          have hcm := alkR_comm y x
          have hcn := fun h : alkR x y = true => alkR_cnt h
          have hfo := fun h : alkR x y = true => alkR_fol h
          obtain ⟨k, hk⟩ : ∃ k, alkR x y = k := ⟨_, rfl⟩
          rw [hk] at hcm hcn hfo
          have HK := Lib.hid hk
          have HK2 := Lib.hid hcm
          have HCN := Lib.hid hcn
          have HFO := Lib.hid hfo
          have kk : (k == k) = true := by simp
          clear hk hcm hcn hfo
          go_wp2_with fail
          refine (impAreAlike_any qx mx rx qy my ry).mono ?_
          rintro e w21 ⟨he, r⟩
          rw [HK.out] at he
          subst he
          have b21 := trans_nwF b20 r
          replace rx := rd_nwF rx r
          replace ry := rd_nwF ry r
          clear r b20
          go_wp2_with fail
          refine (impAreAlike_any qy my ry qx mx rx).mono ?_
          rintro e w22 ⟨he, r⟩
          rw [HK2.out] at he
          subst he
          have b22 := trans_nwF b21 r
          replace rx := rd_nwF rx r
          replace ry := rd_nwF ry r
          clear r b21
          go_wp2_with fail
          refine (impAreAlike_any qx mx rx qy my ry).mono ?_
          rintro e w23 ⟨he, r⟩
          rw [HK.out] at he
          subst he
          have b23 := trans_nwF b22 r
          replace rx := rd_nwF rx r
          replace ry := rd_nwF ry r
          clear r b22
          cases k with
          | false =>
            go_wp2_with fail
            go_ret
            exact ⟨rfl, b23⟩
          | true =>
            have HE := Lib.hid (HCN.out rfl)
            have HF1 := Lib.hid (HFO.out rfl)
            clear HCN HFO
            go_wp2_with fail
            refine (impCountRows_any (f := x) (Lib.hid rfl) rx).mono ?_
            rintro e w24 ⟨rfl, r⟩
            rw [HE.out]
            have b24 := trans_nwF b23 r
            replace rx := rd_nwF rx r
            replace ry := rd_nwF ry r
            clear r b23
            obtain ⟨D, hD⟩ : ∃ D, cntR y = D := ⟨_, rfl⟩
            rw [hD]
            have HD := Lib.hid hD
            clear hD
            go_wp2_with fail
            refine (impCountRows_any (f := y) (Lib.hid rfl) ry).mono ?_
            rintro e w25 ⟨rfl, r⟩
            rw [HD.out]
            have b25 := trans_nwF b24 r
            replace rx := rd_nwF rx r
            replace ry := rd_nwF ry r
            have one := rdSS_oneF (x := x) rfl rx qx mx
            have q26 : Below w25.heap.size w25 (w25.alloc (Obj.cells #[.slice Ax x.length cx] 25)) := (Below.refl _ _).alloc (Nat.le_refl _) _
            have b26 := trans_nwF b25 q26
            have ry26 := rd_nwF ry q26
            clear r b24 b25 rx ry
            go_wp2_with fail
            refine (impFollows_any (X := [x]) (f := y) (n := 1) (Lib.hid rfl) (by omega) (Nat.le_refl _) (by unfold maxLen; omega) one (Lib.hid rfl) qy my ry26).mono ?_
            rintro e w27 ⟨he, r⟩
            rw [HF1.out] at he
            subst he
            have b27 := trans_nwF b26 r
            go_wp2_with fail
            go_ret
            exact ⟨rfl, b27⟩
        | true =>
          have hc := H3.out hF
          have HFG := Lib.hid (isF_not hF)
          rw [show fmlL (g ++ [-1]) = g ++ [-1] by unfold fmlL; rw [hF]; rfl] at hrow
          obtain ⟨q, hq⟩ : ∃ q, g ++ [-1] = q := ⟨_, rfl⟩
          obtain ⟨M, hM⟩ : ∃ M, q.length = M := ⟨_, rfl⟩
          rw [hq] at hrow hc
          have hM0 : 0 < M := by rw [← hM, ← hq]; simp
          have hM1 : (0 : Int) < (M : Int) := by omega
          obtain ⟨Am, cm, rfl, rm, _, _⟩ := hrow.rd (n := M) (by rw [ivs_len, hM])
          have HM := Lib.hid hM
          obtain ⟨D, hD⟩ : ∃ D, cntR q = D := ⟨_, rfl⟩
          have HD := Lib.hid hD
          rw [hD] at hc
          have ww1 : IntKind.i64.wrap (64 - (C : Int)) = (D : Int) := by rw [show (64 : Int) - (C : Int) = (D : Int) by omega]; exact IntWalk.i64_in _ (by omega)
          clear r hrow hF b14 hq hM hD
          go_wp2_with fail
          refine (impIsFormula_any (f := g) (Lib.hid rfl) rg).mono ?_
          rintro e w16 ⟨he, r⟩
          rw [HFG.out] at he
          subst he
          have b16 := trans_nwF b15 r
          replace rm := rd_nwF rm r
          clear r b15 rg
          go_wp2_with fail
          refine (impCountRows_any (f := q) HM rm).mono ?_
          rintro e w17 ⟨rfl, r⟩
          rw [HD.out]
          have b17 := trans_nwF b16 r
          clear r b16 rm
          go_wp2_with fail
          refine (drawAlk (HC.out.below b17)).mono ?_
          rintro e w20 ⟨x, y, Ax, Ay, cx, cy, hx, hy, rfl, ⟨qx, mx⟩, ⟨qy, my⟩, rx, ry, r⟩
          have b20 := trans_nwF b17 r
          clear r b17
          have hcm := alkR_comm y x
          have hcn := fun h : alkR x y = true => alkR_cnt h
          have hfo := fun h : alkR x y = true => alkR_fol h
          obtain ⟨k, hk⟩ : ∃ k, alkR x y = k := ⟨_, rfl⟩
          rw [hk] at hcm hcn hfo
          have HK := Lib.hid hk
          have HK2 := Lib.hid hcm
          have HCN := Lib.hid hcn
          have HFO := Lib.hid hfo
          have kk : (k == k) = true := by simp
          clear hk hcm hcn hfo
          go_wp2_with fail
          refine (impAreAlike_any qx mx rx qy my ry).mono ?_
          rintro e w21 ⟨he, r⟩
          rw [HK.out] at he
          subst he
          have b21 := trans_nwF b20 r
          replace rx := rd_nwF rx r
          replace ry := rd_nwF ry r
          clear r b20
          go_wp2_with fail
          refine (impAreAlike_any qy my ry qx mx rx).mono ?_
          rintro e w22 ⟨he, r⟩
          rw [HK2.out] at he
          subst he
          have b22 := trans_nwF b21 r
          replace rx := rd_nwF rx r
          replace ry := rd_nwF ry r
          clear r b21
          go_wp2_with fail
          refine (impAreAlike_any qx mx rx qy my ry).mono ?_
          rintro e w23 ⟨he, r⟩
          rw [HK.out] at he
          subst he
          have b23 := trans_nwF b22 r
          replace rx := rd_nwF rx r
          replace ry := rd_nwF ry r
          clear r b22
          cases k with
          | false =>
            go_wp2_with fail
            go_ret
            exact ⟨rfl, b23⟩
          | true =>
            have HE := Lib.hid (HCN.out rfl)
            have HF1 := Lib.hid (HFO.out rfl)
            clear HCN HFO
            go_wp2_with fail
            refine (impCountRows_any (f := x) (Lib.hid rfl) rx).mono ?_
            rintro e w24 ⟨rfl, r⟩
            rw [HE.out]
            have b24 := trans_nwF b23 r
            replace rx := rd_nwF rx r
            replace ry := rd_nwF ry r
            clear r b23
            obtain ⟨D, hD⟩ : ∃ D, cntR y = D := ⟨_, rfl⟩
            rw [hD]
            have HD := Lib.hid hD
            clear hD
            go_wp2_with fail
            refine (impCountRows_any (f := y) (Lib.hid rfl) ry).mono ?_
            rintro e w25 ⟨rfl, r⟩
            rw [HD.out]
            have b25 := trans_nwF b24 r
            replace rx := rd_nwF rx r
            replace ry := rd_nwF ry r
            have one := rdSS_oneF (x := x) rfl rx qx mx
            have q26 : Below w25.heap.size w25 (w25.alloc (Obj.cells #[.slice Ax x.length cx] 25)) := (Below.refl _ _).alloc (Nat.le_refl _) _
            have b26 := trans_nwF b25 q26
            have ry26 := rd_nwF ry q26
            clear r b24 b25 rx ry
            go_wp2_with fail
            refine (impFollows_any (X := [x]) (f := y) (n := 1) (Lib.hid rfl) (by omega) (Nat.le_refl _) (by unfold maxLen; omega) one (Lib.hid rfl) qy my ry26).mono ?_
            rintro e w27 ⟨he, r⟩
            rw [HF1.out] at he
            subst he
            have b27 := trans_nwF b26 r
            go_wp2_with fail
            go_ret
            exact ⟨rfl, b27⟩
end Go.Proofs.YtignchefkihdaaaDoor
