/- The law of chapter 12: nobody who speaks says what cannot hold, and whoever must admit a thing cannot deny it. No conditions but that the code is small. -/
import Derived.Test.YtignchefkihdaaaDrawSt2
import Derived.Test.YtignchefkihdaaaSayC3
import Derived.Test.YtignchefkihdaaaFndC
import Derived.Test.YtignchefkihdaaaLstC
import Derived.Test.YtignchefkihdaaaQuaC2
import Derived.Test.YtignchefkihdaaaTabC2
import Derived.Test.YtignchefkihdaaaJoinC
import Derived.Deep.DeepCutAuto
import Derived.Deep.CutRange
namespace Go.Proofs.Ytignchefkihdaaa
open Go.ChangeShapes Go.WideShapes Go.ChangeAt Go.RowKit
set_option maxRecDepth 100000
/-- What is kept: the list and the formula. -/
structure KS (W : World) (Ax Af : Option Addr) (X : List (List Int)) (f : List Int) (w : World) : Prop where
  hb : Below W.heap.size W w
  rx : RdSS w w.heap.size Ax X
  rf : Rd w w.heap.size Af (ivs f)
theorem KS.new {W : World} {Ax Af : Option Addr} {X : List (List Int)} {f : List Int} {w w' : World} (h : KS W Ax Af X f w) (r : Below w.heap.size w w') : KS W Ax Af X f w' := ⟨trans_nwS h.hb r, rdSS_nwS h.rx r, rd_nwS h.rf r⟩
theorem say_yes {X : List (List Int)} {f : List Int} (h : storeB (X ++ [f]) = true) : sayX X f = X ++ [f] := by unfold sayX; rw [if_pos h]
theorem say_no {X : List (List Int)} {f : List Int} (h : storeB (X ++ [f]) = false) : sayX X f = X := by unfold sayX; rw [if_neg (by rw [h]; simp)]
theorem tb_in {X : List (List Int)} {f : List Int} (h : f ∈ X) : tbB X f = true ∧ (tbX X f).length + 1 = X.length := by
  rcases tb_cases X f with ⟨h1, _, _⟩ | ⟨k, hk, _, h2, h3⟩
  · rcases fnd_cases X f with ⟨_, h4⟩ | ⟨k, _, h5, _⟩
    · exact absurd rfl (h4 f h)
    · omega
  · refine ⟨h2, ?_⟩
    rw [h3, List.length_append, List.length_take, List.length_drop]
    omega
theorem tb_sub (X : List (List Int)) (f : List Int) : List.Sublist (tbX X f) X := by
  rcases tb_cases X f with ⟨_, _, h⟩ | ⟨k, hk, _, _, h⟩
  · rw [h]; exact List.Sublist.refl _
  · rw [h]
    conv => rhs; rw [← List.take_append_drop k X]
    exact List.Sublist.append (List.Sublist.refl _) (by rw [List.drop_eq_getElem_cons hk]; exact List.sublist_cons_self _ _)
set_option maxHeartbeats 16000000 in
theorem st_core {W : World} {A : Option Addr} {n c : Nat} (h : Code8 W A n) (hs : n ≤ 1048576) : Calls Try.prog 3 #[.slice A n c] W (fun e W' => e = .returned (.bool true) ∧ Below W.heap.size W W') := by
  have HC := Lib.hid h
  go_enter Try.func3, Try.ntmps3
  go_wp2_with (go_at_call 13; refine (big_no (by omega)).mono ?_; rintro e w1 ⟨rfl, rfl⟩)
  refine (drawSay h).mono ?_
  rintro e w2 ⟨X, f, Ax, Af, cx, cf, hX, hf, rfl, ⟨qx, mx⟩, ⟨qf, mf⟩, rx, rf, b2⟩
  have HX := Lib.hid hX
  have hxl := hX.1
  have ks : KS W Ax Af X f w2 := ⟨b2, rx, rf⟩
  clear h hX rx rf b2
  go_wp2_with fail
  refine (impSay_any (X := X) (f := f) (Lib.hid rfl) (by omega) (Lib.hid HX.out.big) ks.rx (Lib.hid rfl) (by omega) ks.rf).mono ?_
  rintro e w3 ⟨v, rfl, ho, r⟩
  replace ks := ks.new r
  obtain ⟨R, hR⟩ : ∃ R, sayX X f = R := ⟨_, rfl⟩
  obtain ⟨b, hb⟩ : ∃ b, storeB (X ++ [f]) = b := ⟨_, rfl⟩
  rw [hR] at ho
  rw [hb]
  obtain ⟨M, hM⟩ : ∃ M, R.length = M := ⟨_, rfl⟩
  obtain ⟨Ar, cr, rfl, rr, qr, mr⟩ := ho.rd hM
  have HR := Lib.hid hR
  have HB := Lib.hid hb
  have HM := Lib.hid hM
  have hML : M ≤ 6 := by rw [← hM, ← hR]; have := (HX.out.say (f := f) hf).1; omega
  have HRX := Lib.hid (show Shr 6 R by rw [← hR]; exact HX.out.say hf)
  clear hR hb hM ho r
  go_upto_region 5 with fail
  go_cut [59] from 29 to 59 (fun c wx => c = .bool false ∧ KS W Ax Af X f wx ∧ RdSS wx wx.heap.size Ar R)
  case first =>
    cases b with
    | false =>
      have e : R = X := by rw [← HR.out, say_no HB.out]
      have eM : X.length = M := by rw [← HM.out, e]
      subst eM
      go_wp2_with fail
      go_meet
      case rel => exact ⟨rfl, ks, rr⟩
    | true =>
      have e : R = X ++ [f] := by rw [← HR.out, say_yes HB.out]
      have eM : M = X.length + 1 := by rw [← HM.out, e]; simp
      have ww1 : IntKind.i64.wrap ((X.length : Int) + 1) = (M : Int) := by rw [show (X.length : Int) + 1 = (M : Int) by omega]; exact IntWalk.i64_in _ (by omega)
      have hs1 := Lib.hid (show storeB R = true by rw [e]; exact HB.out)
      have ha1 := Lib.hid (show admF R f = true by rw [e]; exact say_adm HB.out)
      clear e eM
      go_wp2_with fail
      refine (impIsStore_any (X := R) HM (by omega) (Lib.hid HRX.out.big) rr).mono ?_
      rintro e w4 ⟨he, r⟩
      rw [hs1.out] at he
      subst he
      replace ks := ks.new r
      replace rr := rdSS_nwS rr r
      clear r
      go_wp2_with fail
      refine (impMustAdmit_any (X := R) (f := f) HM (by omega) qr mr (Lib.hid HRX.out.big) rr (Lib.hid rfl) qf mf ks.rf).mono ?_
      rintro e w5 ⟨he, r⟩
      rw [ha1.out] at he
      subst he
      replace ks := ks.new r
      replace rr := rdSS_nwS rr r
      clear r
      go_wp2_with fail
      go_meet
      case rel => exact ⟨rfl, ks, rr⟩
  case rest =>
    clear ks rr
    obtain ⟨rfl, ks, rr⟩ := hcut
    go_upto_if 60 with fail
    go_cut [] from 7 to 75 (fun wx => KS W Ax Af X f wx)
    case first =>
      cases b with
      | false =>
        go_wp2_with fail
        go_meet
        case rel => exact ks
      | true =>
        have e : R = X ++ [f] := by rw [← HR.out, say_yes HB.out]
        obtain ⟨t1, t2⟩ := tb_in (X := R) (f := f) (by rw [e]; simp)
        have t3 : (tbX R f).length = X.length := by rw [e] at t2 ⊢; simpa using t2
        have T1 := Lib.hid t1
        have T3 := Lib.hid t3
        clear e t1 t2 t3
        go_wp2_with fail
        refine (impTakeBack_any (X := R) (f := f) HM (by omega) (Lib.hid HRX.out.big) rr (Lib.hid rfl) (by omega) ks.rf).mono ?_
        rintro e w6 ⟨v, rfl, ho, r⟩
        rw [T1.out]
        obtain ⟨At, ct, rfl, _, _, _⟩ := ho.rd (n := X.length) T3.out
        replace ks := ks.new r
        clear r ho
        go_wp2_with fail
        go_meet
        case rel => exact ks
    case rest =>
      clear ks rr HR HB HM HRX hML qr mr
      have ks := hcut
      clear hcut
      go_upto_region 11 with fail
      go_cut [84] from 76 to 84 (fun c wx => ∃ t : Bool, c = .bool t ∧ (t = true → admF X f = true ∧ isF (f ++ [-1]) = true) ∧ KS W Ax Af X f wx)
      case first =>
        cases hA : admF X f with
        | false =>
          have HA := Lib.hid hA
          clear hA
          go_wp2_with fail
          refine (impMustAdmit_any (X := X) (f := f) (Lib.hid rfl) (by omega) qx mx (Lib.hid HX.out.big) ks.rx (Lib.hid rfl) qf mf ks.rf).mono ?_
          rintro e w7 ⟨he, r⟩
          rw [HA.out] at he
          subst he
          replace ks := ks.new r
          clear r
          go_wp2_with fail
          go_meet
          case rel => exact ⟨false, rfl, (fun h => by cases h), ks⟩
        | true =>
          have HA := Lib.hid hA
          clear hA
          go_wp2_with fail
          refine (impMustAdmit_any (X := X) (f := f) (Lib.hid rfl) (by omega) qx mx (Lib.hid HX.out.big) ks.rx (Lib.hid rfl) qf mf ks.rf).mono ?_
          rintro e w7 ⟨he, r⟩
          rw [HA.out] at he
          subst he
          replace ks := ks.new r
          clear r
          go_wp2_with fail
          refine (impNotOf_any (f := f) (Lib.hid rfl) (by omega) qf mf ks.rf).mono ?_
          rintro e w8 ⟨v, rfl, hrow, r⟩
          replace ks := ks.new r
          cases hF : isF (f ++ [-1]) with
          | false =>
            rw [show fmlL (f ++ [-1]) = [] by unfold fmlL; rw [hF]; rfl] at hrow
            obtain ⟨Aq, cq, rfl, _, _, _⟩ := hrow.rd (n := 0) rfl
            clear r hrow hF
            go_wp2_with fail
            go_meet
            case rel => exact ⟨false, rfl, (fun h => by cases h), ks⟩
          | true =>
            have HF := Lib.hid hF
            rw [show fmlL (f ++ [-1]) = f ++ [-1] by unfold fmlL; rw [hF]; rfl] at hrow
            obtain ⟨Aq, cq, rfl, _, _, _⟩ := hrow.rd (n := f.length + 1) (by simp [ivs_len])
            obtain ⟨Q, hQ⟩ : ∃ Q, f.length + 1 = Q := ⟨_, rfl⟩
            rw [hQ]
            have hQ0 : (0 : Int) < (Q : Int) := by omega
            clear r hrow hF hQ
            go_wp2_with fail
            go_meet
            case rel => exact ⟨true, by simp; omega, fun _ => ⟨HA.out, HF.out⟩, ks⟩
      case rest =>
        clear ks
        obtain ⟨t, rfl, ht, ks⟩ := hcut
        have HT := Lib.hid ht
        clear ht
        go_upto_if 84 with fail
        go_cut [] from 9 to 92 (fun wx => KS W Ax Af X f wx)
        case first =>
          cases t with
          | false =>
            go_wp2_with fail
            go_meet
            case rel => exact ks
          | true =>
            obtain ⟨hA, hF⟩ := HT.out rfl
            have HN := Lib.hid (adm_not hA hF)
            have hfl : fmlL (f ++ [-1]) = f ++ [-1] := by unfold fmlL; rw [hF]; rfl
            have hql : (f ++ [-1]).length = f.length + 1 := by simp
            obtain ⟨q, hq⟩ : ∃ q, f ++ [-1] = q := ⟨_, rfl⟩
            have HFL := Lib.hid hfl
            rw [hq] at HN hql
            have HQL := Lib.hid hql
            have HQ := Lib.hid hq
            clear hA hF HT hfl hql hq
            go_wp2_with fail
            refine (impNotOf_any (f := f) (Lib.hid rfl) (by omega) qf mf ks.rf).mono ?_
            rintro e w8 ⟨v, rfl, hrow, r⟩
            rw [HFL.out, HQ.out] at hrow
            obtain ⟨Aq, cq, rfl, rq, _, _⟩ := hrow.rd (n := f.length + 1) (by rw [ivs_len, HQL.out])
            replace ks := ks.new r
            clear r hrow
            go_wp2_with fail
            refine (impSay_any (X := X) (f := q) (Lib.hid rfl) (by omega) (Lib.hid HX.out.big) ks.rx HQL (by omega) rq).mono ?_
            rintro e w9 ⟨v, rfl, ho, r⟩
            rw [HN.out]
            replace ks := ks.new r
            clear r rq
            go_wp2_with fail
            go_meet
            case rel => exact ks
        case rest =>
          clear ks HT
          have ks := hcut
          clear hcut
          go_wp2_with fail
          refine (impLeastBack_any (X := X) (f := f) (Lib.hid rfl) (by omega) (Lib.hid HX.out.big) ks.rx (Lib.hid rfl) ks.rf).mono ?_
          rintro e w10 ⟨rfl, r⟩
          replace ks := ks.new r
          have hle := lst_le X f
          have HQU := Lib.hid (fun h : 0 < lstN X f => lst_qua h)
          have HLC := Lib.hid (fun h : storeB X = true => lst_can (f := f) h)
          obtain ⟨L, hL⟩ : ∃ L, lstN X f = L := ⟨_, rfl⟩
          rw [hL] at hle HQU HLC ⊢
          have hnl : ¬ (X.length : Int) < L := by omega
          have dnl : decide ((X.length : Int) < L) = false := decide_eq_false hnl
          clear r hL
          go_upto_region 16 with fail
          go_cut [124] from 96 to 124 (fun c wx => c = .bool false ∧ KS W Ax Af X f wx)
          case first =>
            cases hS : storeB X with
            | false =>
              have HS := Lib.hid hS
              clear hS HLC
              by_cases hL0 : 0 < L
              · have dL0 : decide (0 < L) = true := decide_eq_true hL0
                have hq := HQU.out hL0
                go_wp2_with fail
                refine (impIsStore_any (X := X) (Lib.hid rfl) (by omega) (Lib.hid HX.out.big) ks.rx).mono ?_
                rintro e w11 ⟨he, r⟩
                rw [HS.out] at he
                subst he
                replace ks := ks.new r
                clear r
                go_wp2_with fail
                refine (impQuarrels_any (X := X) (f := f) (Lib.hid rfl) (by omega) (Lib.hid HX.out.big) ks.rx qf mf ks.rf).mono ?_
                rintro e w12 ⟨v, rfl, ho, r⟩
                obtain ⟨Q, hQ⟩ : ∃ Q, (quaX X f).length = Q := ⟨_, rfl⟩
                obtain ⟨Aq, cq, rfl, _, _, _⟩ := ho.rd hQ
                rw [hQ] at hq
                have hnq : ¬ L < (Q : Int) := by omega
                have dnq : decide (L < (Q : Int)) = false := decide_eq_false hnq
                replace ks := ks.new r
                clear r ho hQ
                go_wp2_with fail
                go_meet
                case rel => exact ⟨rfl, ks⟩
              · have dL0 : decide (0 < L) = false := decide_eq_false hL0
                go_wp2_with fail
                refine (impIsStore_any (X := X) (Lib.hid rfl) (by omega) (Lib.hid HX.out.big) ks.rx).mono ?_
                rintro e w11 ⟨he, r⟩
                rw [HS.out] at he
                subst he
                replace ks := ks.new r
                clear r
                go_wp2_with fail
                go_meet
                case rel => exact ⟨rfl, ks⟩
            | true =>
              have HS := Lib.hid hS
              have hz := HLC.out hS
              obtain ⟨z, hzz⟩ : ∃ z, canR (X ++ [f]) = z := ⟨_, rfl⟩
              rw [hzz] at hz
              have HZ := Lib.hid hzz
              have hz1 : (L == 0) = z := by rw [← hz]; rfl
              have zz : (z != z) = false := by simp
              clear hS HLC hz hzz
              by_cases hL0 : 0 < L
              · have dL0 : decide (0 < L) = true := decide_eq_true hL0
                have hq := HQU.out hL0
                go_wp2_with fail
                refine (impIsStore_any (X := X) (Lib.hid rfl) (by omega) (Lib.hid HX.out.big) ks.rx).mono ?_
                rintro e w11 ⟨he, r⟩
                rw [HS.out] at he
                subst he
                replace ks := ks.new r
                clear r
                go_wp2_with fail
                refine (with_any (X := X) (f := f) (Lib.hid rfl) (by omega) ks.rx (Lib.hid rfl) qf mf ks.rf).mono ?_
                rintro e w12 ⟨A2, c2, rfl, r2, r⟩
                replace ks := ks.new r
                clear r
                go_wp2_with fail
                refine (impCanHold_any (X := X ++ [f]) (Lib.hid (by simp)) (by omega) r2).mono ?_
                rintro e w13 ⟨he, r⟩
                rw [HZ.out] at he
                subst he
                replace ks := ks.new r
                clear r r2
                go_wp2_with fail
                refine (impQuarrels_any (X := X) (f := f) (Lib.hid rfl) (by omega) (Lib.hid HX.out.big) ks.rx qf mf ks.rf).mono ?_
                rintro e w14 ⟨v, rfl, ho, r⟩
                obtain ⟨Q, hQ⟩ : ∃ Q, (quaX X f).length = Q := ⟨_, rfl⟩
                obtain ⟨Aq, cq, rfl, _, _, _⟩ := ho.rd hQ
                rw [hQ] at hq
                have hnq : ¬ L < (Q : Int) := by omega
                have dnq : decide (L < (Q : Int)) = false := decide_eq_false hnq
                replace ks := ks.new r
                clear r ho hQ
                go_wp2_with fail
                go_meet
                case rel => exact ⟨rfl, ks⟩
              · have dL0 : decide (0 < L) = false := decide_eq_false hL0
                go_wp2_with fail
                refine (impIsStore_any (X := X) (Lib.hid rfl) (by omega) (Lib.hid HX.out.big) ks.rx).mono ?_
                rintro e w11 ⟨he, r⟩
                rw [HS.out] at he
                subst he
                replace ks := ks.new r
                clear r
                go_wp2_with fail
                refine (with_any (X := X) (f := f) (Lib.hid rfl) (by omega) ks.rx (Lib.hid rfl) qf mf ks.rf).mono ?_
                rintro e w12 ⟨A2, c2, rfl, r2, r⟩
                replace ks := ks.new r
                clear r
                go_wp2_with fail
                refine (impCanHold_any (X := X ++ [f]) (Lib.hid (by simp)) (by omega) r2).mono ?_
                rintro e w13 ⟨he, r⟩
                rw [HZ.out] at he
                subst he
                replace ks := ks.new r
                clear r r2
                go_wp2_with fail
                go_meet
                case rel => exact ⟨rfl, ks⟩
          case rest =>
            clear ks
            obtain ⟨rfl, ks⟩ := hcut
            have b15 := ks.hb
            clear ks HQU HLC hle hnl dnl HX qx mx qf mf
            go_wp2_with fail
            refine (drawTb (HC.out.below b15)).mono ?_
            rintro e w16 ⟨Z, g, Az, Ag, cz, cg, hZ, hg, rfl, ⟨qz, mz⟩, ⟨qg, mg⟩, rz, rg, r⟩
            have HZ := Lib.hid hZ
            have hzl := hZ.1
            have b16 := trans_nwS b15 r
            clear r b15 hZ
            go_wp2_with fail
            refine (impTakeBack_any (X := Z) (f := g) (Lib.hid rfl) (by omega) (Lib.hid HZ.out.big) rz (Lib.hid rfl) (by omega) rg).mono ?_
            rintro e w17 ⟨v, rfl, ho, r⟩
            have b17 := trans_nwS b16 r
            replace rz := rdSS_nwS rz r
            have hsub := Lib.hid (tb_sub Z g)
            have HTC := Lib.hid (tb_cases Z g)
            obtain ⟨Y, hY⟩ : ∃ Y, tbX Z g = Y := ⟨_, rfl⟩
            obtain ⟨t, htb⟩ : ∃ t, tbB Z g = t := ⟨_, rfl⟩
            rw [hY] at ho hsub HTC
            rw [htb] at HTC ⊢
            clear r b16 hY htb rg
            rcases HTC.out with ⟨_, rfl, rfl⟩ | ⟨k, hk, _, rfl, hYe⟩
            · obtain ⟨Ay, cy, rfl, _, _, _⟩ := ho.rd (n := Y.length) rfl
              clear ho rz HTC hsub
              go_wp2_with fail
              go_ret
              exact ⟨rfl, b17⟩
            · have hYl : Y.length + 1 = Z.length := by rw [hYe, List.length_append, List.length_take, List.length_drop]; omega
              obtain ⟨M, hM⟩ : ∃ M, Y.length = M := ⟨_, rfl⟩
              have ww1 : IntKind.i64.wrap ((Z.length : Int) - 1) = (M : Int) := by rw [show (Z.length : Int) - 1 = (M : Int) by omega]; exact IntWalk.i64_in _ (by omega)
              have mm : ((M : Int) == (M : Int)) = true := by simp
              obtain ⟨Ay, cy, rfl, ry, _, _⟩ := ho.rd hM
              have HY := Lib.hid hM
              have HYB := Lib.hid (show ∀ y ∈ Y, y.length ≤ 1099511627776 from fun y hy => HZ.out.big y (hsub.out.subset hy))
              have hM6 : M ≤ 6 := by omega
              clear ho HTC hYe hYl hM hk
              cases hS : storeB Z with
              | false =>
                have HS := Lib.hid hS
                clear hS
                go_wp2_with fail
                refine (impIsStore_any (X := Z) (Lib.hid rfl) (by omega) (Lib.hid HZ.out.big) rz).mono ?_
                rintro e w18 ⟨he, r⟩
                rw [HS.out] at he
                subst he
                have b18 := trans_nwS b17 r
                clear r b17
                go_wp2_with fail
                go_ret
                exact ⟨rfl, b18⟩
              | true =>
                have HS := Lib.hid hS
                have HS2 := Lib.hid (store_sub hS hsub.out)
                clear hS
                go_wp2_with fail
                refine (impIsStore_any (X := Z) (Lib.hid rfl) (by omega) (Lib.hid HZ.out.big) rz).mono ?_
                rintro e w18 ⟨he, r⟩
                rw [HS.out] at he
                subst he
                have b18 := trans_nwS b17 r
                replace ry := rdSS_nwS ry r
                clear r b17 rz
                go_wp2_with fail
                refine (impIsStore_any (X := Y) HY (by omega) HYB ry).mono ?_
                rintro e w19 ⟨he, r⟩
                rw [HS2.out] at he
                subst he
                have b19 := trans_nwS b18 r
                clear r b18 ry
                go_wp2_with fail
                go_ret
                exact ⟨rfl, b19⟩
end Go.Proofs.Ytignchefkihdaaa
