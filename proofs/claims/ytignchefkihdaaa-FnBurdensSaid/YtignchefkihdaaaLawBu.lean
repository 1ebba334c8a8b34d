/- The law of chapter 13: who must speak, and when all is settled. No conditions but that the code is small. -/
import Derived.Test.YtignchefkihdaaaDrawBu
import Derived.Test.YtignchefkihdaaaRepC
import Derived.Test.YtignchefkihdaaaRaiC
import Derived.Test.YtignchefkihdaaaMstC
import Derived.Test.YtignchefkihdaaaAsc
namespace Go.Proofs.Ytignchefkihdaaa
open Go.ChangeShapes Go.WideShapes Go.ChangeAt Go.RowKit
set_option maxRecDepth 100000
theorem rd_nwB {w w' : World} {A : Option Addr} {xs : List Value} (h : Rd w w.heap.size A xs) (r : Below w.heap.size w w') : Rd w' w'.heap.size A xs := (h.below r).more r.size
theorem trans_nwB {a b c : World} (h : Below a.heap.size a b) (r : Below b.heap.size b c) : Below a.heap.size a c := h.trans (r.mono h.size)
theorem mst_lenB (X : List T3) (q : Int) : (mstL X q).length ≤ X.length := by
  unfold mstL
  split
  · rw [List.length_map]; exact List.length_filter_le _ _
  · exact Nat.zero_le _
set_option maxHeartbeats 16000000 in
theorem bu_core {W : World} {A : Option Addr} {n c : Nat} (h : Code8 W A n) (hs : n ≤ 1048576) : Calls Try.prog 4 #[.slice A n c] W (fun e W' => e = .returned (.bool true) ∧ Below W.heap.size W W') := by
  have HC := Lib.hid h
  go_enter Try.func4, Try.ntmps4
  go_wp2_with (go_at_call 13; refine (big_no (by omega)).mono ?_; rintro e w1 ⟨rfl, rfl⟩)
  refine (drawRep h).mono ?_
  rintro e w2 ⟨v, X, k, q, s, hq, rfl, hrow, hx, b2⟩
  obtain ⟨Ax, cx, rfl, rx, _, _⟩ := hrow.rd (n := X.length) rfl
  clear h hrow hq
  go_wp2_with fail
  refine (impReply_any (X := X) (Lib.hid rfl) (by omega) rx).mono ?_
  rintro e w3 ⟨v3, rfl, row3, r⟩
  have b3 := trans_nwB b2 r
  replace rx := rd_nwB rx r
  obtain ⟨Ay, cy, rfl, ry, _, _⟩ := row3.rd (n := X.length) (rep_len X k q s)
  clear r row3 b2
  cases hi : repI X k q s with
  | none =>
    rw [show (none : Option Nat).isSome = false from rfl]
    clear ry rx hi
    go_wp2_with fail
    refine (drawRai (HC.out.below b3)).mono ?_
    rintro e w12 ⟨v, Y, k', q', ⟨q0, q1⟩, rfl, hrow, hy, r⟩
    obtain ⟨Ap, cp, rfl, rp, _, _⟩ := hrow.rd (n := Y.length) rfl
    have b12 := trans_nwB b3 r
    clear r hrow b3
    go_wp2_with fail
    refine (impRaise_any (X := Y) (Lib.hid rfl) (by omega) rp).mono ?_
    rintro e w13 ⟨v3, rfl, row3, r⟩
    have b13 := trans_nwB b12 r
    clear r b12 rp
    cases hb : ptB (raiX Y k' q') with
    | false =>
      rw [raiL_no hb] at row3
      obtain ⟨Ar, cr, rfl, _, _, _⟩ := row3.rd (n := Y.length) rfl
      clear row3 hb
      go_wp2_with fail
      refine (drawSet (HC.out.below b13)).mono ?_
      rintro e w20 ⟨v, Z, rfl, hrow, hz, r⟩
      obtain ⟨Az, cz, rfl, rz, _, _⟩ := hrow.rd (n := Z.length) rfl
      have b20 := trans_nwB b13 r
      clear r hrow b13
      go_wp2_with fail
      refine (impIsSettled_any (X := Z) (Lib.hid rfl) (by omega) rz).mono ?_
      rintro e w21 ⟨he, r⟩
      have b21 := trans_nwB b20 r
      replace rz := rd_nwB rz r
      clear r b20
      cases hp : setP Z with
      | false =>
        rw [hp] at he
        subst he
        clear rz hp
        go_wp2_with fail
        refine (drawWon (HC.out.below b21)).mono ?_
        rintro e w30 ⟨v, D, sd, rfl, hrow, hd, r⟩
        obtain ⟨Ad, cd, rfl, rd, _, _⟩ := hrow.rd (n := D.length) rfl
        have b30 := trans_nwB b21 r
        clear r hrow b21
        go_wp2_with fail
        refine (impWon_any (X := D) (Lib.hid rfl) (by omega) rd).mono ?_
        rintro e w31 ⟨rfl, r⟩
        have b31 := trans_nwB b30 r
        obtain ⟨d1, d2⟩ := won_le D sd
        obtain ⟨x, hx⟩ : ∃ x, wonN D sd = x := ⟨_, rfl⟩
        rw [hx] at d1 d2 ⊢
        have ww1 := IntWalk.i64_in (-(D.length : Int)) (by omega)
        clear r b30 hx rd
        go_wp2_with fail
        go_ret
        exact ⟨rfl, b31⟩
      | true =>
        rw [hp] at he
        subst he
        have HS := Lib.hid (set_none hp)
        clear hp
        go_wp2_with fail
        go_loopw [15] (fun i wr => ∃ j : Nat, j ≤ Z.length ∧ i = .int .i64 j ∧ wr = w21) (fun i _ => Z.length - (intOf i).toNat)
        case atStart => exact ⟨0, Nat.zero_le _, rfl, rfl⟩
        case round =>
          obtain ⟨j, hj, rfl, rfl⟩ := hrel
          by_cases hlt : j < Z.length
          · obtain ⟨ad, p, rfl, hp, hab, c0, c1, c2⟩ := t3_cells rz hlt
            have h3 := HS.out Z[j] (List.getElem_mem _)
            obtain ⟨y, hy⟩ : ∃ y, Z[j].2.2 = y := ⟨_, rfl⟩
            rw [hy] at c2 h3
            have n0 : (y == 0) = false := by simpa using h3.1
            have n2 : (y == 2) = false := by simpa using h3.2
            have i0 : (0 : Int) ≤ (j : Int) := by omega
            have i1 : (j : Int) < (Z.length : Int) := by omega
            have ww1 := IntWalk.i64_in ((j : Int) + 1) (by omega)
            clear hy h3 c0 c1
            go_wp2_with fail
            go_roundw
            case rel => exact ⟨j + 1, by omega, by go_num, trivial⟩
            case measure => simp [intOf]; omega
          · have e : j = Z.length := by omega
            subst e
            clear rz HS
            go_wp2_with fail
            refine (drawWon (HC.out.below b21)).mono ?_
            rintro e w30 ⟨v, D, sd, rfl, hrow, hd, r⟩
            obtain ⟨Ad, cd, rfl, rd, _, _⟩ := hrow.rd (n := D.length) rfl
            have b30 := trans_nwB b21 r
            clear r hrow b21
            go_wp2_with fail
            refine (impWon_any (X := D) (Lib.hid rfl) (by omega) rd).mono ?_
            rintro e w31 ⟨rfl, r⟩
            have b31 := trans_nwB b30 r
            obtain ⟨d1, d2⟩ := won_le D sd
            obtain ⟨x, hx⟩ : ∃ x, wonN D sd = x := ⟨_, rfl⟩
            rw [hx] at d1 d2 ⊢
            have ww1 := IntWalk.i64_in (-(D.length : Int)) (by omega)
            clear r b30 hx rd
            go_wp2_with fail
            go_ret
            exact ⟨rfl, b31⟩
    | true =>
      rw [raiL_yes hb] at row3
      have HM := Lib.hid (rai_must hb)
      have HP := Lib.hid hb
      have HL := Lib.hid (rai_len Y k' q')
      obtain ⟨R, hR⟩ : ∃ R, raiX Y k' q' = R := ⟨_, rfl⟩
      rw [hR] at HM HP HL row3
      obtain ⟨Ar, cr, rfl, rr, _, _⟩ := row3.rd (n := Y.length + 1) HL.out
      have ww1 := IntWalk.i64_in (3 - q') (by omega)
      have ww2 := IntWalk.i64_in ((Y.length : Int) + 1) (by omega)
      obtain ⟨M, hM⟩ : ∃ M, Y.length + 1 = M := ⟨_, rfl⟩
      have hM2 : IntKind.i64.wrap ((Y.length : Int) + 1) = (M : Int) := by rw [ww2]; omega
      rw [hM]
      have HL := Lib.hid (HL.out.trans hM)
      clear row3 hb hR ww2
      go_wp2_with fail
      refine (impArePoints_any (X := R) HL (by omega) rr).mono ?_
      rintro e w14 ⟨he, r⟩
      rw [HP.out] at he
      subst he
      replace rr := rd_nwB rr r
      have b14 := trans_nwB b13 r
      clear r b13 HP
      go_wp2_with fail
      refine (impMustSpeak_any (X := R) HL (by omega) rr).mono ?_
      rintro e w15 ⟨v5, rfl, row5, r⟩
      have b15 := trans_nwB b14 r
      have hml := mst_lenB R (3 - q')
      rw [HL.out] at hml
      obtain ⟨A5, c5, rfl, r5, _, _⟩ := row5.rd (n := (mstL R (3 - q')).length) (ivs_len _)
      clear r b14 row5 rr
      go_wp2_with fail
      refine (contains_any (S := mstL R (3 - q')) (Lib.hid rfl) (by omega) r5).mono ?_
      rintro e u5 ⟨he, rfl⟩
      rw [HM.out] at he
      subst he
      clear r5 HM
      go_wp2_with fail
      refine (drawSet (HC.out.below b15)).mono ?_
      rintro e w20 ⟨v, Z, rfl, hrow, hz, r⟩
      obtain ⟨Az, cz, rfl, rz, _, _⟩ := hrow.rd (n := Z.length) rfl
      have b20 := trans_nwB b15 r
      clear r hrow b15
      go_wp2_with fail
      refine (impIsSettled_any (X := Z) (Lib.hid rfl) (by omega) rz).mono ?_
      rintro e w21 ⟨he, r⟩
      have b21 := trans_nwB b20 r
      replace rz := rd_nwB rz r
      clear r b20
      cases hp : setP Z with
      | false =>
        rw [hp] at he
        subst he
        clear rz hp
        go_wp2_with fail
        refine (drawWon (HC.out.below b21)).mono ?_
        rintro e w30 ⟨v, D, sd, rfl, hrow, hd, r⟩
        obtain ⟨Ad, cd, rfl, rd, _, _⟩ := hrow.rd (n := D.length) rfl
        have b30 := trans_nwB b21 r
        clear r hrow b21
        go_wp2_with fail
        refine (impWon_any (X := D) (Lib.hid rfl) (by omega) rd).mono ?_
        rintro e w31 ⟨rfl, r⟩
        have b31 := trans_nwB b30 r
        obtain ⟨d1, d2⟩ := won_le D sd
        obtain ⟨x, hx⟩ : ∃ x, wonN D sd = x := ⟨_, rfl⟩
        rw [hx] at d1 d2 ⊢
        have ww1 := IntWalk.i64_in (-(D.length : Int)) (by omega)
        clear r b30 hx rd
        go_wp2_with fail
        go_ret
        exact ⟨rfl, b31⟩
      | true =>
        rw [hp] at he
        subst he
        have HS := Lib.hid (set_none hp)
        clear hp
        go_wp2_with fail
        go_loopw [15] (fun i wr => ∃ j : Nat, j ≤ Z.length ∧ i = .int .i64 j ∧ wr = w21) (fun i _ => Z.length - (intOf i).toNat)
        case atStart => exact ⟨0, Nat.zero_le _, rfl, rfl⟩
        case round =>
          obtain ⟨j, hj, rfl, rfl⟩ := hrel
          by_cases hlt : j < Z.length
          · obtain ⟨ad, p, rfl, hp, hab, c0, c1, c2⟩ := t3_cells rz hlt
            have h3 := HS.out Z[j] (List.getElem_mem _)
            obtain ⟨y, hy⟩ : ∃ y, Z[j].2.2 = y := ⟨_, rfl⟩
            rw [hy] at c2 h3
            have n0 : (y == 0) = false := by simpa using h3.1
            have n2 : (y == 2) = false := by simpa using h3.2
            have i0 : (0 : Int) ≤ (j : Int) := by omega
            have i1 : (j : Int) < (Z.length : Int) := by omega
            have ww1 := IntWalk.i64_in ((j : Int) + 1) (by omega)
            clear hy h3 c0 c1
            go_wp2_with fail
            go_roundw
            case rel => exact ⟨j + 1, by omega, by go_num, trivial⟩
            case measure => simp [intOf]; omega
          · have e : j = Z.length := by omega
            subst e
            clear rz HS
            go_wp2_with fail
            refine (drawWon (HC.out.below b21)).mono ?_
            rintro e w30 ⟨v, D, sd, rfl, hrow, hd, r⟩
            obtain ⟨Ad, cd, rfl, rd, _, _⟩ := hrow.rd (n := D.length) rfl
            have b30 := trans_nwB b21 r
            clear r hrow b21
            go_wp2_with fail
            refine (impWon_any (X := D) (Lib.hid rfl) (by omega) rd).mono ?_
            rintro e w31 ⟨rfl, r⟩
            have b31 := trans_nwB b30 r
            obtain ⟨d1, d2⟩ := won_le D sd
            obtain ⟨x, hx⟩ : ∃ x, wonN D sd = x := ⟨_, rfl⟩
            rw [hx] at d1 d2 ⊢
            have ww1 := IntWalk.i64_in (-(D.length : Int)) (by omega)
            clear r b30 hx rd
            go_wp2_with fail
            go_ret
            exact ⟨rfl, b31⟩
  | some i =>
    have HP := Lib.hid (rep_pt hi)
    have HM := Lib.hid (rep_must hi)
    rw [show (some i).isSome = true from rfl]
    clear hi
    go_wp2_with fail
    refine (impArePoints_any (X := repL X k q s) (Lib.hid (rep_len X k q s)) (by omega) ry).mono ?_
    rintro e w4 ⟨he, r⟩
    rw [HP.out] at he
    subst he
    replace rx := rd_nwB rx r
    have b4 := trans_nwB b3 r
    clear r b3 ry HP
    go_wp2_with fail
    refine (impMustSpeak_any (X := X) (Lib.hid rfl) (by omega) rx).mono ?_
    rintro e w5 ⟨v5, rfl, row5, r⟩
    have b5 := trans_nwB b4 r
    have hml := mst_lenB X q
    obtain ⟨A5, c5, rfl, r5, _, _⟩ := row5.rd (n := (mstL X q).length) (ivs_len _)
    clear r b4 row5 rx
    go_wp2_with fail
    refine (contains_any (S := mstL X q) (Lib.hid rfl) (by omega) r5).mono ?_
    rintro e u5 ⟨he, rfl⟩
    rw [HM.out] at he
    subst he
    clear r5 HM
    go_wp2_with fail
    refine (drawRai (HC.out.below b5)).mono ?_
    rintro e w12 ⟨v, Y, k', q', ⟨q0, q1⟩, rfl, hrow, hy, r⟩
    obtain ⟨Ap, cp, rfl, rp, _, _⟩ := hrow.rd (n := Y.length) rfl
    have b12 := trans_nwB b5 r
    clear r hrow b5
    go_wp2_with fail
    refine (impRaise_any (X := Y) (Lib.hid rfl) (by omega) rp).mono ?_
    rintro e w13 ⟨v3, rfl, row3, r⟩
    have b13 := trans_nwB b12 r
    clear r b12 rp
    cases hb : ptB (raiX Y k' q') with
    | false =>
      rw [raiL_no hb] at row3
      obtain ⟨Ar, cr, rfl, _, _, _⟩ := row3.rd (n := Y.length) rfl
      clear row3 hb
      go_wp2_with fail
      refine (drawSet (HC.out.below b13)).mono ?_
      rintro e w20 ⟨v, Z, rfl, hrow, hz, r⟩
      obtain ⟨Az, cz, rfl, rz, _, _⟩ := hrow.rd (n := Z.length) rfl
      have b20 := trans_nwB b13 r
      clear r hrow b13
      go_wp2_with fail
      refine (impIsSettled_any (X := Z) (Lib.hid rfl) (by omega) rz).mono ?_
      rintro e w21 ⟨he, r⟩
      have b21 := trans_nwB b20 r
      replace rz := rd_nwB rz r
      clear r b20
      cases hp : setP Z with
      | false =>
        rw [hp] at he
        subst he
        clear rz hp
        go_wp2_with fail
        refine (drawWon (HC.out.below b21)).mono ?_
        rintro e w30 ⟨v, D, sd, rfl, hrow, hd, r⟩
        obtain ⟨Ad, cd, rfl, rd, _, _⟩ := hrow.rd (n := D.length) rfl
        have b30 := trans_nwB b21 r
        clear r hrow b21
        go_wp2_with fail
        refine (impWon_any (X := D) (Lib.hid rfl) (by omega) rd).mono ?_
        rintro e w31 ⟨rfl, r⟩
        have b31 := trans_nwB b30 r
        obtain ⟨d1, d2⟩ := won_le D sd
        obtain ⟨x, hx⟩ : ∃ x, wonN D sd = x := ⟨_, rfl⟩
        rw [hx] at d1 d2 ⊢
        have ww1 := IntWalk.i64_in (-(D.length : Int)) (by omega)
        clear r b30 hx rd
        go_wp2_with fail
        go_ret
        exact ⟨rfl, b31⟩
      | true =>
        rw [hp] at he
        subst he
        have HS := Lib.hid (set_none hp)
        clear hp
        go_wp2_with fail
        go_loopw [15] (fun i wr => ∃ j : Nat, j ≤ Z.length ∧ i = .int .i64 j ∧ wr = w21) (fun i _ => Z.length - (intOf i).toNat)
        case atStart => exact ⟨0, Nat.zero_le _, rfl, rfl⟩
        case round =>
          obtain ⟨j, hj, rfl, rfl⟩ := hrel
          by_cases hlt : j < Z.length
          · obtain ⟨ad, p, rfl, hp, hab, c0, c1, c2⟩ := t3_cells rz hlt
            have h3 := HS.out Z[j] (List.getElem_mem _)
            obtain ⟨y, hy⟩ : ∃ y, Z[j].2.2 = y := ⟨_, rfl⟩
            rw [hy] at c2 h3
            have n0 : (y == 0) = false := by simpa using h3.1
            have n2 : (y == 2) = false := by simpa using h3.2
            have i0 : (0 : Int) ≤ (j : Int) := by omega
            have i1 : (j : Int) < (Z.length : Int) := by omega
            have ww1 := IntWalk.i64_in ((j : Int) + 1) (by omega)
            clear hy h3 c0 c1
            go_wp2_with fail
            go_roundw
            case rel => exact ⟨j + 1, by omega, by go_num, trivial⟩
            case measure => simp [intOf]; omega
          · have e : j = Z.length := by omega
            subst e
            clear rz HS
            go_wp2_with fail
            refine (drawWon (HC.out.below b21)).mono ?_
            rintro e w30 ⟨v, D, sd, rfl, hrow, hd, r⟩
            obtain ⟨Ad, cd, rfl, rd, _, _⟩ := hrow.rd (n := D.length) rfl
            have b30 := trans_nwB b21 r
            clear r hrow b21
            go_wp2_with fail
            refine (impWon_any (X := D) (Lib.hid rfl) (by omega) rd).mono ?_
            rintro e w31 ⟨rfl, r⟩
            have b31 := trans_nwB b30 r
            obtain ⟨d1, d2⟩ := won_le D sd
            obtain ⟨x, hx⟩ : ∃ x, wonN D sd = x := ⟨_, rfl⟩
            rw [hx] at d1 d2 ⊢
            have ww1 := IntWalk.i64_in (-(D.length : Int)) (by omega)
            clear r b30 hx rd
            go_wp2_with fail
            go_ret
            exact ⟨rfl, b31⟩
    | true =>
      rw [raiL_yes hb] at row3
      have HM := Lib.hid (rai_must hb)
      have HP := Lib.hid hb
      have HL := Lib.hid (rai_len Y k' q')
      obtain ⟨R, hR⟩ : ∃ R, raiX Y k' q' = R := ⟨_, rfl⟩
      rw [hR] at HM HP HL row3
      obtain ⟨Ar, cr, rfl, rr, _, _⟩ := row3.rd (n := Y.length + 1) HL.out
      have ww1 := IntWalk.i64_in (3 - q') (by omega)
      have ww2 := IntWalk.i64_in ((Y.length : Int) + 1) (by omega)
      obtain ⟨M, hM⟩ : ∃ M, Y.length + 1 = M := ⟨_, rfl⟩
      have hM2 : IntKind.i64.wrap ((Y.length : Int) + 1) = (M : Int) := by rw [ww2]; omega
      rw [hM]
      have HL := Lib.hid (HL.out.trans hM)
      clear row3 hb hR ww2
      go_wp2_with fail
      refine (impArePoints_any (X := R) HL (by omega) rr).mono ?_
      rintro e w14 ⟨he, r⟩
      rw [HP.out] at he
      subst he
      replace rr := rd_nwB rr r
      have b14 := trans_nwB b13 r
      clear r b13 HP
      go_wp2_with fail
      refine (impMustSpeak_any (X := R) HL (by omega) rr).mono ?_
      rintro e w15 ⟨v5, rfl, row5, r⟩
      have b15 := trans_nwB b14 r
      have hml := mst_lenB R (3 - q')
      rw [HL.out] at hml
      obtain ⟨A5, c5, rfl, r5, _, _⟩ := row5.rd (n := (mstL R (3 - q')).length) (ivs_len _)
      clear r b14 row5 rr
      go_wp2_with fail
      refine (contains_any (S := mstL R (3 - q')) (Lib.hid rfl) (by omega) r5).mono ?_
      rintro e u5 ⟨he, rfl⟩
      rw [HM.out] at he
      subst he
      clear r5 HM
      go_wp2_with fail
      refine (drawSet (HC.out.below b15)).mono ?_
      rintro e w20 ⟨v, Z, rfl, hrow, hz, r⟩
      obtain ⟨Az, cz, rfl, rz, _, _⟩ := hrow.rd (n := Z.length) rfl
      have b20 := trans_nwB b15 r
      clear r hrow b15
      go_wp2_with fail
      refine (impIsSettled_any (X := Z) (Lib.hid rfl) (by omega) rz).mono ?_
      rintro e w21 ⟨he, r⟩
      have b21 := trans_nwB b20 r
      replace rz := rd_nwB rz r
      clear r b20
      cases hp : setP Z with
      | false =>
        rw [hp] at he
        subst he
        clear rz hp
        go_wp2_with fail
        refine (drawWon (HC.out.below b21)).mono ?_
        rintro e w30 ⟨v, D, sd, rfl, hrow, hd, r⟩
        obtain ⟨Ad, cd, rfl, rd, _, _⟩ := hrow.rd (n := D.length) rfl
        have b30 := trans_nwB b21 r
        clear r hrow b21
        go_wp2_with fail
        refine (impWon_any (X := D) (Lib.hid rfl) (by omega) rd).mono ?_
        rintro e w31 ⟨rfl, r⟩
        have b31 := trans_nwB b30 r
        obtain ⟨d1, d2⟩ := won_le D sd
        obtain ⟨x, hx⟩ : ∃ x, wonN D sd = x := ⟨_, rfl⟩
        rw [hx] at d1 d2 ⊢
        have ww1 := IntWalk.i64_in (-(D.length : Int)) (by omega)
        clear r b30 hx rd
        go_wp2_with fail
        go_ret
        exact ⟨rfl, b31⟩
      | true =>
        rw [hp] at he
        subst he
        have HS := Lib.hid (set_none hp)
        clear hp
        go_wp2_with fail
        go_loopw [15] (fun i wr => ∃ j : Nat, j ≤ Z.length ∧ i = .int .i64 j ∧ wr = w21) (fun i _ => Z.length - (intOf i).toNat)
        case atStart => exact ⟨0, Nat.zero_le _, rfl, rfl⟩
        case round =>
          obtain ⟨j, hj, rfl, rfl⟩ := hrel
          by_cases hlt : j < Z.length
          · obtain ⟨ad, p, rfl, hp, hab, c0, c1, c2⟩ := t3_cells rz hlt
            have h3 := HS.out Z[j] (List.getElem_mem _)
            obtain ⟨y, hy⟩ : ∃ y, Z[j].2.2 = y := ⟨_, rfl⟩
            rw [hy] at c2 h3
            have n0 : (y == 0) = false := by simpa using h3.1
            have n2 : (y == 2) = false := by simpa using h3.2
            have i0 : (0 : Int) ≤ (j : Int) := by omega
            have i1 : (j : Int) < (Z.length : Int) := by omega
            have ww1 := IntWalk.i64_in ((j : Int) + 1) (by omega)
            clear hy h3 c0 c1
            go_wp2_with fail
            go_roundw
            case rel => exact ⟨j + 1, by omega, by go_num, trivial⟩
            case measure => simp [intOf]; omega
          · have e : j = Z.length := by omega
            subst e
            clear rz HS
            go_wp2_with fail
            refine (drawWon (HC.out.below b21)).mono ?_
            rintro e w30 ⟨v, D, sd, rfl, hrow, hd, r⟩
            obtain ⟨Ad, cd, rfl, rd, _, _⟩ := hrow.rd (n := D.length) rfl
            have b30 := trans_nwB b21 r
            clear r hrow b21
            go_wp2_with fail
            refine (impWon_any (X := D) (Lib.hid rfl) (by omega) rd).mono ?_
            rintro e w31 ⟨rfl, r⟩
            have b31 := trans_nwB b30 r
            obtain ⟨d1, d2⟩ := won_le D sd
            obtain ⟨x, hx⟩ : ∃ x, wonN D sd = x := ⟨_, rfl⟩
            rw [hx] at d1 d2 ⊢
            have ww1 := IntWalk.i64_in (-(D.length : Int)) (by omega)
            clear r b30 hx rd
            go_wp2_with fail
            go_ret
            exact ⟨rfl, b31⟩
end Go.Proofs.Ytignchefkihdaaa
