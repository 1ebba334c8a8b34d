/- Contracts of the models l10Op and Value. Condition: the slices have at most 2^40 elements. -/
import Derived.Test.YtfcckpapcnhejaaDoorTreeOf
namespace Go.Proofs.YtfcckpapcnhejaaDoor
open Go.ChangeShapes Go.WideShapes Go.ChangeAt Go.RowKit
set_option maxRecDepth 100000
theorem l10Op_any {op : Int} {a b : Bool} {w : World} : Calls Tryd.prog 13 #[.int .i64 op, .bool a, .bool b] w (fun e w' => e = .returned (.bool (opB op a b)) ∧ w = w') := by
  by_cases h1 : op = -2
  · subst h1
    cases a <;> cases b <;> (go_enter Tryd.func13, Tryd.ntmps13; go_wp2_with fail; go_ret; exact ⟨rfl, rfl⟩)
  · have h1' : (op == -2) = false := by simpa using h1
    by_cases h2 : op = -3
    · subst h2
      clear h1
      cases a <;> cases b <;> (go_enter Tryd.func13, Tryd.ntmps13; go_wp2_with fail; go_ret; exact ⟨rfl, rfl⟩)
    · have h2' : (op == -3) = false := by simpa using h2
      have HO := Lib.hid (show opB op a b = (!a || b) by unfold opB; rw [if_neg h1, if_neg h2])
      clear h1 h2
      cases a <;> cases b <;> (go_enter Tryd.func13, Tryd.ntmps13; go_wp2_with fail; go_ret; exact ⟨by rw [HO.out]; rfl, rfl⟩)
theorem Row.set_ {w : World} {lo hi : Nat} {t : TypeId} {g n c i : Nat} {xs : List Value} {v : Value} (h : Row w lo hi t (.slice (some ⟨g, 0, none⟩) n c) xs) : Row (w.setCell ⟨g, i, none⟩ v) lo hi t (.slice (some ⟨g, 0, none⟩) n c) (xs.set i v) := by
  obtain ⟨⟨h1, h2⟩, h3⟩ := h
  rcases h2 with ⟨e, hn⟩ | ⟨g', cap, cur, e, hb, hgg, hnc, hcm, hcs, htk⟩
  · injection e with e1; cases e1
  · injection e with e1 e2 e3
    injection e1 with e1
    injection e1 with e1
    subst e1 e3
    have hst := (World.ownsRow.stored (w := w) (base := lo) (e := t) (size := 1) (g := g) (n := n) (cap := c) (xs := xs) (e2 ▸ ⟨h1, .inr ⟨g, c, cur, rfl, hb, hgg, hnc, hcm, hcs, htk⟩⟩) i v).1
    refine ⟨?_, fun g' hg' => h3 g' hg'⟩
    rw [List.length_set]
    exact e2 ▸ hst
theorem Row.froz {w : World} {lo hi : Nat} {t : TypeId} {g n c i : Nat} {xs : List Value} (h : Row w lo hi t (.slice (some ⟨g, 0, none⟩) n c) xs) : w.frozen? ⟨g, i, none⟩ = false := by
  obtain ⟨⟨h1, h2⟩, h3⟩ := h
  rcases h2 with ⟨e, hn⟩ | ⟨g', cap, cur, e, hb, hgg, _⟩
  · injection e with e1; cases e1
  · injection e with e1 e2 e3
    injection e1 with e1
    injection e1 with e1
    subst e1
    exact frozen_of_row w g i cur t hgg
theorem fml_pre {f : List Int} (h : isF f = true) {k : Nat} : ∃ j, cntF (f.take k) = some j := by
  unfold isF at h
  rw [Bool.and_eq_true, decide_eq_true_iff] at h
  have e : f = f.take k ++ f.drop k := (List.take_append_drop k f).symm
  exact cnt_some_pre (g := f.drop k) (by rw [← e]; exact h.1)
theorem pileV_next {L : List Bool} {f : List Int} {k : Nat} {x : Int} (hk : k < f.length) (hx : x = f[k]) : pileV L (f.take (k + 1)) = stV L (pileV L (f.take k)) x := by rw [take_next hk, pileV_snoc, hx]
theorem lastB_at {P : List Bool} {r : Nat} (h : P.length = r + 1) : P.getLastD false = P[r] := by
  have e : P[P.length - 1]? = some P[r] := by rw [show P.length - 1 = r by omega]; exact List.getElem?_eq_getElem _
  rw [List.getLastD_eq_getLast?, List.getLast?_eq_getElem?, e]
  rfl
theorem lastB_drop {P : List Bool} {r : Nat} (h : P.length = r + 2) : P.dropLast.getLastD false = P[r] := by
  have e : P.dropLast[P.dropLast.length - 1]? = some P[r] := by
    rw [List.length_dropLast, show P.length - 1 - 1 = r by omega, List.getElem?_eq_getElem (by rw [List.length_dropLast]; omega), List.getElem_dropLast]
  rw [List.getLastD_eq_getLast?, List.getLast?_eq_getElem?, e]
  rfl
theorem dropB_one {P : List Bool} {r : Nat} (h : P.length = r + 1) : P.dropLast = P.take r := by rw [List.dropLast_eq_take, h]; rfl
theorem dropB_two {P : List Bool} {r : Nat} (h : P.length = r + 2) : P.dropLast.dropLast = P.take r := by
  rw [List.dropLast_eq_take, List.dropLast_eq_take, List.length_take, h, List.take_take]
  congr 1
  omega
theorem bls_one {p : List Bool} : ∀ u ∈ bls p, u.oneCell' = true := by
  intro u hu
  obtain ⟨t, _, rfl⟩ := List.mem_map.1 hu
  rfl
set_option maxHeartbeats 4000000 in
theorem specValue_any {w : World} {A A' : Option Addr} {n c n' c' : Nat} {f : List Int} {L : List Bool} (hl : Hid (f.length = n)) (hn : n ≤ 1099511627776) (hr : Rd w w.heap.size A (ivs f)) (hl' : Hid (L.length = n')) (hr' : Rd w w.heap.size A' (bls L)) :
    Calls Tryd.prog 8 #[.slice A n c, .slice A' n' c'] w (Tells (valB f L) w) := by
  by_cases hf : isF f = true
  case neg =>
    have HF := Lib.hid (show isF f = false by simpa using hf)
    have HV := Lib.hid (show valB f L = false by unfold valB; rw [HF.out]; rfl)
    clear hf
    go_enter Tryd.func8, Tryd.ntmps8
    go_wp2_with fail
    refine (specIsFormula_any (f := f) hl hn hr).mono ?_
    rintro e w1 ⟨rfl, rfl⟩
    rw [HF.out]
    go_wp2_with fail
    go_ret
    exact ⟨ret_b HV.out.symm, Below.refl _ _⟩
  case pos =>
    obtain ⟨i0, hi, hz0, hz1, hz2⟩ := info_parts BoolS_info
    have HF := Lib.hid hf
    have HPR := Lib.hid (fun k => fml_pre hf (k := k))
    have HV := Lib.hid (show valB f L = (pileV L f).headD false by unfold valB; rw [hf, Bool.true_and])
    have h24 : n ≤ 24 := by unfold isF at hf; rw [Bool.and_eq_true, decide_eq_true_iff, decide_eq_true_iff, hl.out] at hf; exact hf.2
    have HC1 : Hid (cntF f = some 1) := Lib.hid (by unfold isF at hf; rw [Bool.and_eq_true, decide_eq_true_iff] at hf; exact hf.1)
    clear hf
    go_enter Tryd.func8, Tryd.ntmps8
    go_wp2_with fail
    refine (specIsFormula_any (f := f) hl hn hr).mono ?_
    rintro e w1 ⟨rfl, rfl⟩
    rw [HF.out]
    have hrow0 := Row.made (w := w) w.heap.size #[] 0 4 (Nat.le_refl _) rfl (Nat.zero_le _)
    have hb0 := alloc_new w (Obj.cells #[] 4)
    go_wp2_with fail
    go_loopw [5, 6] (fun b i wr => ∃ k : Nat, k ≤ n ∧ i = .int .i64 k ∧ Row wr w.heap.size wr.heap.size 4 b (bls (pileV L (f.take k))) ∧ Below w.heap.size w wr) (fun _ i _ => n - (intOf i).toNat)
    case atStart => exact ⟨0, Nat.zero_le _, rfl, hrow0.wide (Nat.le_refl _) (by simp), hb0⟩
    case round =>
      obtain ⟨k, hk, rfl, hrow, hbw⟩ := hrel
      have hsz := hbw.size
      clear hrow0 hb0
      obtain ⟨j, hj⟩ := HPR.out k
      have hjk := cnt_le (by rw [hl.out]; exact hk) hj
      have hpl := pile_len (L := L) hj
      by_cases hlt : k < n
      · have hkz : k < f.length := by rw [hl.out]; exact hlt
        obtain ⟨ad, rfl, hab, hc⟩ := ivs_at (hr.below hbw) hkz
        obtain ⟨j', hj'⟩ := HPR.out (k + 1)
        have hst := (cnt_next hkz rfl hj).symm.trans hj'
        have HPX := Lib.hid (pileV_next (L := L) hkz rfl)
        obtain ⟨x, hx⟩ : ∃ x, x = f[k] := ⟨_, rfl⟩
        rw [← hx] at hc hst HPX
        obtain ⟨P, hP⟩ : ∃ P, P = pileV L (f.take k) := ⟨_, rfl⟩
        rw [← hP] at hrow hpl HPX
        have i0' : (0 : Int) ≤ (k : Int) := by omega
        obtain ⟨n2, e2, hcase⟩ := stF_some hst
        injection e2 with e2
        subst e2
        clear hx hP hst hj hj'
        rcases hcase with ⟨h1, h2, _⟩ | ⟨rfl, h2, _⟩ | ⟨h1, h2, h3, _⟩
        · obtain ⟨m, rfl⟩ := Int.eq_ofNat_of_zero_le h1
          obtain ⟨Ab, cb, rfl, hrd, hnc, hcm⟩ := hrow.rd (n := j) (by rw [bls_len, hpl])
          have HE := Lib.hid (show bls (pileV L (f.take (k + 1))) = bls P ++ [.bool (L.getD m false)] by
            rw [HPX.out]
            unfold stV
            rw [if_pos h1]
            simp [bls])
          have L1 := Lib.hid (show (bls P).length + 1 ≤ maxLen ∧ ((bls P).length + 1) * 1 ≤ 140737488355328 by rw [bls_len]; unfold maxLen; omega)
          have m1 : (0 : Int) ≤ (m : Int) := by omega
          have m2 : (m : Int) ≤ 5 := by omega
          by_cases hm : m < n'
          · have hmz : m < L.length := by rw [hl'.out]; exact hm
            obtain ⟨ad', rfl, hab', hc'⟩ := bls_at (hr'.below hbw) hmz
            have HG := Lib.hid (show L.getD m false = L[m] by simp [List.getD, hmz])
            obtain ⟨b', hb'⟩ : ∃ b', b' = L[m] := ⟨_, rfl⟩
            rw [← hb'] at hc' HG
            have hrow2 := hrow.new (alloc_new wr (Obj.cells #[.bool b'] 4))
            have hmade := Rd.made wr #[.bool b'] 4
            have hba := hbw.alloc (B := w.heap.size) hsz (Obj.cells #[.bool b'] 4)
            clear hb' h1 h2 hrd hrow
            go_wp2_with (at_builtin; refine wpList_app rfl (.tmp 47) (.tmp 64) 28 rfl 4 i0 _ 1 Tryd.underlying28 hi hz0 hz1 hz2 rfl rfl rfl hrow2 rfl hmade (by simp [Value.oneCell']) L1.out.1 L1.out.2 (by simp; omega) ?_; intro v1 w1 hrow1 ho1)
            go_roundw
            case rel => exact ⟨k + 1, by omega, by go_num, by rw [HE.out, HG.out]; exact hrow1, hba.trans (ho1.below (Nat.le_refl _) (by simp; omega))⟩
            case measure => simp [intOf]; omega
          · have HG := Lib.hid (show L.getD m false = false by simp [List.getD, hl'.out, hm])
            have hrow2 := hrow.new (alloc_new wr (Obj.cells #[.bool false] 4))
            have hmade := Rd.made wr #[.bool false] 4
            have hba := hbw.alloc (B := w.heap.size) hsz (Obj.cells #[.bool false] 4)
            clear h1 h2 hrd hrow
            go_wp2_with (at_builtin; refine wpList_app rfl (.tmp 47) (.tmp 64) 28 rfl 4 i0 _ 1 Tryd.underlying28 hi hz0 hz1 hz2 rfl rfl rfl hrow2 rfl hmade (by simp [Value.oneCell']) L1.out.1 L1.out.2 (by simp; omega) ?_; intro v1 w1 hrow1 ho1)
            go_roundw
            case rel => exact ⟨k + 1, by omega, by go_num, by rw [HE.out, HG.out]; exact hrow1, hba.trans (ho1.below (Nat.le_refl _) (by simp; omega))⟩
            case measure => simp [intOf]; omega
        · obtain ⟨r, rfl⟩ : ∃ r, j = r + 1 := ⟨j - 1, by omega⟩
          obtain ⟨g, cb, e1, _, _, hcell⟩ := hrow.at0 (by rw [bls_len]; omega)
          rw [bls_len, hpl] at e1
          subst e1
          have hPr : r < P.length := by omega
          have c1 := hcell r (.bool P[r]) (by simp [bls, hPr])
          have f1 := hrow.froz (i := r)
          have HE := Lib.hid (show bls (pileV L (f.take (k + 1))) = (bls P).set r (.bool (!P[r])) by
            rw [HPX.out]
            unfold stV
            rw [if_neg (by decide), if_pos rfl, lastB_at hpl, dropB_one hpl]
            simp only [bls, List.map_append, List.map_take, List.map_cons, List.map_nil]
            rw [List.set_eq_take_append_cons_drop, if_pos (by simpa using hPr), List.drop_eq_nil_of_le (by simp; omega)])
          have HS := Lib.hid (hrow.set_ (i := r) (v := .bool (!P[r])))
          have hgl := (hrow.own rfl).lt g rfl
          obtain ⟨b, hb⟩ : ∃ b, b = P[r] := ⟨_, rfl⟩
          rw [← hb] at c1 HE HS
          have j1 : (0 : Int) ≤ (r : Int) := by omega
          clear hb hcell hrow
          go_wp2_with fail
          go_roundw
          case rel => exact ⟨k + 1, by omega, by go_num, by rw [HE.out]; simpa using HS.out, hbw.setCell (show w.heap.size ≤ g by omega) _⟩
          case measure => simp [intOf]; omega
        · obtain ⟨r, rfl⟩ : ∃ r, j = r + 2 := ⟨j - 2, by omega⟩
          obtain ⟨g, cb, e1, hcb, _, hcell⟩ := hrow.at0 (by rw [bls_len]; omega)
          rw [bls_len, hpl] at e1
          rw [bls_len, hpl] at hcb
          subst e1
          have hPr : r < P.length := by omega
          have hPr1 : r + 1 < P.length := by omega
          have c1 := hcell r (.bool P[r]) (by simp [bls, hPr])
          have c2 := hcell (r + 1) (.bool P[r + 1]) (by simp [bls, hPr1])
          obtain ⟨b1, hb1⟩ : ∃ b, b = P[r] := ⟨_, rfl⟩
          obtain ⟨b2, hb2⟩ : ∃ b, b = P[r + 1] := ⟨_, rfl⟩
          obtain ⟨bu, hbu⟩ : ∃ b, b = opB x b1 b2 := ⟨_, rfl⟩
          have HE := Lib.hid (show bls (pileV L (f.take (k + 1))) = (bls P).take r ++ [.bool bu] by
            rw [HPX.out]
            unfold stV
            rw [if_neg (by omega), if_neg (by omega), lastB_at (r := r + 1) hpl, lastB_drop hpl, dropB_two hpl, hbu, hb1, hb2]
            simp [bls, List.map_take])
          have HU := Lib.hid hbu.symm
          rw [← hb1] at c1
          rw [← hb2] at c2
          have hx0 : decide (0 ≤ x) = false := decide_eq_false (by omega)
          have hx1 : (x == -1) = false := by simpa using (show ¬ x = -1 by omega)
          have HR9 := Lib.hid ((hrow.prefix_ (r := r) (by rw [bls_len]; exact hpl) (by omega)).new (alloc_new wr (Obj.cells #[.bool bu] 4)))
          have HM9 := Lib.hid (Rd.made wr #[.bool bu] 4)
          have hba := hbw.alloc (B := w.heap.size) hsz (Obj.cells #[.bool bu] 4)
          have L1 := Lib.hid (show ((bls P).take r).length + 1 ≤ maxLen ∧ (((bls P).take r).length + 1) * 1 ≤ 140737488355328 by rw [List.length_take, bls_len]; unfold maxLen; omega)
          have j1 : (0 : Int) ≤ (r : Int) := by omega
          have j2 : (r : Int) + 2 ≤ (cb : Int) := by omega
          have j3 : (r : Int) ≤ (cb : Int) := by omega
          have j4 : (r : Int) ≤ (r : Int) + 2 := by omega
          have j5 : (r : Int) < (r : Int) + 2 := by omega
          have j6 : (r : Int) + 1 < (r : Int) + 2 := by omega
          have j7 : (0 : Int) ≤ (r : Int) + 1 := by omega
          have w1 : IntKind.i64.wrap (r : Int) = (r : Int) := IntWalk.i64_in _ (by omega)
          have w2 : IntKind.i64.wrap ((r : Int) + 2 - 1) = (r : Int) + 1 := (IntWalk.i64_in _ (by omega)).trans (by omega)
          clear hbu hb1 hb2 h1 h2 h3 hrow hcell
          go_wp2_with fail
          go_region_law (first
            | (refine step_app (news := [.bool bu]) (B := wr.heap.size + 1) (A := some ⟨wr.heap.size, 0, none⟩) (m := 1) (c := 1) (v := .slice (some ⟨g, 0, none⟩) r cb) (xs := (bls P).take r) (lo := w.heap.size) (hi' := wr.heap.size) rfl (.tmp 23) (.tmp 39) 28 rfl 4 i0 (.bool false) 1 Tryd.underlying28 hi hz0 hz1 hz2 rfl (by simp [Act.eval]) (by simp [Act.eval]) (by first | exact HR9.out | exact HR9.out.drewN 1) rfl (by first | exact HM9.out | exact HM9.out.drewN 1) (by simp [Value.oneCell']) L1.out.1 L1.out.2 (by simp; omega) ?_; intro v1 w9 hrow1 ho1)
            | (go_simp; go_at_call 13; (with_reducible refine (l10Op_any (op := x) (a := b1) (b := b2)).mono ?_); rintro e w8 ⟨he, rfl⟩; rw [HU.out] at he; subst he))
          all_goals
            have hob : Below w.heap.size w w9 := hba.drew.trans (ho1.below (Nat.le_refl _) (by simp; omega))
            go_wp2_with fail
            go_roundw
            case rel => exact ⟨k + 1, by omega, by go_num, by rw [HE.out]; exact hrow1, hob⟩
            case measure => simp [intOf]; omega
      · have e : k = n := by omega
        subst e
        rw [List.take_of_length_le (by rw [hl.out]; exact Nat.le_refl _)] at hrow
        have hp1 := pile_len (L := L) HC1.out
        obtain ⟨b, hb⟩ := List.length_eq_one_iff.1 hp1
        obtain ⟨g, cap, e1, _, _, hcell⟩ := hrow.at0 (by rw [bls_len]; omega)
        have c1 := hcell 0 (.bool b) (by simp [bls, hb])
        rw [bls_len, hp1] at e1
        subst e1
        have HB := Lib.hid (show valB f L = b by rw [HV.out, hb]; rfl)
        clear hb hcell hrow hp1 hj
        go_wp2_with fail
        go_ret
        exact ⟨ret_b HB.out.symm, hbw⟩
end Go.Proofs.YtfcckpapcnhejaaDoor
