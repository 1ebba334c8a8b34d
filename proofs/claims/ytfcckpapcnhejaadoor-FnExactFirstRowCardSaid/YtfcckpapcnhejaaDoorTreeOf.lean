/- Contract of the code's treeOf. Condition: the slice has at most 2^40 elements. -/
import Derived.Test.YtfcckpapcnhejaaDoorTree
import Derived.Test.YtfcckpapcnhejaaDoorStep
namespace Go.Proofs.YtfcckpapcnhejaaDoor
open Go.ChangeShapes Go.WideShapes Go.ChangeAt Go.RowKit
set_option maxRecDepth 100000
theorem TR_info : (Tryd.prog.info? 37).map (fun i => (i.zero, i.size, i.bytes)) = some (some .nilIface, 1, 16) := by kernel_rfl
theorem Row.prefix_ {w : World} {lo hi : Nat} {t : TypeId} {A : Option Addr} {n c r : Nat} {xs : List Value} (h : Row w lo hi t (.slice A n c) xs) (hn : xs.length = n) (hr : r ≤ n) : Row w lo hi t (.slice A r c) (xs.take r) := by
  subst hn
  have hl : (xs.take r).length = r := by rw [List.length_take]; omega
  obtain ⟨⟨h1, h2⟩, h3⟩ := h
  rcases h2 with ⟨e, hn⟩ | ⟨g, cap, cur, e, hb, hgg, hnc, hcm, hcs, htk⟩
  · injection e with e1 e2 e3
    subst e1 e3
    obtain rfl : r = 0 := by omega
    rw [List.take_zero]
    exact Row.nil
  · injection e with e1 e2 e3
    subst e1 e3
    refine ⟨⟨by omega, .inr ⟨g, c, cur, by rw [hl], hb, hgg, by omega, hcm, hcs, ?_⟩⟩, fun g' hg' => h3 g' hg'⟩
    rw [hl, ← htk, List.take_take]
    congr 1
    omega
theorem add0 (g i : Nat) : (⟨g, 0, none⟩ : Addr).add i = ⟨g, i, none⟩ := by
  unfold Addr.add
  split <;> simp_all
theorem Row.at0 {w : World} {lo hi : Nat} {t : TypeId} {v : Value} {xs : List Value} (h : Row w lo hi t v xs) (h0 : 0 < xs.length) : ∃ g cap, v = .slice (some ⟨g, 0, none⟩) xs.length cap ∧ xs.length ≤ cap ∧ cap ≤ maxLen ∧ ∀ (i : Nat) u, xs[i]? = some u → w.cell? ⟨g, i, none⟩ = some u := by
  obtain ⟨A, c, e, hrd, h1, h2⟩ := h.rd (n := xs.length) rfl
  have h' := h
  obtain ⟨⟨_, h3⟩, _⟩ := h'
  rcases h3 with ⟨e', hn⟩ | ⟨g, cap, cur, e', _, _, h4, h5, _⟩
  · omega
  · refine ⟨g, cap, e', h4, h5, fun i u hu => ?_⟩
    rw [e] at e'
    injection e' with e1
    obtain ⟨ad, ha, _, hc⟩ := hrd i u hu
    rw [e1] at ha
    injection ha with ha
    subst ha
    rw [add0] at hc
    exact hc
theorem isF_stop {f : List Int} {k j : Nat} {x : Int} (hk : k < f.length) (hx : x = f[k]) (h : cntF (f.take k) = some j) (hs : stF (some j) x = none) : isF f = false := isF_bad ((cnt_next hk hx h).trans hs)
theorem cnt_le {f : List Int} : ∀ {k j : Nat}, k ≤ f.length → cntF (f.take k) = some j → j ≤ k
  | 0, j, _, h => by simp [cntF] at h; omega
  | k + 1, j, hk, h => by
    rw [take_next (show k < f.length by omega)] at h
    obtain ⟨m, hm⟩ := cnt_some_pre h
    rw [cntF_snoc, hm] at h
    have := cnt_le (by omega) hm
    obtain ⟨n, e, hc⟩ := stF_some h
    injection e with e
    omega
theorem pile_next {f : List Int} {k : Nat} {x : Int} (hk : k < f.length) (hx : x = f[k]) : pileR (f.take (k + 1)) = stR (pileR (f.take k)) x := by rw [take_next hk, pileR_snoc, hx]
def resT (f : List Int) : Value := if isF f then encT ((pileR f).headD default) else .nilIface
theorem last_at {P : List Tr} {r : Nat} (h : P.length = r + 1) : P.getLastD default = P[r] := by
  have e : P[P.length - 1]? = some P[r] := by rw [show P.length - 1 = r by omega]; exact List.getElem?_eq_getElem _
  rw [List.getLastD_eq_getLast?, List.getLast?_eq_getElem?, e]
  rfl
theorem last_drop {P : List Tr} {r : Nat} (h : P.length = r + 2) : P.dropLast.getLastD default = P[r] := by
  have e : P.dropLast[P.dropLast.length - 1]? = some P[r] := by
    rw [List.length_dropLast, show P.length - 1 - 1 = r by omega, List.getElem?_eq_getElem (by rw [List.length_dropLast]; omega), List.getElem_dropLast]
  rw [List.getLastD_eq_getLast?, List.getLast?_eq_getElem?, e]
  rfl
theorem drop_one {P : List Tr} {r : Nat} (h : P.length = r + 1) : P.dropLast = P.take r := by rw [List.dropLast_eq_take, h]; rfl
theorem drop_two {P : List Tr} {r : Nat} (h : P.length = r + 2) : P.dropLast.dropLast = P.take r := by
  rw [drop_one (r := r + 1) h, List.dropLast_eq_take, List.length_take, h, List.take_take]
  congr 1
  omega
set_option maxHeartbeats 4000000 in
theorem treeOf_any {w : World} {A : Option Addr} {n c : Nat} {f : List Int} (hl : Hid (f.length = n)) (hr : Rd w w.heap.size A (ivs f)) :
    Calls Tryd.prog 14 #[.slice A n c] w (fun e w' => e = .returned (.tuple #[resT f, .bool (isF f)]) ∧ Below w.heap.size w w') := by
  by_cases hbig : 24 < n
  · have HF := Lib.hid (show isF f = false by unfold isF; rw [hl.out, decide_eq_false (show ¬ n ≤ 24 by omega), Bool.and_false])
    have HT := Lib.hid (show resT f = .nilIface by unfold resT; rw [HF.out]; rfl)
    go_enter Tryd.func14, Tryd.ntmps14
    go_wp2_with fail
    go_ret2
    exact ⟨by rw [HF.out, HT.out]; rfl, Below.refl _ _⟩
  · obtain ⟨i0, hi, hz0, hz1, hz2⟩ := info_parts TR_info
    have hrow0 := Row.made (w := w) w.heap.size #[] 0 37 (Nat.le_refl _) rfl (Nat.zero_le _)
    have hb0 := alloc_new w (Obj.cells #[] 37)
    go_enter Tryd.func14, Tryd.ntmps14
    go_wp2_with fail
    go_loopw [4, 16] (fun b i wr => ∃ k j : Nat, k ≤ n ∧ j ≤ k ∧ i = .int .i64 k ∧ Hid (cntF (f.take k) = some j) ∧ Row wr w.heap.size wr.heap.size 37 b (encs (pileR (f.take k))) ∧ Below w.heap.size w wr) (fun _ i _ => n - (intOf i).toNat)
    case atStart => exact ⟨0, 0, Nat.zero_le _, Nat.le_refl _, rfl, Lib.hid rfl, hrow0.wide (Nat.le_refl _) (by simp), hb0⟩
    case round =>
      obtain ⟨k, j, hk, hjk, rfl, hcn, hrow, hbw⟩ := hrel
      have hsz := hbw.size
      clear hrow0 hb0
      by_cases hlt : k < n
      · have hkz : k < f.length := by rw [hl.out]; exact hlt
        obtain ⟨ad, rfl, hab, hc⟩ := ivs_at (hr.below hbw) hkz
        have HPN := Lib.hid (fun (x : Int) (hx : x = f[k]) => pile_next hkz hx)
        have HST := Lib.hid (fun (x : Int) (hx : x = f[k]) (hs : stF (some j) x = none) => isF_stop hkz hx hcn.out hs)
        have HNX := Lib.hid (fun (x : Int) (hx : x = f[k]) => cnt_next hkz hx hcn.out)
        have hpl := pileR_take hcn.out (by omega)
        obtain ⟨x, hx⟩ : ∃ x, x = f[k] := ⟨_, rfl⟩
        rw [← hx] at hc
        obtain ⟨P, hP⟩ : ∃ P, P = pileR (f.take k) := ⟨_, rfl⟩
        rw [← hP] at hrow hpl
        have HPX := Lib.hid (HPN.out x hx)
        rw [← hP] at HPX
        have HX := Lib.hid hx
        have i0' : (0 : Int) ≤ (k : Int) := by omega
        obtain ⟨Ab, cb, rfl, hrd, hnc, hcm⟩ := hrow.rd (n := j) (by rw [encs_len, hpl])
        clear hx hP
        by_cases hkn : knw x = true
        case neg =>
          have HK := Lib.hid (show knw x = false by simpa using hkn)
          have hkn' : ¬ ((0 ≤ x ∧ x ≤ 5) ∨ x = -1 ∨ (-4 ≤ x ∧ x ≤ -2)) := by unfold knw at hkn; simpa using hkn
          have HF := Lib.hid (HST.out x HX.out (stF_bad (by omega) (by omega) (by omega)))
          have HT := Lib.hid (show resT f = .nilIface by unfold resT; rw [HF.out]; rfl)
          have HTK := Lib.hid (show tkn x = 0 by unfold tkn; rw [if_neg (by omega), if_neg (by omega), if_neg (by omega)])
          clear hkn hkn'
          go_wp2_with (first | (go_at_call 17; refine (takenBy_any _ _).mono ?_; rintro e w1 ⟨he, rfl⟩; rw [HK.out, HTK.out] at he; subst he))
          go_ret2
          exact ⟨by rw [HF.out, HT.out]; rfl, hbw⟩
        case pos =>
          have HK := Lib.hid hkn
          have hkc : (0 ≤ x ∧ x ≤ 5) ∨ x = -1 ∨ (-4 ≤ x ∧ x ≤ -2) := by unfold knw at hkn; simpa using hkn
          clear hkn
          by_cases h1 : 0 ≤ x ∧ x ≤ 5
          · have HTK := Lib.hid (show tkn x = 0 by unfold tkn; rw [if_pos h1])
            have HC := Lib.hid ((HNX.out x HX.out).trans (stF_let h1))
            obtain ⟨iu, vu, hu⟩ := encT_if (.lt x)
            have HU := Lib.hid hu
            have HE := Lib.hid (show encs (pileR (f.take (k + 1))) = (encs P).take j ++ [.iface iu vu] by
              rw [HPX.out, List.take_of_length_le (by rw [encs_len]; omega)]
              unfold stR
              rw [if_pos h1.1]
              simp [encs, hu])
            have HRP := Lib.hid (hrow.prefix_ (r := j) (by rw [encs_len]; exact hpl) (Nat.le_refl _))
            have L1 := Lib.hid (show ((encs P).take j).length + 1 ≤ maxLen ∧ (((encs P).take j).length + 1) * 16 ≤ 140737488355328 by rw [List.length_take, encs_len]; unfold maxLen; omega)
            have j1 : (0 : Int) ≤ (j : Int) := by omega
            have j2 : (j : Int) ≤ (cb : Int) := by omega
            clear hu hkc h1 hrow hrd
            go_wp2_with (first | (go_at_call 17; refine (takenBy_any _ _).mono ?_; rintro e w1 ⟨he, rfl⟩; rw [HK.out, HTK.out] at he; subst he))
            go_region_law (first
              | (refine step_app (news := [.iface iu vu]) (B := w9.heap.size + 1) (A := some ⟨w9.heap.size, 0, none⟩) (m := 1) (c := 1) (v := .slice Ab j cb) (xs := (encs P).take j) (lo := w.heap.size) (hi' := wr.heap.size) rfl (.tmp 37) (.tmp 43) 44 rfl 37 i0 .nilIface 16 Tryd.underlying44 hi hz0 hz1 hz2 rfl (by simp [Act.eval]) (by simp [Act.eval]) (by first | exact HR9 | exact HR9.drewN 1) rfl (by first | exact hm9 | exact hm9.drewN 1) (by simp [Value.oneCell']) L1.out.1 L1.out.2 (by simp; omega) ?_; intro v1 w1 hrow1 ho1)
              | (go_simp; go_at_call 18; (with_reducible refine (above0_any (x := x)).mono ?_); rintro e w9 ⟨he, m9, hw9⟩; rw [HU.out] at he; subst he; have hs9 : w9.heap.size = wr.heap.size := (by rw [hw9]; rfl); have hb9 : Below w.heap.size w w9 := (by rw [hw9]; exact below_drewN hbw.drew m9); have HR9 : Row (w9.alloc (Obj.cells #[.iface iu vu] 37)) w.heap.size wr.heap.size 37 (.slice Ab j cb) ((encs P).take j) := (HRP.out.keep (w' := w9.alloc (Obj.cells #[.iface iu vu] 37)) (fun b _ h2 _ => by rw [hw9] at hs9 ⊢; exact (alloc_new (wr.drew.drewN m9) (Obj.cells #[.iface iu vu] 37)).block b (by rw [hs9]; exact h2))); have hm9 := Rd.made w9 #[.iface iu vu] 37; have hba9 := hb9.alloc (B := w.heap.size) (by omega) (Obj.cells #[.iface iu vu] 37); clear hw9))
            all_goals
              have hob : Below w.heap.size w w1 := hba9.trans (ho1.below (Nat.le_refl _) (by simp; omega))
              go_wp2_with fail
              go_roundw
              case rel => exact ⟨k + 1, _, by omega, by omega, by go_num, HC.out, by rw [HE.out]; exact hrow1, hob⟩
              case measure => simp [intOf]; omega
          · have hx0 : ¬ 0 ≤ x := by omega
            by_cases h2 : x = -1
            · subst h2
              have HTK := Lib.hid (show tkn (-1) = 1 from rfl)
              by_cases hj0 : j = 0
              · have HF := Lib.hid (HST.out _ HX.out (stF_bad (by omega) (by omega) (by omega)))
                have HT := Lib.hid (show resT f = .nilIface by unfold resT; rw [HF.out]; rfl)
                subst hj0
                clear hkc h1 hx0
                go_wp2_with (first | (go_at_call 17; refine (takenBy_any _ _).mono ?_; rintro e w1 ⟨he, rfl⟩; rw [HK.out, HTK.out] at he; subst he))
                go_ret2
                exact ⟨by rw [HF.out, HT.out]; rfl, hbw⟩
              · obtain ⟨r, rfl⟩ : ∃ r, j = r + 1 := ⟨j - 1, by omega⟩
                obtain ⟨g, cap, e1, _, _, hcell⟩ := hrow.at0 (by rw [encs_len]; omega)
                rw [encs_len, hpl] at e1
                injection e1 with e1 _ e3
                subst e1
                subst e3
                have hPr : r < P.length := by omega
                have HC := Lib.hid ((HNX.out _ HX.out).trans (stF_not (j := r + 1) (by omega)))
                obtain ⟨iu, vu, hu⟩ := encT_if (.nt P[r])
                have HU := Lib.hid hu
                have HE := Lib.hid (show encs (pileR (f.take (k + 1))) = (encs P).take r ++ [.iface iu vu] by
                  rw [HPX.out]
                  unfold stR
                  rw [if_neg (by decide), if_pos rfl, last_at hpl, drop_one hpl, ← hu]
                  simp [encs, List.map_take])
                have c1 := hcell r (encT P[r]) (by simp [encs, hPr])
                have HRP := Lib.hid (hrow.prefix_ (r := r) (by rw [encs_len]; exact hpl) (Nat.le_succ _))
                have L1 := Lib.hid (show ((encs P).take r).length + 1 ≤ maxLen ∧ (((encs P).take r).length + 1) * 16 ≤ 140737488355328 by rw [List.length_take, encs_len]; unfold maxLen; omega)
                have j1 : (0 : Int) ≤ (r : Int) := by omega
                have j2 : (r : Int) + 1 ≤ (cb : Int) := by omega
                have j4 : (r : Int) ≤ (r : Int) + 1 := by omega
                have j5 : ¬ cb = r := by omega
                have j3 : (r : Int) ≤ (cb : Int) := by omega
                have HC1 := Lib.hid (show wr.drew.cell? ⟨g, r, none⟩ = some (encT P[r]) from c1)
                clear hu hkc h1 hx0 hrow hrd hcell hj0 c1
                go_wp2_with (first | (go_at_call 17; refine (takenBy_any _ _).mono ?_; rintro e w1 ⟨he, rfl⟩; rw [HK.out, HTK.out] at he; subst he))
                go_region_law (first
                  | (refine step_app (news := [.iface iu vu]) (B := w9.heap.size + 1) (A := some ⟨w9.heap.size, 0, none⟩) (m := 1) (c := 1) (v := .slice (some ⟨g, 0, none⟩) r cb) (xs := (encs P).take r) (lo := w.heap.size) (hi' := wr.heap.size) rfl (.tmp 37) (.tmp 43) 44 rfl 37 i0 .nilIface 16 Tryd.underlying44 hi hz0 hz1 hz2 rfl (by simp [Act.eval]) (by simp [Act.eval]) (by first | exact HR9 | exact HR9.drewN 1) rfl (by first | exact hm9 | exact hm9.drewN 1) (by simp [Value.oneCell']) L1.out.1 L1.out.2 (by simp; omega) ?_; intro v1 w1 hrow1 ho1)
                  | (go_simp; go_at_call 18; (with_reducible refine (above1_any (x := -1) (t := P[r]) HC1.out).mono ?_); rintro e w9 ⟨he, m9, hw9⟩; rw [HU.out] at he; subst he; have hs9 : w9.heap.size = wr.heap.size := (by rw [hw9]; rfl); have hb9 : Below w.heap.size w w9 := (by rw [hw9]; exact below_drewN hbw.drew m9); have HR9 : Row (w9.alloc (Obj.cells #[.iface iu vu] 37)) w.heap.size wr.heap.size 37 (.slice (some ⟨g, 0, none⟩) r cb) ((encs P).take r) := (HRP.out.keep (w' := w9.alloc (Obj.cells #[.iface iu vu] 37)) (fun b _ h2 _ => by rw [hw9] at hs9 ⊢; exact (alloc_new (wr.drew.drewN m9) (Obj.cells #[.iface iu vu] 37)).block b (by rw [hs9]; exact h2))); have hm9 := Rd.made w9 #[.iface iu vu] 37; have hba9 := hb9.alloc (B := w.heap.size) (by omega) (Obj.cells #[.iface iu vu] 37); clear hw9))
                all_goals
                  have hob : Below w.heap.size w w1 := hba9.trans (ho1.below (Nat.le_refl _) (by simp; omega))
                  go_wp2_with fail
                  go_roundw
                  case rel => exact ⟨k + 1, _, by omega, by omega, by go_num, HC.out, by rw [HE.out]; exact hrow1, hob⟩
                  case measure => simp [intOf]; omega
            · have h3 : -4 ≤ x ∧ x ≤ -2 := by omega
              have HTK := Lib.hid (show tkn x = 2 by unfold tkn; rw [if_neg h1, if_neg h2, if_pos h3])
              by_cases hj0 : j < 2
              · have HF := Lib.hid (HST.out _ HX.out (stF_bad (by omega) (by omega) (by omega)))
                have HT := Lib.hid (show resT f = .nilIface by unfold resT; rw [HF.out]; rfl)
                clear hkc h1 hx0 h2 h3
                go_wp2_with (first | (go_at_call 17; refine (takenBy_any _ _).mono ?_; rintro e w1 ⟨he, rfl⟩; rw [HK.out, HTK.out] at he; subst he))
                go_ret2
                exact ⟨by rw [HF.out, HT.out]; rfl, hbw⟩
              · obtain ⟨r, rfl⟩ : ∃ r, j = r + 2 := ⟨j - 2, by omega⟩
                obtain ⟨g, cap, e1, _, _, hcell⟩ := hrow.at0 (by rw [encs_len]; omega)
                rw [encs_len, hpl] at e1
                injection e1 with e1 _ e3
                subst e1
                subst e3
                have hPr : r < P.length := by omega
                have hPr1 : r + 1 < P.length := by omega
                have HC := Lib.hid ((HNX.out _ HX.out).trans (stF_op (j := r + 2) h3 (by omega)))
                obtain ⟨iu, vu, hu⟩ := encT_if (.jt x P[r] P[r + 1])
                have HU := Lib.hid hu
                have HE := Lib.hid (show encs (pileR (f.take (k + 1))) = (encs P).take r ++ [.iface iu vu] by
                  rw [HPX.out]
                  unfold stR
                  rw [if_neg hx0, if_neg h2, last_at (r := r + 1) hpl, last_drop hpl, drop_two hpl, ← hu]
                  simp [encs, List.map_take])
                have c1 := hcell r (encT P[r]) (by simp [encs, hPr])
                have c2 := hcell (r + 1) (encT P[r + 1]) (by simp [encs, hPr1])
                have HRP := Lib.hid (hrow.prefix_ (r := r) (by rw [encs_len]; exact hpl) (by omega))
                have L1 := Lib.hid (show ((encs P).take r).length + 1 ≤ maxLen ∧ (((encs P).take r).length + 1) * 16 ≤ 140737488355328 by rw [List.length_take, encs_len]; unfold maxLen; omega)
                have j1 : (0 : Int) ≤ (r : Int) := by omega
                have j2 : (r : Int) + 2 ≤ (cb : Int) := by omega
                have j4 : (r : Int) ≤ (r : Int) + 2 := by omega
                have j5 : ¬ cb = r := by omega
                have j3 : (r : Int) ≤ (cb : Int) := by omega
                have HC1 := Lib.hid (show wr.drew.cell? ⟨g, r, none⟩ = some (encT P[r]) from c1)
                have HC2 := Lib.hid (show wr.drew.cell? ⟨g, r + 1, none⟩ = some (encT P[r + 1]) from c2)
                clear hu hkc h1 hx0 h2 h3 hrow hrd hcell hj0 c1 c2
                go_wp2_with (first | (go_at_call 17; refine (takenBy_any _ _).mono ?_; rintro e w1 ⟨he, rfl⟩; rw [HK.out, HTK.out] at he; subst he))
                go_region_law (first
                  | (refine step_app (news := [.iface iu vu]) (B := w9.heap.size + 1) (A := some ⟨w9.heap.size, 0, none⟩) (m := 1) (c := 1) (v := .slice (some ⟨g, 0, none⟩) r cb) (xs := (encs P).take r) (lo := w.heap.size) (hi' := wr.heap.size) rfl (.tmp 37) (.tmp 43) 44 rfl 37 i0 .nilIface 16 Tryd.underlying44 hi hz0 hz1 hz2 rfl (by simp [Act.eval]) (by simp [Act.eval]) (by first | exact HR9 | exact HR9.drewN 1) rfl (by first | exact hm9 | exact hm9.drewN 1) (by simp [Value.oneCell']) L1.out.1 L1.out.2 (by simp; omega) ?_; intro v1 w1 hrow1 ho1)
                  | (go_simp; go_at_call 18; (with_reducible refine (above2_any (x := x) (t := P[r]) (u := P[r + 1]) HC1.out HC2.out).mono ?_); rintro e w9 ⟨he, m9, hw9⟩; rw [HU.out] at he; subst he; have hs9 : w9.heap.size = wr.heap.size := (by rw [hw9]; rfl); have hb9 : Below w.heap.size w w9 := (by rw [hw9]; exact below_drewN hbw.drew m9); have HR9 : Row (w9.alloc (Obj.cells #[.iface iu vu] 37)) w.heap.size wr.heap.size 37 (.slice (some ⟨g, 0, none⟩) r cb) ((encs P).take r) := (HRP.out.keep (w' := w9.alloc (Obj.cells #[.iface iu vu] 37)) (fun b _ h2 _ => by rw [hw9] at hs9 ⊢; exact (alloc_new (wr.drew.drewN m9) (Obj.cells #[.iface iu vu] 37)).block b (by rw [hs9]; exact h2))); have hm9 := Rd.made w9 #[.iface iu vu] 37; have hba9 := hb9.alloc (B := w.heap.size) (by omega) (Obj.cells #[.iface iu vu] 37); clear hw9))
                all_goals
                  have hob : Below w.heap.size w w1 := hba9.trans (ho1.below (Nat.le_refl _) (by simp; omega))
                  go_wp2_with fail
                  go_roundw
                  case rel => exact ⟨k + 1, _, by omega, by omega, by go_num, HC.out, by rw [HE.out]; exact hrow1, hob⟩
                  case measure => simp [intOf]; omega
      · have e : k = n := by omega
        subst e
        rw [List.take_of_length_le (by rw [hl.out]; exact Nat.le_refl _)] at hrow hcn
        have HE := Lib.hid (isF_end hl.out hcn.out)
        have hpl : (pileR f).length = j := by
          have := pileR_take (f := f) (k := k) (n := j) (by rw [List.take_of_length_le (by rw [hl.out]; exact Nat.le_refl _)]; exact hcn.out) (by rw [hl.out]; exact Nat.le_refl _)
          rwa [List.take_of_length_le (by rw [hl.out]; exact Nat.le_refl _)] at this
        by_cases h1 : j = 1
        · subst h1
          have HF := Lib.hid (show isF f = true by rw [HE.out, decide_eq_true rfl, decide_eq_true (by omega)]; rfl)
          obtain ⟨t, ht⟩ := List.length_eq_one_iff.1 hpl
          obtain ⟨iu, vu, hu⟩ := encT_if t
          have HT := Lib.hid (show resT f = .iface iu vu by unfold resT; rw [HF.out, ht]; exact hu)
          obtain ⟨g, cap, e1, _, _, hcell⟩ := hrow.at0 (by rw [encs_len]; omega)
          have c1 := hcell 0 (.iface iu vu) (by simp [encs, ht, hu])
          rw [show (encs (pileR f)).length = 1 by rw [encs_len]; exact hpl] at e1
          subst e1
          clear hu ht hcell hrow
          go_wp2_with fail
          go_ret2
          exact ⟨by rw [HF.out, HT.out]; rfl, hbw⟩
        · have HF := Lib.hid (show isF f = false by rw [HE.out, decide_eq_false h1]; rfl)
          have HT := Lib.hid (show resT f = .nilIface by unfold resT; rw [HF.out]; rfl)
          obtain ⟨Ab, cb, rfl, hrd, hnc, hcm⟩ := hrow.rd (n := j) (by rw [encs_len, hpl])
          have h1' : ((j : Int) != 1) = true := by simpa using (show ¬ (j : Int) = 1 by omega)
          have h1'' : ((j : Int) == 1) = false := by simpa using (show ¬ (j : Int) = 1 by omega)
          go_wp2_with fail
          go_ret2
          exact ⟨by rw [HF.out, HT.out]; rfl, hbw⟩
end Go.Proofs.YtfcckpapcnhejaaDoor
