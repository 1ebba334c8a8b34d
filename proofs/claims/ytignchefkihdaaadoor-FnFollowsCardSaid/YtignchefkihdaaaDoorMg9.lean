/- Contract of the code's treeOf. Condition: the slice has at most 2^40 elements. -/
import Derived.Test.YtignchefkihdaaaDoorMg8
import Derived.Test.YtignchefkihdaaaDoorMg7
namespace Go.Proofs.YtignchefkihdaaaDoor
open Go.ChangeShapes Go.WideShapes Go.ChangeAt Go.RowKit
set_option maxRecDepth 100000
theorem TR_info : (Tryd.prog.info? 44).map (fun i => (i.zero, i.size, i.bytes)) = some (some .nilIface, 1, 16) := by kernel_rfl
theorem Row.prefix_ {w : World} {lo hi : Nat} {t : TypeId} {A : Option Addr} {n c r : Nat} {xs : List Value} (h : Row w lo hi t (.slice A n c) xs) (hn : xs.length = n) (hr : r ≤ n) : Row w lo hi t (.slice A r c) (xs.take r) := by
  subst hn
  have hl : (xs.take r).length = r := by rw [List.length_take]; omega
  obtain ⟨⟨h1, h2⟩, h3⟩ := h
  rcases h2 with ⟨e, hn⟩ | ⟨g, cap, cur, e, hb, hgg, hnc, hcm, hcs, htk⟩
  · injection e with e1 e2 e3
    subst e1 e3
    obtain rfl : r = 0 := by omega
    rw [List.take_zero]
    exact Row.nil
  · injection e with e1 e2 e3
    subst e1 e3
    refine ⟨⟨by omega, .inr ⟨g, c, cur, by rw [hl], hb, hgg, by omega, hcm, hcs, ?_⟩⟩, fun g' hg' => h3 g' hg'⟩
    rw [hl, ← htk, List.take_take]
    congr 1
    omega
theorem add0 (g i : Nat) : (⟨g, 0, none⟩ : Addr).add i = ⟨g, i, none⟩ := by
  unfold Addr.add
  split <;> simp_all
theorem Row.at0 {w : World} {lo hi : Nat} {t : TypeId} {v : Value} {xs : List Value} (h : Row w lo hi t v xs) (h0 : 0 < xs.length) : ∃ g cap, v = .slice (some ⟨g, 0, none⟩) xs.length cap ∧ xs.length ≤ cap ∧ cap ≤ maxLen ∧ ∀ (i : Nat) u, xs[i]? = some u → w.cell? ⟨g, i, none⟩ = some u := by
  obtain ⟨A, c, e, hrd, h1, h2⟩ := h.rd (n := xs.length) rfl
  have h' := h
  obtain ⟨⟨_, h3⟩, _⟩ := h'
  rcases h3 with ⟨e', hn⟩ | ⟨g, cap, cur, e', _, _, h4, h5, _⟩
  · omega
  · refine ⟨g, cap, e', h4, h5, fun i u hu => ?_⟩
    rw [e] at e'
    injection e' with e1
    obtain ⟨ad, ha, _, hc⟩ := hrd i u hu
    rw [e1] at ha
    injection ha with ha
    subst ha
    rw [add0] at hc
    exact hc
theorem isF_stop {f : List Int} {k j : Nat} {x : Int} (hk : k < f.length) (hx : x = f[k]) (h : cntF (f.take k) = some j) (hs : stF (some j) x = none) : isF f = false := isF_bad ((cnt_next hk hx h).trans hs)
theorem cnt_le {f : List Int} : ∀ {k j : Nat}, k ≤ f.length → cntF (f.take k) = some j → j ≤ k
  | 0, j, _, h => by simp [cntF] at h; omega
  | k + 1, j, hk, h => by
    rw [take_next (show k < f.length by omega)] at h
    obtain ⟨m, hm⟩ := cnt_some_pre h
    rw [cntF_snoc, hm] at h
    have := cnt_le (by omega) hm
    obtain ⟨n, e, hc⟩ := stF_some h
    injection e with e
    omega
theorem pile_next {f : List Int} {k : Nat} {x : Int} (hk : k < f.length) (hx : x = f[k]) : pileR (f.take (k + 1)) = stR (pileR (f.take k)) x := by rw [take_next hk, pileR_snoc, hx]
def resT (f : List Int) : Value := if isF f then encT ((pileR f).headD default) else .nilIface
theorem last_at {P : List Tr} {r : Nat} (h : P.length = r + 1) : P.getLastD default = P[r] := by
  have e : P[P.length - 1]? = some P[r] := by rw [show P.length - 1 = r by omega]; exact List.getElem?_eq_getElem _
  rw [List.getLastD_eq_getLast?, List.getLast?_eq_getElem?, e]
  rfl
theorem last_drop {P : List Tr} {r : Nat} (h : P.length = r + 2) : P.dropLast.getLastD default = P[r] := by
  have e : P.dropLast[P.dropLast.length - 1]? = some P[r] := by
    rw [List.length_dropLast, show P.length - 1 - 1 = r by omega, List.getElem?_eq_getElem (by rw [List.length_dropLast]; omega), List.getElem_dropLast]
  rw [List.getLastD_eq_getLast?, List.getLast?_eq_getElem?, e]
  rfl
theorem drop_one {P : List Tr} {r : Nat} (h : P.length = r + 1) : P.dropLast = P.take r := by rw [List.dropLast_eq_take, h]; rfl
theorem drop_two {P : List Tr} {r : Nat} (h : P.length = r + 2) : P.dropLast.dropLast = P.take r := by
  rw [drop_one (r := r + 1) h, List.dropLast_eq_take, List.length_take, h, List.take_take]
  congr 1
  omega
set_option maxHeartbeats 4000000 in
theorem treeOf_any {w : World} {A : Option Addr} {n c : Nat} {f : List Int} (hl : Hid (f.length = n)) (hr : Rd w w.heap.size A (ivs f)) :
    Calls Tryd.prog 21 #[.slice A n c] w (fun e w' => e = .returned (.tuple #[resT f, .bool (isF f)]) ∧ Below w.heap.size w w') := by
  by_cases hbig : 24 < n
  · have HF := Lib.hid (show isF f = false by unfold isF; rw [hl.out, decide_eq_false (show ¬ n ≤ 24 by omega), Bool.and_false])
    have HT := Lib.hid (show resT f = .nilIface by unfold resT; rw [HF.out]; rfl)
    go_enter Tryd.func21, Tryd.ntmps21
    go_wp2_with fail
    go_ret2
    exact ⟨by rw [HF.out, HT.out]; rfl, Below.refl _ _⟩
  · obtain ⟨i0, hi, hz0, hz1, hz2⟩ := info_parts TR_info
    have hrow0 := Row.made (w := w) w.heap.size #[] 0 44 (Nat.le_refl _) rfl (Nat.zero_le _)
    have hb0 := alloc_new w (Obj.cells #[] 44)
    go_enter Tryd.func21, Tryd.ntmps21
    go_wp2_with fail
    go_loopw [4, 16] (fun b i wr => ∃ k j : Nat, k ≤ n ∧ j ≤ k ∧ i = .int .i64 k ∧ Hid (cntF (f.take k) = some j) ∧ Row wr w.heap.size wr.heap.size 44 b (encs (pileR (f.take k))) ∧ Below w.heap.size w wr) (fun _ i _ => n - (intOf i).toNat)
    case atStart => exact ⟨0, 0, Nat.zero_le _, Nat.le_refl _, rfl, Lib.hid rfl, hrow0.wide (Nat.le_refl _) (by simp), hb0⟩
    case round =>
      obtain ⟨k, j, hk, hjk, rfl, hcn, hrow, hbw⟩ := hrel
      have hsz := hbw.size
      clear hrow0 hb0
      by_cases hlt : k < n
      · have hkz : k < f.length := by rw [hl.out]; exact hlt
        obtain ⟨ad, rfl, hab, hc⟩ := ivs_at (hr.below hbw) hkz
        have HPN := Lib.hid (fun (x : Int) (hx : x = f[k]) => pile_next hkz hx)
        have HST := Lib.hid (fun (x : Int) (hx : x = f[k]) (hs : stF (some j) x = none) => isF_stop hkz hx hcn.out hs)
        have HNX := Lib.hid (fun (x : Int) (hx : x = f[k]) => cnt_next hkz hx hcn.out)
        have hpl := pileR_take hcn.out (by omega)
        obtain ⟨x, hx⟩ : ∃ x, x = f[k] := ⟨_, rfl⟩
        rw [← hx] at hc
        obtain ⟨P, hP⟩ : ∃ P, P = pileR (f.take k) := ⟨_, rfl⟩
        rw [← hP] at hrow hpl
        have HPX := Lib.hid (HPN.out x hx)
        rw [← hP] at HPX
        have HX := Lib.hid hx
        have i0' : (0 : Int) ≤ (k : Int) := by omega
        obtain ⟨Ab, cb, rfl, hrd, hnc, hcm⟩ := hrow.rd (n := j) (by rw [encs_len, hpl])
        clear hx hP
        by_cases hkn : knw x = true
        case neg =>
          have HK := Lib.hid (show knw x = false by simpa using hkn)
          have hkn' : ¬ ((0 ≤ x ∧ x ≤ 5) ∨ x = -1 ∨ (-4 ≤ x ∧ x ≤ -2)) := by unfold knw at hkn; simpa using hkn
          have HF := Lib.hid (HST.out x HX.out (stF_bad (by omega) (by omega) (by omega)))
          have HT := Lib.hid (show resT f = .nilIface by unfold resT; rw [HF.out]; rfl)
          have HTK := Lib.hid (show tkn x = 0 by unfold tkn; rw [if_neg (by omega), if_neg (by omega), if_neg (by omega)])
          clear hkn hkn'
          go_wp2_with (first | (go_at_call 34; refine (takenBy_any _ _).mono ?_; rintro e w1 ⟨he, rfl⟩; rw [HK.out, HTK.out] at he; subst he))
          go_ret2
          exact ⟨by rw [HF.out, HT.out]; rfl, hbw⟩
        case pos =>
          have HK := Lib.hid hkn
          have hkc : (0 ≤ x ∧ x ≤ 5) ∨ x = -1 ∨ (-4 ≤ x ∧ x ≤ -2) := by unfold knw at hkn; simpa using hkn
          clear hkn
          by_cases h1 : 0 ≤ x ∧ x ≤ 5
          · have HTK := Lib.hid (show tkn x = 0 by unfold tkn; rw [if_pos h1])
            have HC := Lib.hid ((HNX.out x HX.out).trans (stF_let h1))
            obtain ⟨iu, vu, hu⟩ := encT_if (.lt x)
            have HU := Lib.hid hu
            have HE := Lib.hid (show encs (pileR (f.take (k + 1))) = (encs P).take j ++ [.iface iu vu] by
              rw [HPX.out, List.take_of_length_le (by rw [encs_len]; omega)]
              unfold stR
              rw [if_pos h1.1]
              simp [encs, hu])
            have HRP := Lib.hid (hrow.prefix_ (r := j) (by rw [encs_len]; exact hpl) (Nat.le_refl _))
            have L1 := Lib.hid (show ((encs P).take j).length + 1 ≤ maxLen ∧ (((encs P).take j).length + 1) * 16 ≤ 140737488355328 by rw [List.length_take, encs_len]; unfold maxLen; omega)
            have j1 : (0 : Int) ≤ (j : Int) := by omega
            have j2 : (j : Int) ≤ (cb : Int) := by omega
            clear hu hkc h1 hrow hrd
            go_wp2_with (first | (go_at_call 34; refine (takenBy_any _ _).mono ?_; rintro e w1 ⟨he, rfl⟩; rw [HK.out, HTK.out] at he; subst he))
            go_region_law (first
              | (refine step_app (news := [.iface iu vu]) (B := w9.heap.size + 1) (A := some ⟨w9.heap.size, 0, none⟩) (m := 1) (c := 1) (v := .slice Ab j cb) (xs := (encs P).take j) (lo := w.heap.size) (hi' := wr.heap.size) rfl (.tmp 37) (.tmp 43) 63 rfl 44 i0 .nilIface 16 Tryd.underlying63 hi hz0 hz1 hz2 rfl (by simp [Act.eval]) (by simp [Act.eval]) (by first | exact HR9 | exact HR9.drewN 1) rfl (by first | exact hm9 | exact hm9.drewN 1) (by simp [Value.oneCell']) L1.out.1 L1.out.2 (by simp; omega) ?_; intro v1 w1 hrow1 ho1)
              | (go_simp; go_at_call 35; (with_reducible refine (above0_any (x := x)).mono ?_); rintro e w9 ⟨he, m9, hw9⟩; rw [HU.out] at he; subst he; have hs9 : w9.heap.size = wr.heap.size := (by rw [hw9]; rfl); have hb9 : Below w.heap.size w w9 := (by rw [hw9]; exact below_drewN hbw.drew m9); have HR9 : Row (w9.alloc (Obj.cells #[.iface iu vu] 44)) w.heap.size wr.heap.size 44 (.slice Ab j cb) ((encs P).take j) := (HRP.out.keep (w' := w9.alloc (Obj.cells #[.iface iu vu] 44)) (fun b _ h2 _ => by rw [hw9] at hs9 ⊢; exact (alloc_new (wr.drew.drewN m9) (Obj.cells #[.iface iu vu] 44)).block b (by rw [hs9]; exact h2))); have hm9 := Rd.made w9 #[.iface iu vu] 44; have hba9 := hb9.alloc (B := w.heap.size) (by omega) (Obj.cells #[.iface iu vu] 44); clear hw9))
            all_goals
              have hob : Below w.heap.size w w1 := hba9.trans (ho1.below (Nat.le_refl _) (by simp; omega))
              go_wp2_with fail
              go_roundw
              case rel => exact ⟨k + 1, _, by omega, by omega, by go_num, HC.out, by rw [HE.out]; exact hrow1, hob⟩
              case measure => simp [intOf]; omega
          · have hx0 : ¬ 0 ≤ x := by omega
            by_cases h2 : x = -1
            · subst h2
              have HTK := Lib.hid (show tkn (-1) = 1 from rfl)
              by_cases hj0 : j = 0
              · have HF := Lib.hid (HST.out _ HX.out (stF_bad (by omega) (by omega) (by omega)))
                have HT := Lib.hid (show resT f = .nilIface by unfold resT; rw [HF.out]; rfl)
                subst hj0
                clear hkc h1 hx0
                go_wp2_with (first | (go_at_call 34; refine (takenBy_any _ _).mono ?_; rintro e w1 ⟨he, rfl⟩; rw [HK.out, HTK.out] at he; subst he))
                go_ret2
                exact ⟨by rw [HF.out, HT.out]; rfl, hbw⟩
              · obtain ⟨r, rfl⟩ : ∃ r, j = r + 1 := ⟨j - 1, by omega⟩
                obtain ⟨g, cap, e1, _, _, hcell⟩ := hrow.at0 (by rw [encs_len]; omega)
                rw [encs_len, hpl] at e1
                injection e1 with e1 _ e3
                subst e1
                subst e3
                have hPr : r < P.length := by omega
                have HC := Lib.hid ((HNX.out _ HX.out).trans (stF_not (j := r + 1) (by omega)))
                obtain ⟨iu, vu, hu⟩ := encT_if (.nt P[r])
                have HU := Lib.hid hu
                have HE := Lib.hid (show encs (pileR (f.take (k + 1))) = (encs P).take r ++ [.iface iu vu] by
                  rw [HPX.out]
                  unfold stR
                  rw [if_neg (by decide), if_pos rfl, last_at hpl, drop_one hpl, ← hu]
                  simp [encs, List.map_take])
                have c1 := hcell r (encT P[r]) (by simp [encs, hPr])
                have HRP := Lib.hid (hrow.prefix_ (r := r) (by rw [encs_len]; exact hpl) (Nat.le_succ _))
                have L1 := Lib.hid (show ((encs P).take r).length + 1 ≤ maxLen ∧ (((encs P).take r).length + 1) * 16 ≤ 140737488355328 by rw [List.length_take, encs_len]; unfold maxLen; omega)
                have j1 : (0 : Int) ≤ (r : Int) := by omega
                have j2 : (r : Int) + 1 ≤ (cb : Int) := by omega
                have j4 : (r : Int) ≤ (r : Int) + 1 := by omega
                have j5 : ¬ cb = r := by omega
                have j3 : (r : Int) ≤ (cb : Int) := by omega
                have HC1 := Lib.hid (show wr.drew.cell? ⟨g, r, none⟩ = some (encT P[r]) from c1)
                clear hu hkc h1 hx0 hrow hrd hcell hj0 c1
                go_wp2_with (first | (go_at_call 34; refine (takenBy_any _ _).mono ?_; rintro e w1 ⟨he, rfl⟩; rw [HK.out, HTK.out] at he; subst he))
                go_region_law (first
                  | (refine step_app (news := [.iface iu vu]) (B := w9.heap.size + 1) (A := some ⟨w9.heap.size, 0, none⟩) (m := 1) (c := 1) (v := .slice (some ⟨g, 0, none⟩) r cb) (xs := (encs P).take r) (lo := w.heap.size) (hi' := wr.heap.size) rfl (.tmp 37) (.tmp 43) 63 rfl 44 i0 .nilIface 16 Tryd.underlying63 hi hz0 hz1 hz2 rfl (by simp [Act.eval]) (by simp [Act.eval]) (by first | exact HR9 | exact HR9.drewN 1) rfl (by first | exact hm9 | exact hm9.drewN 1) (by simp [Value.oneCell']) L1.out.1 L1.out.2 (by simp; omega) ?_; intro v1 w1 hrow1 ho1)
                  | (go_simp; go_at_call 35; (with_reducible refine (above1_any (x := -1) (t := P[r]) HC1.out).mono ?_); rintro e w9 ⟨he, m9, hw9⟩; rw [HU.out] at he; subst he; have hs9 : w9.heap.size = wr.heap.size := (by rw [hw9]; rfl); have hb9 : Below w.heap.size w w9 := (by rw [hw9]; exact below_drewN hbw.drew m9); have HR9 : Row (w9.alloc (Obj.cells #[.iface iu vu] 44)) w.heap.size wr.heap.size 44 (.slice (some ⟨g, 0, none⟩) r cb) ((encs P).take r) := (HRP.out.keep (w' := w9.alloc (Obj.cells #[.iface iu vu] 44)) (fun b _ h2 _ => by rw [hw9] at hs9 ⊢; exact (alloc_new (wr.drew.drewN m9) (Obj.cells #[.iface iu vu] 44)).block b (by rw [hs9]; exact h2))); have hm9 := Rd.made w9 #[.iface iu vu] 44; have hba9 := hb9.alloc (B := w.heap.size) (by omega) (Obj.cells #[.iface iu vu] 44); clear hw9))
                all_goals
                  have hob : Below w.heap.size w w1 := hba9.trans (ho1.below (Nat.le_refl _) (by simp; omega))
                  go_wp2_with fail
                  go_roundw
                  case rel => exact ⟨k + 1, _, by omega, by omega, by go_num, HC.out, by rw [HE.out]; exact hrow1, hob⟩
                  case measure => simp [intOf]; omega
            · have h3 : -4 ≤ x ∧ x ≤ -2 := by omega
              have HTK := Lib.hid (show tkn x = 2 by unfold tkn; rw [if_neg h1, if_neg h2, if_pos h3])
              by_cases hj0 : j < 2
              · have HF := Lib.hid (HST.out _ HX.out (stF_bad (by omega) (by omega) (by omega)))
                have HT := Lib.hid (show resT f = .nilIface by unfold resT; rw [HF.out]; rfl)
                clear hkc h1 hx0 h2 h3
                go_wp2_with (first | (go_at_call 34; refine (takenBy_any _ _).mono ?_; rintro e w1 ⟨he, rfl⟩; rw [HK.out, HTK.out] at he; subst he))
                go_ret2
                exact ⟨by rw [HF.out, HT.out]; rfl, hbw⟩
              · obtain ⟨r, rfl⟩ : ∃ r, j = r + 2 := ⟨j - 2, by omega⟩
                obtain ⟨g, cap, e1, _, _, hcell⟩ := hrow.at0 (by rw [encs_len]; omega)
                rw [encs_len, hpl] at e1
                injection e1 with e1 _ e3
                subst e1
                subst e3
                have hPr : r < P.length := by omega
                have hPr1 : r + 1 < P.length := by omega
                have HC := Lib.hid ((HNX.out _ HX.out).trans (stF_op (j := r + 2) h3 (by omega)))
                obtain ⟨iu, vu, hu⟩ := encT_if (.jt x P[r] P[r + 1])
                have HU := Lib.hid hu
                have HE := Lib.hid (show encs (pileR (f.take (k + 1))) = (encs P).take r ++ [.iface iu vu] by
                  rw [HPX.out]
                  unfold stR
                  rw [if_neg hx0, if_neg h2, last_at (r := r + 1) hpl, last_drop hpl, drop_two hpl, ← hu]
                  simp [encs, List.map_take])
                have c1 := hcell r (encT P[r]) (by simp [encs, hPr])
                have c2 := hcell (r + 1) (encT P[r + 1]) (by simp [encs, hPr1])
                have HRP := Lib.hid (hrow.prefix_ (r := r) (by rw [encs_len]; exact hpl) (by omega))
                have L1 := Lib.hid (show ((encs P).take r).length + 1 ≤ maxLen ∧ (((encs P).take r).length + 1) * 16 ≤ 140737488355328 by rw [List.length_take, encs_len]; unfold maxLen; omega)
                have j1 : (0 : Int) ≤ (r : Int) := by omega
                have j2 : (r : Int) + 2 ≤ (cb : Int) := by omega
                have j4 : (r : Int) ≤ (r : Int) + 2 := by omega
                have j5 : ¬ cb = r := by omega
                have j3 : (r : Int) ≤ (cb : Int) := by omega
                have HC1 := Lib.hid (show wr.drew.cell? ⟨g, r, none⟩ = some (encT P[r]) from c1)
                have HC2 := Lib.hid (show wr.drew.cell? ⟨g, r + 1, none⟩ = some (encT P[r + 1]) from c2)
                clear hu hkc h1 hx0 h2 h3 hrow hrd hcell hj0 c1 c2
                go_wp2_with (first | (go_at_call 34; refine (takenBy_any _ _).mono ?_; rintro e w1 ⟨he, rfl⟩; rw [HK.out, HTK.out] at he; subst he))
                go_region_law (first
                  | (refine step_app (news := [.iface iu vu]) (B := w9.heap.size + 1) (A := some ⟨w9.heap.size, 0, none⟩) (m := 1) (c := 1) (v := .slice (some ⟨g, 0, none⟩) r cb) (xs := (encs P).take r) (lo := w.heap.size) (hi' := wr.heap.size) rfl (.tmp 37) (.tmp 43) 63 rfl 44 i0 .nilIface 16 Tryd.underlying63 hi hz0 hz1 hz2 rfl (by simp [Act.eval]) (by simp [Act.eval]) (by first | exact HR9 | exact HR9.drewN 1) rfl (by first | exact hm9 | exact hm9.drewN 1) (by simp [Value.oneCell']) L1.out.1 L1.out.2 (by simp; omega) ?_; intro v1 w1 hrow1 ho1)
                  | (go_simp; go_at_call 35; (with_reducible refine (above2_any (x := x) (t := P[r]) (u := P[r + 1]) HC1.out HC2.out).mono ?_); rintro e w9 ⟨he, m9, hw9⟩; rw [HU.out] at he; subst he; have hs9 : w9.heap.size = wr.heap.size := (by rw [hw9]; rfl); have hb9 : Below w.heap.size w w9 := (by rw [hw9]; exact below_drewN hbw.drew m9); have HR9 : Row (w9.alloc (Obj.cells #[.iface iu vu] 44)) w.heap.size wr.heap.size 44 (.slice (some ⟨g, 0, none⟩) r cb) ((encs P).take r) := (HRP.out.keep (w' := w9.alloc (Obj.cells #[.iface iu vu] 44)) (fun b _ h2 _ => by rw [hw9] at hs9 ⊢; exact (alloc_new (wr.drew.drewN m9) (Obj.cells #[.iface iu vu] 44)).block b (by rw [hs9]; exact h2))); have hm9 := Rd.made w9 #[.iface iu vu] 44; have hba9 := hb9.alloc (B := w.heap.size) (by omega) (Obj.cells #[.iface iu vu] 44); clear hw9))
                all_goals
                  have hob : Below w.heap.size w w1 := hba9.trans (ho1.below (Nat.le_refl _) (by simp; omega))
                  go_wp2_with fail
                  go_roundw
                  case rel => exact ⟨k + 1, _, by omega, by omega, by go_num, HC.out, by rw [HE.out]; exact hrow1, hob⟩
                  case measure => simp [intOf]; omega
      · have e : k = n := by omega
        subst e
        rw [List.take_of_length_le (by rw [hl.out]; exact Nat.le_refl _)] at hrow hcn
        have HE := Lib.hid (isF_end hl.out hcn.out)
        have hpl : (pileR f).length = j := by
          have := pileR_take (f := f) (k := k) (n := j) (by rw [List.take_of_length_le (by rw [hl.out]; exact Nat.le_refl _)]; exact hcn.out) (by rw [hl.out]; exact Nat.le_refl _)
          rwa [List.take_of_length_le (by rw [hl.out]; exact Nat.le_refl _)] at this
        by_cases h1 : j = 1
        · subst h1
          have HF := Lib.hid (show isF f = true by rw [HE.out, decide_eq_true rfl, decide_eq_true (by omega)]; rfl)
          obtain ⟨t, ht⟩ := List.length_eq_one_iff.1 hpl
          obtain ⟨iu, vu, hu⟩ := encT_if t
          have HT := Lib.hid (show resT f = .iface iu vu by unfold resT; rw [HF.out, ht]; exact hu)
          obtain ⟨g, cap, e1, _, _, hcell⟩ := hrow.at0 (by rw [encs_len]; omega)
          have c1 := hcell 0 (.iface iu vu) (by simp [encs, ht, hu])
          rw [show (encs (pileR f)).length = 1 by rw [encs_len]; exact hpl] at e1
          subst e1
          clear hu ht hcell hrow
          go_wp2_with fail
          go_ret2
          exact ⟨by rw [HF.out, HT.out]; rfl, hbw⟩
        · have HF := Lib.hid (show isF f = false by rw [HE.out, decide_eq_false h1]; rfl)
          have HT := Lib.hid (show resT f = .nilIface by unfold resT; rw [HF.out]; rfl)
          obtain ⟨Ab, cb, rfl, hrd, hnc, hcm⟩ := hrow.rd (n := j) (by rw [encs_len, hpl])
          have h1' : ((j : Int) != 1) = true := by simpa using (show ¬ (j : Int) = 1 by omega)
          have h1'' : ((j : Int) == 1) = false := by simpa using (show ¬ (j : Int) = 1 by omega)
          go_wp2_with fail
          go_ret2
          exact ⟨by rw [HF.out, HT.out]; rfl, hbw⟩
end Go.Proofs.YtignchefkihdaaaDoor

/- Contracts of the models l10Op and Value. Condition: the slices have at most 2^40 elements. -/
namespace Go.Proofs.YtignchefkihdaaaDoor
open Go.ChangeShapes Go.WideShapes Go.ChangeAt Go.RowKit
set_option maxRecDepth 100000
theorem Row.set_ {w : World} {lo hi : Nat} {t : TypeId} {g n c i : Nat} {xs : List Value} {v : Value} (h : Row w lo hi t (.slice (some ⟨g, 0, none⟩) n c) xs) : Row (w.setCell ⟨g, i, none⟩ v) lo hi t (.slice (some ⟨g, 0, none⟩) n c) (xs.set i v) := by
  obtain ⟨⟨h1, h2⟩, h3⟩ := h
  rcases h2 with ⟨e, hn⟩ | ⟨g', cap, cur, e, hb, hgg, hnc, hcm, hcs, htk⟩
  · injection e with e1; cases e1
  · injection e with e1 e2 e3
    injection e1 with e1
    injection e1 with e1
    subst e1 e3
    have hst := (World.ownsRow.stored (w := w) (base := lo) (e := t) (size := 1) (g := g) (n := n) (cap := c) (xs := xs) (e2 ▸ ⟨h1, .inr ⟨g, c, cur, rfl, hb, hgg, hnc, hcm, hcs, htk⟩⟩) i v).1
    refine ⟨?_, fun g' hg' => h3 g' hg'⟩
    rw [List.length_set]
    exact e2 ▸ hst
theorem Row.froz {w : World} {lo hi : Nat} {t : TypeId} {g n c i : Nat} {xs : List Value} (h : Row w lo hi t (.slice (some ⟨g, 0, none⟩) n c) xs) : w.frozen? ⟨g, i, none⟩ = false := by
  obtain ⟨⟨h1, h2⟩, h3⟩ := h
  rcases h2 with ⟨e, hn⟩ | ⟨g', cap, cur, e, hb, hgg, _⟩
  · injection e with e1; cases e1
  · injection e with e1 e2 e3
    injection e1 with e1
    injection e1 with e1
    subst e1
    exact frozen_of_row w g i cur t hgg
theorem fml_pre {f : List Int} (h : isF f = true) {k : Nat} : ∃ j, cntF (f.take k) = some j := by
  unfold isF at h
  rw [Bool.and_eq_true, decide_eq_true_iff] at h
  have e : f = f.take k ++ f.drop k := (List.take_append_drop k f).symm
  exact cnt_some_pre (g := f.drop k) (by rw [← e]; exact h.1)
theorem pileV_next {L : List Bool} {f : List Int} {k : Nat} {x : Int} (hk : k < f.length) (hx : x = f[k]) : pileV L (f.take (k + 1)) = stV L (pileV L (f.take k)) x := by rw [take_next hk, pileV_snoc, hx]
theorem lastB_at {P : List Bool} {r : Nat} (h : P.length = r + 1) : P.getLastD false = P[r] := by
  have e : P[P.length - 1]? = some P[r] := by rw [show P.length - 1 = r by omega]; exact List.getElem?_eq_getElem _
  rw [List.getLastD_eq_getLast?, List.getLast?_eq_getElem?, e]
  rfl
theorem lastB_drop {P : List Bool} {r : Nat} (h : P.length = r + 2) : P.dropLast.getLastD false = P[r] := by
  have e : P.dropLast[P.dropLast.length - 1]? = some P[r] := by
    rw [List.length_dropLast, show P.length - 1 - 1 = r by omega, List.getElem?_eq_getElem (by rw [List.length_dropLast]; omega), List.getElem_dropLast]
  rw [List.getLastD_eq_getLast?, List.getLast?_eq_getElem?, e]
  rfl
theorem dropB_one {P : List Bool} {r : Nat} (h : P.length = r + 1) : P.dropLast = P.take r := by rw [List.dropLast_eq_take, h]; rfl
theorem dropB_two {P : List Bool} {r : Nat} (h : P.length = r + 2) : P.dropLast.dropLast = P.take r := by
  rw [List.dropLast_eq_take, List.dropLast_eq_take, List.length_take, h, List.take_take]
  congr 1
  omega
theorem bls_one {p : List Bool} : ∀ u ∈ bls p, u.oneCell' = true := by
  intro u hu
  obtain ⟨t, _, rfl⟩ := List.mem_map.1 hu
  rfl
end Go.Proofs.YtignchefkihdaaaDoor

/- Contracts of the draws of formulas: l10Any, l10Letters, DrawValue, DrawJoin. Condition: the code's bytes lie in old memory. -/
namespace Go.Proofs.YtignchefkihdaaaDoor
open Go.ChangeShapes Go.WideShapes Go.ChangeAt Go.RowKit
set_option maxRecDepth 100000
/-- A row is read in memory from lo to hi. -/
def RdF (w : World) (lo hi : Nat) (v : Value) (zs : List Int) : Prop := ∃ (A : Option Addr) (c : Nat), v = .slice A zs.length c ∧ zs.length ≤ c ∧ c ≤ maxLen ∧ ∀ w', (∀ b, lo ≤ b → b < hi → b < w.heap.size → w'.heap[b]? = w.heap[b]?) → Rd w' hi A (ivs zs)
theorem RdF.of_row {w : World} {lo hi : Nat} {v : Value} {zs : List Int} (h : Row w lo hi 3 v (ivs zs)) : RdF w lo hi v zs := by
  obtain ⟨A, c, rfl, hr, hc, hm⟩ := h.rd (n := zs.length) (ivs_len zs)
  exact ⟨A, c, rfl, hc, hm, fun w' hk => (h.keep hk).rd'⟩
theorem RdF.of_tl {w : World} {lo hi : Nat} {A : Option Addr} {n c k : Nat} {zs : List Int} (h : Row w lo hi 3 (.slice A n c) (ivs zs)) (hn : zs.length = n) (hk : k ≤ n) : RdF w lo hi (.slice (tlA A k c) (n - k) (c - k)) (zs.drop k) := by
  obtain ⟨A', c', e, hr, hc, hm⟩ := h.rd (n := n) (by rw [ivs_len, hn])
  injection e with e1 e2 e3
  subst e1 e3
  refine ⟨_, _, by rw [List.length_drop, hn], by rw [List.length_drop, hn]; omega, by omega, fun w' hw => ?_⟩
  have h1 := (h.keep hw).rd'.tl (k := k) (by rw [ivs_len, hn]; exact hc)
  rwa [show (ivs zs).drop k = ivs (zs.drop k) by simp [ivs, List.map_drop]] at h1
theorem RdF.only {w w' : World} {lo hi B : Nat} {v : Value} {zs : List Int} (h : RdF w lo hi v zs) (hg : w.grownBy w' (some B)) (hB : B < lo) : RdF w' lo hi v zs := by
  obtain ⟨A, c, rfl, hc, hm, hk⟩ := h
  exact ⟨A, c, rfl, hc, hm, fun w'' h2 => hk w'' fun b h3 h4 h5 => (h2 b h3 h4 (Nat.lt_of_lt_of_le h5 hg.size)).trans (hg.block b h5 (fun e => by injection e; omega))⟩
theorem RdF.new {w w' : World} {lo hi : Nat} {v : Value} {zs : List Int} (h : RdF w lo hi v zs) (hb : Below w.heap.size w w') : RdF w' lo hi v zs := by
  obtain ⟨A, c, rfl, hc, hm, hk⟩ := h
  exact ⟨A, c, rfl, hc, hm, fun w'' h2 => hk w'' fun b h3 h4 h5 => (h2 b h3 h4 (Nat.lt_of_lt_of_le h5 hb.size)).trans (hb.block b h5)⟩
theorem RdF.rd {w : World} {lo hi : Nat} {v : Value} {zs : List Int} (h : RdF w lo hi v zs) (hh : hi ≤ w.heap.size) : ∃ (A : Option Addr) (c : Nat), v = .slice A zs.length c ∧ zs.length ≤ c ∧ c ≤ maxLen ∧ Rd w w.heap.size A (ivs zs) := by
  obtain ⟨A, c, rfl, hc, hm, hk⟩ := h
  exact ⟨A, c, rfl, hc, hm, (hk w fun _ _ _ _ => rfl).more hh⟩
/-- A formula was drawn; its memory is new. -/
def DrewFm (B : Nat) (A : Option Addr) (n c : Nat) (w : World) (e : Ending) (w' : World) : Prop :=
  ∃ (zs : List Int) (v : Value), zs.length ≤ 15 ∧ e = .returned v ∧ RdF w' w.heap.size w'.heap.size v zs ∧ w.grownBy w' (some B) ∧ Cur w' B A n c
theorem ivs_set (zs : List Int) (k : Nat) (x : Int) : (ivs zs).set k (.int .i64 x) = ivs (zs.set k x) := by simp [ivs, List.map_set]
theorem Row.base_ {w : World} {lo hi n : Nat} {t : TypeId} {v : Value} {xs : List Value} (h : Row w lo hi t v xs) (hn : xs.length = n) (hp : 0 < n) : ∃ g c, v = .slice (some ⟨g, 0, none⟩) n c ∧ lo ≤ g ∧ g < hi ∧ g < w.heap.size ∧ n ≤ c ∧ c ≤ maxLen := by
  subst hn
  rcases h.1.2 with ⟨rfl, hn⟩ | ⟨g, cap, cur, rfl, hb, hgg, hnc, hcm, _⟩
  · omega
  · exact ⟨g, cap, rfl, hb, h.2 g rfl, (Array.getElem?_eq_some_iff.1 hgg).1, hnc, hcm⟩
theorem only_setn {a w : World} {r : Option Nat} (h : a.grownBy w r) {p : Addr} (hp : a.heap.size ≤ p.block) (u : Value) : a.grownBy (w.setCell p u) r :=
  ⟨h.os, h.tape, h.output, by simpa using h.size, fun i hi hne => (Below.heap_setCell w p u i (by omega)).trans (h.block i hi hne)⟩
set_option maxHeartbeats 8000000 in
theorem any10_any {w : World} {B : Nat} {A : Option Addr} {n c : Nat} (h : Cur w B A n c) :
    Calls Tryd.prog 19 #[.pointer (some ⟨B, 0, none⟩)] w (DrewFm B A n c w) := by
  have hB := h.lt
  obtain ⟨i0, hin, hy0, hy1, hy2⟩ := info_parts IntS_info
  have zz : ∀ w, (Go.sizeOf 3).run Tryd.prog w = .ok 1 w := fun w => by simp [sizeOf, typeInfo, hin, hy1]
  go_enter Tryd.func19, Tryd.ntmps19
  go_wp2_with fail
  refine (draw10_any 3 (by omega) (by decide) h).mono ?_
  rintro e w1 ⟨zs, v, hz1, hzl, rfl, hrow, hg1, cur1⟩
  have hzl : zs.length ≤ 15 := hzl
  have hs1 := hg1.size
  obtain ⟨p, hp⟩ : ∃ p, zs.length = p + 1 := ⟨zs.length - 1, by omega⟩
  have HP := Lib.hid hp
  have hp15 : p ≤ 14 := by omega
  have HZ := Lib.hid hzl
  obtain ⟨g, cv, rfl, hg0, hgh, hgw, hcv, hcm⟩ := hrow.base_ (n := p + 1) (by rw [ivs_len, hp]) (by omega)
  have hHC := Lib.hid hcm
  clear hp hzl hz1
  go_wp2_with fail
  refine (below_any cur1 10 (by omega)).mono ?_
  rintro e w2 ⟨x, ⟨hx0, hx1⟩, rfl, hg2, cur2⟩
  have row2 := hrow.out (Out.of_only hg2) (.inr (by omega))
  have hgw2 := only_trans hg1 hg2
  have hs2 := hg2.size
  have HR2 := Lib.hid row2
  have HC2 := Lib.hid cur2
  clear hrow row2 cur1 cur2 hcm
  by_cases h0 : x = 0
  · subst h0
    go_wp2_with fail
    refine (below_any HC2.out ((p + 1 : Nat) : Int) (by omega)).mono ?_
    rintro e w3 ⟨y, ⟨hyy0, hyy1⟩, rfl, hg3, cur3⟩
    obtain ⟨r, rfl⟩ := Int.eq_ofNat_of_zero_le hyy0
    have hrm : r < p + 1 := by omega
    have row3 := HR2.out.out (Out.of_only hg3) (.inr (by omega))
    have hgw3 := only_trans hgw2 hg3
    have hs3 := hg3.size
    have hne : B ≠ w3.heap.size := by omega
    have hir := introw_alloc (fun _ => True) w3 [-5, -4, 5, 6, 9223372036854775807] 3 (by simp)
    have HR := Lib.hid hir
    have k4 := alloc_new w3 (Obj.cells ([-5, -4, 5, 6, 9223372036854775807].map (Value.int .i64)).toArray 3)
    have hgw4 := only_then hgw3 (k4.mono (by omega))
    have hz4 := k4.size
    have row4 := row3.new k4
    have cur4 := cur3.below k4
    clear row3 hir cur3
    go_wp2_with fail
    refine (int_any (fun _ => True) cur4 _ 5 (Ne.symm hne) (by omega) (by omega) HR.out).mono ?_
    rintro e w5 ⟨y, _, rfl, hg5, cur5⟩
    have row5 := row4.out (Out.of_only hg5) (.inr (by omega))
    have hgw5 := only_trans hgw4 hg5
    have hs5 := hg5.size
    have f5 := row5.froz (i := r)
    have hcell : ∃ u0, w5.cell? ⟨g, r, none⟩ = some u0 := by
      obtain ⟨ad, e, _, hc⟩ := row5.rd' r _ (ivs_get zs r (by rw [HP.out]; exact hrm))
      injection e with e
      subst e
      have e1 : (⟨g, 0, none⟩ : Addr).add r = ⟨g, r, none⟩ := by unfold Addr.add; split <;> simp_all
      rw [e1] at hc
      exact ⟨_, hc⟩
    obtain ⟨u0, hu0⟩ := hcell
    have row6 := row5.set_ (i := r) (v := .int .i64 y)
    rw [ivs_set] at row6
    have HR6 := Lib.hid row6
    have cur6 := cur5.below' ((Below.refl g w5).setCell (p := ⟨g, r, none⟩) (Nat.le_refl _) (.int .i64 y)) (by omega)
    have hgw6 := only_setn (p := ⟨g, r, none⟩) hgw5 hg0 (.int .i64 y)
    clear row4 row5 row6 cur4 cur5 hgw2 hgw3 hgw4 hgw5
    go_wp2_with fail
    go_ret
    refine ⟨zs.set r y, _, by rw [List.length_set]; exact HZ.out, rfl, ?_, ?_, ?_⟩
    · exact RdF.of_row (HR6.out.wide (Nat.le_refl _) (by simp; omega))
    · exact hgw6
    · exact cur6
  · have hx0' : (x == 0) = false := by simpa using h0
    by_cases h1 : x = 1
    · subst h1
      have hsl := fun (w : World) => run_from w 25 3 Tryd.underlying25 zz (some ⟨g, 0, none⟩) (n := p + 1) (c := cv) (k := 1) (by omega) hcv
      have HT := Lib.hid (RdF.of_tl (k := 1) HR2.out HP.out (by omega))
      obtain ⟨T, hT⟩ : ∃ T, T = tlA (some ⟨g, 0, none⟩) 1 cv := ⟨_, rfl⟩
      rw [← hT] at hsl HT
      rw [show ((1 : Nat) : Int) = 1 from rfl] at hsl
      rw [Nat.add_sub_cancel] at hsl HT
      clear hT
      go_wp2_with fail
      go_ret
      obtain ⟨A0, c0, e0, h3, h4, h5⟩ := HT.out
      refine ⟨zs.drop 1, _, by rw [List.length_drop]; have := HZ.out; omega, rfl, ⟨A0, c0, e0, h3, h4, fun w' hk => (h5 w' fun b q1 q2 q3 => hk b q1 (by omega) q3).more (by omega)⟩, hgw2, HC2.out⟩
    · have hx1' : (x == 1) = false := by simpa using h1
      go_wp2_with fail
      go_ret
      exact ⟨zs, _, HZ.out, rfl, RdF.of_row (HR2.out.wide (Nat.le_refl _) (by omega)), hgw2, HC2.out⟩
end Go.Proofs.YtignchefkihdaaaDoor
