/- Contract of the model FormulaText. Condition: the slice has at most 2^40 elements. -/
import Derived.Test.YthhdklmdldikfabTxtC
import Derived.Test.YthhdklmdldikfabValM
namespace Go.Proofs.Ythhdklmdldikfab
open Go.ChangeShapes Go.WideShapes Go.ChangeAt Go.RowKit
set_option maxRecDepth 100000
theorem TxtS_info : (Try.prog.info? 9).map (fun i => (i.zero, i.size, i.bytes)) = some (some (.string ByteArray.empty), 1, 16) := by kernel_rfl
def svT (p : List (List UInt8)) : List Value := p.map txV
theorem svT_len (p : List (List UInt8)) : (svT p).length = p.length := by simp [svT]
theorem txV_one (p : List UInt8) : ∀ u ∈ [txV p], u.oneCell' = true := by
  intro u hu
  rw [List.mem_singleton.1 hu]
  rfl
theorem stT_len {p : List (List UInt8)} {x : Int} {m : Nat} (h : stF (some p.length) x = some m) : (stT p x).length = m := by
  obtain ⟨n, e, h⟩ := stF_some h
  injection e with e
  unfold stT
  rcases h with ⟨h1, _, rfl⟩ | ⟨rfl, h2, rfl⟩ | ⟨h1, h2, h3, rfl⟩
  · rw [if_pos h1]; simp [e]
  · rw [if_neg (by decide), if_pos rfl]; simp; omega
  · rw [if_neg (by omega), if_neg (by omega)]; simp; omega
theorem pileT_len {f : List Int} : ∀ {k n : Nat}, cntF (f.take k) = some n → k ≤ f.length → (pileT (f.take k)).length = n
  | 0, n, h, _ => by
    have : n = 0 := by simpa [cntF] using h.symm
    subst this
    simp [pileT]
  | k + 1, n, h, hk => by
    have e := take_next (f := f) (k := k) (by omega)
    rw [e] at h ⊢
    obtain ⟨m, hm⟩ := cnt_some_pre h
    rw [cntF_snoc, hm] at h
    rw [pileT_snoc]
    exact stT_len (by rw [pileT_len hm (by omega)]; exact h)
theorem mem_sumN : ∀ {l : List Nat} {x : Nat}, x ∈ l → x ≤ l.sum
  | y :: l, x, h => by
    rcases List.mem_cons.1 h with rfl | h
    · simp
    · have := mem_sumN h
      simp; omega
theorem pileT_small {f : List Int} {k : Nat} (hf : f.length ≤ 24) : ∀ l ∈ pileT (f.take k), l.length ≤ 72 := by
  intro l hl
  have h := pileT_sum (f.take k)
  have h2 : l.length ≤ sumT (pileT (f.take k)) := mem_sumN (List.mem_map_of_mem hl)
  rw [List.length_take] at h
  omega
theorem lastT_at {P : List (List UInt8)} {r : Nat} (h : P.length = r + 1) : P.getLastD [] = P[r] := by
  have e : P[P.length - 1]? = some P[r] := by rw [show P.length - 1 = r by omega]; exact List.getElem?_eq_getElem _
  rw [List.getLastD_eq_getLast?, List.getLast?_eq_getElem?, e]
  rfl
theorem lastT_drop {P : List (List UInt8)} {r : Nat} (h : P.length = r + 2) : P.dropLast.getLastD [] = P[r] := by
  have e : P.dropLast[P.dropLast.length - 1]? = some P[r] := by
    rw [List.length_dropLast, show P.length - 1 - 1 = r by omega, List.getElem?_eq_getElem (by rw [List.length_dropLast]; omega), List.getElem_dropLast]
  rw [List.getLastD_eq_getLast?, List.getLast?_eq_getElem?, e]
  rfl
theorem dropT_one {P : List (List UInt8)} {r : Nat} (h : P.length = r + 1) : P.dropLast = P.take r := by rw [List.dropLast_eq_take, h]; rfl
theorem dropT_two {P : List (List UInt8)} {r : Nat} (h : P.length = r + 2) : P.dropLast.dropLast = P.take r := by
  rw [List.dropLast_eq_take, List.dropLast_eq_take, List.length_take, h, List.take_take]
  congr 1
  omega
set_option maxHeartbeats 4000000 in
theorem specFormulaText_any {w : World} {A : Option Addr} {n c : Nat} {f : List Int} (hl : Hid (f.length = n)) (hn : n ≤ 1099511627776) (hr : Rd w w.heap.size A (ivs f)) :
    Calls Try.prog 34 #[.slice A n c] w (fun e w' => e = .returned (txV (txtF f)) ∧ Below w.heap.size w w') := by
  by_cases hf : isF f = true
  case neg =>
    have HF := Lib.hid (show isF f = false by simpa using hf)
    have HV := Lib.hid (show txtF f = [] by unfold txtF; rw [if_neg hf])
    clear hf
    go_enter Try.func34, Try.ntmps34
    go_wp2_with fail
    refine (specIsFormula_any (f := f) hl hn hr).mono ?_
    rintro e w1 ⟨rfl, rfl⟩
    rw [HF.out]
    go_wp2_with fail
    go_ret
    exact ⟨by rw [HV.out]; rfl, Below.refl _ _⟩
  case pos =>
    obtain ⟨i0, hi, hz0, hz1, hz2⟩ := info_parts TxtS_info
    have HF := Lib.hid hf
    have HPR := Lib.hid (fun k => fml_pre hf (k := k))
    have HV := Lib.hid (show txtF f = (pileT f).headD [] by unfold txtF; rw [if_pos hf])
    have h24 : n ≤ 24 := by unfold isF at hf; rw [Bool.and_eq_true, decide_eq_true_iff, decide_eq_true_iff, hl.out] at hf; exact hf.2
    have HC1 : Hid (cntF f = some 1) := Lib.hid (by unfold isF at hf; rw [Bool.and_eq_true, decide_eq_true_iff] at hf; exact hf.1)
    have HSM := Lib.hid (fun k => pileT_small (f := f) (k := k) (by rw [hl.out]; exact h24))
    clear hf
    go_enter Try.func34, Try.ntmps34
    go_wp2_with fail
    refine (specIsFormula_any (f := f) hl hn hr).mono ?_
    rintro e w1 ⟨rfl, rfl⟩
    rw [HF.out]
    have hrow0 := Row.made (w := w) w.heap.size #[] 0 9 (Nat.le_refl _) rfl (Nat.zero_le _)
    have hb0 := alloc_new w (Obj.cells #[] 9)
    go_wp2_with fail
    go_loopw [3, 4] (fun b i wr => ∃ k : Nat, k ≤ n ∧ i = .int .i64 k ∧ Row wr w.heap.size wr.heap.size 9 b (svT (pileT (f.take k))) ∧ Below w.heap.size w wr) (fun _ i _ => n - (intOf i).toNat)
    case atStart => exact ⟨0, Nat.zero_le _, rfl, hrow0.wide (Nat.le_refl _) (by simp), hb0⟩
    case round =>
      obtain ⟨k, hk, rfl, hrow, hbw⟩ := hrel
      have hsz := hbw.size
      clear hrow0 hb0
      obtain ⟨j, hj⟩ := HPR.out k
      have hjk := cnt_le (by rw [hl.out]; exact hk) hj
      have hpl := pileT_len hj (by rw [hl.out]; exact hk)
      by_cases hlt : k < n
      · have hkz : k < f.length := by rw [hl.out]; exact hlt
        obtain ⟨ad, rfl, hab, hc⟩ := ivs_at (hr.below hbw) hkz
        obtain ⟨j', hj'⟩ := HPR.out (k + 1)
        have hst := (cnt_next hkz rfl hj).symm.trans hj'
        have HPX := Lib.hid (show pileT (f.take (k + 1)) = stT (pileT (f.take k)) f[k] by rw [take_next hkz, pileT_snoc])
        have HSP := Lib.hid (HSM.out k)
        obtain ⟨x, hx⟩ : ∃ x, x = f[k] := ⟨_, rfl⟩
        rw [← hx] at hc hst HPX
        obtain ⟨P, hP⟩ : ∃ P, P = pileT (f.take k) := ⟨_, rfl⟩
        rw [← hP] at hrow hpl HPX HSP
        have i0' : (0 : Int) ≤ (k : Int) := by omega
        obtain ⟨n2, e2, hcase⟩ := stF_some hst
        injection e2 with e2
        subst e2
        clear hx hP hst hj hj'
        rcases hcase with ⟨h1, h2, _⟩ | ⟨rfl, h2, _⟩ | ⟨h1, h2, h3, _⟩
        · obtain ⟨Ab, cb, rfl, hrd, hnc, hcm⟩ := hrow.rd (n := j) (by rw [svT_len, hpl])
          have HE := Lib.hid (show svT (pileT (f.take (k + 1))) = svT P ++ [txV [UInt8.ofNat (97 + x.toNat)]] by
            rw [HPX.out]
            unfold stT
            rw [if_pos h1]
            simp [svT])
          have L1 := Lib.hid (show (svT P).length + 1 ≤ maxLen ∧ ((svT P).length + 1) * 16 ≤ 140737488355328 by rw [svT_len]; unfold maxLen; omega)
          have hcase : x = 0 ∨ x = 1 ∨ x = 2 ∨ x = 3 ∨ x = 4 ∨ x = 5 := by omega
          clear h1 h2 hrd
          rcases hcase with rfl | rfl | rfl | rfl | rfl | rfl
          · have HX := Lib.hid (show txV [UInt8.ofNat (97 + ((0 : Int)).toNat)] = .string (ByteArray.extract ⟨#[97, 98, 99, 100, 101, 102]⟩ 0 1) from by unfold txV; congr 1)
            have hwm : IntKind.i64.wrap 1 = 1 := by decide
            have HR9 := Lib.hid (hrow.new (alloc_new wr (Obj.cells #[.string (ByteArray.extract ⟨#[97, 98, 99, 100, 101, 102]⟩ 0 1)] 9)))
            have HM9 := Lib.hid (Rd.made wr #[.string (ByteArray.extract ⟨#[97, 98, 99, 100, 101, 102]⟩ 0 1)] 9)
            have hba := hbw.alloc (B := w.heap.size) hsz (Obj.cells #[.string (ByteArray.extract ⟨#[97, 98, 99, 100, 101, 102]⟩ 0 1)] 9)
            clear hrow
            go_wp2_with fail
            go_region_law (refine step_app (news := [.string (ByteArray.extract ⟨#[97, 98, 99, 100, 101, 102]⟩ 0 1)]) (B := wr.heap.size + 1) (A := some ⟨wr.heap.size, 0, none⟩) (m := 1) (c := 1) (v := .slice Ab j cb) (xs := svT P) (lo := w.heap.size) (hi' := wr.heap.size) rfl (.tmp 55) (.tmp 66) 85 rfl 9 i0 (.string ByteArray.empty) 16 Try.underlying85 hi hz0 hz1 hz2 rfl (by simp [Act.eval]) (by simp [Act.eval]) (by first | exact HR9.out | exact HR9.out.drewN 1) rfl (by first | exact HM9.out | exact HM9.out.drewN 1) (by simp [Value.oneCell']) L1.out.1 L1.out.2 (by simp; omega) ?_; intro v1 w9 hrow1 ho1)
            all_goals
              have hob : Below w.heap.size w w9 := hba.drew.trans (ho1.below (Nat.le_refl _) (by simp; omega))
              go_wp2_with fail
              go_roundw
              case rel => exact ⟨k + 1, by omega, by go_num, by rw [HE.out, HX.out]; exact hrow1, hob⟩
              case measure => simp [intOf]; omega
          · have HX := Lib.hid (show txV [UInt8.ofNat (97 + ((1 : Int)).toNat)] = .string (ByteArray.extract ⟨#[97, 98, 99, 100, 101, 102]⟩ 1 2) from by unfold txV; congr 1)
            have hwm : IntKind.i64.wrap 2 = 2 := by decide
            have HR9 := Lib.hid (hrow.new (alloc_new wr (Obj.cells #[.string (ByteArray.extract ⟨#[97, 98, 99, 100, 101, 102]⟩ 1 2)] 9)))
            have HM9 := Lib.hid (Rd.made wr #[.string (ByteArray.extract ⟨#[97, 98, 99, 100, 101, 102]⟩ 1 2)] 9)
            have hba := hbw.alloc (B := w.heap.size) hsz (Obj.cells #[.string (ByteArray.extract ⟨#[97, 98, 99, 100, 101, 102]⟩ 1 2)] 9)
            clear hrow
            go_wp2_with fail
            go_region_law (refine step_app (news := [.string (ByteArray.extract ⟨#[97, 98, 99, 100, 101, 102]⟩ 1 2)]) (B := wr.heap.size + 1) (A := some ⟨wr.heap.size, 0, none⟩) (m := 1) (c := 1) (v := .slice Ab j cb) (xs := svT P) (lo := w.heap.size) (hi' := wr.heap.size) rfl (.tmp 55) (.tmp 66) 85 rfl 9 i0 (.string ByteArray.empty) 16 Try.underlying85 hi hz0 hz1 hz2 rfl (by simp [Act.eval]) (by simp [Act.eval]) (by first | exact HR9.out | exact HR9.out.drewN 1) rfl (by first | exact HM9.out | exact HM9.out.drewN 1) (by simp [Value.oneCell']) L1.out.1 L1.out.2 (by simp; omega) ?_; intro v1 w9 hrow1 ho1)
            all_goals
              have hob : Below w.heap.size w w9 := hba.drew.trans (ho1.below (Nat.le_refl _) (by simp; omega))
              go_wp2_with fail
              go_roundw
              case rel => exact ⟨k + 1, by omega, by go_num, by rw [HE.out, HX.out]; exact hrow1, hob⟩
              case measure => simp [intOf]; omega
          · have HX := Lib.hid (show txV [UInt8.ofNat (97 + ((2 : Int)).toNat)] = .string (ByteArray.extract ⟨#[97, 98, 99, 100, 101, 102]⟩ 2 3) from by unfold txV; congr 1)
            have hwm : IntKind.i64.wrap 3 = 3 := by decide
            have HR9 := Lib.hid (hrow.new (alloc_new wr (Obj.cells #[.string (ByteArray.extract ⟨#[97, 98, 99, 100, 101, 102]⟩ 2 3)] 9)))
            have HM9 := Lib.hid (Rd.made wr #[.string (ByteArray.extract ⟨#[97, 98, 99, 100, 101, 102]⟩ 2 3)] 9)
            have hba := hbw.alloc (B := w.heap.size) hsz (Obj.cells #[.string (ByteArray.extract ⟨#[97, 98, 99, 100, 101, 102]⟩ 2 3)] 9)
            clear hrow
            go_wp2_with fail
            go_region_law (refine step_app (news := [.string (ByteArray.extract ⟨#[97, 98, 99, 100, 101, 102]⟩ 2 3)]) (B := wr.heap.size + 1) (A := some ⟨wr.heap.size, 0, none⟩) (m := 1) (c := 1) (v := .slice Ab j cb) (xs := svT P) (lo := w.heap.size) (hi' := wr.heap.size) rfl (.tmp 55) (.tmp 66) 85 rfl 9 i0 (.string ByteArray.empty) 16 Try.underlying85 hi hz0 hz1 hz2 rfl (by simp [Act.eval]) (by simp [Act.eval]) (by first | exact HR9.out | exact HR9.out.drewN 1) rfl (by first | exact HM9.out | exact HM9.out.drewN 1) (by simp [Value.oneCell']) L1.out.1 L1.out.2 (by simp; omega) ?_; intro v1 w9 hrow1 ho1)
            all_goals
              have hob : Below w.heap.size w w9 := hba.drew.trans (ho1.below (Nat.le_refl _) (by simp; omega))
              go_wp2_with fail
              go_roundw
              case rel => exact ⟨k + 1, by omega, by go_num, by rw [HE.out, HX.out]; exact hrow1, hob⟩
              case measure => simp [intOf]; omega
          · have HX := Lib.hid (show txV [UInt8.ofNat (97 + ((3 : Int)).toNat)] = .string (ByteArray.extract ⟨#[97, 98, 99, 100, 101, 102]⟩ 3 4) from by unfold txV; congr 1)
            have hwm : IntKind.i64.wrap 4 = 4 := by decide
            have HR9 := Lib.hid (hrow.new (alloc_new wr (Obj.cells #[.string (ByteArray.extract ⟨#[97, 98, 99, 100, 101, 102]⟩ 3 4)] 9)))
            have HM9 := Lib.hid (Rd.made wr #[.string (ByteArray.extract ⟨#[97, 98, 99, 100, 101, 102]⟩ 3 4)] 9)
            have hba := hbw.alloc (B := w.heap.size) hsz (Obj.cells #[.string (ByteArray.extract ⟨#[97, 98, 99, 100, 101, 102]⟩ 3 4)] 9)
            clear hrow
            go_wp2_with fail
            go_region_law (refine step_app (news := [.string (ByteArray.extract ⟨#[97, 98, 99, 100, 101, 102]⟩ 3 4)]) (B := wr.heap.size + 1) (A := some ⟨wr.heap.size, 0, none⟩) (m := 1) (c := 1) (v := .slice Ab j cb) (xs := svT P) (lo := w.heap.size) (hi' := wr.heap.size) rfl (.tmp 55) (.tmp 66) 85 rfl 9 i0 (.string ByteArray.empty) 16 Try.underlying85 hi hz0 hz1 hz2 rfl (by simp [Act.eval]) (by simp [Act.eval]) (by first | exact HR9.out | exact HR9.out.drewN 1) rfl (by first | exact HM9.out | exact HM9.out.drewN 1) (by simp [Value.oneCell']) L1.out.1 L1.out.2 (by simp; omega) ?_; intro v1 w9 hrow1 ho1)
            all_goals
              have hob : Below w.heap.size w w9 := hba.drew.trans (ho1.below (Nat.le_refl _) (by simp; omega))
              go_wp2_with fail
              go_roundw
              case rel => exact ⟨k + 1, by omega, by go_num, by rw [HE.out, HX.out]; exact hrow1, hob⟩
              case measure => simp [intOf]; omega
          · have HX := Lib.hid (show txV [UInt8.ofNat (97 + ((4 : Int)).toNat)] = .string (ByteArray.extract ⟨#[97, 98, 99, 100, 101, 102]⟩ 4 5) from by unfold txV; congr 1)
            have hwm : IntKind.i64.wrap 5 = 5 := by decide
            have HR9 := Lib.hid (hrow.new (alloc_new wr (Obj.cells #[.string (ByteArray.extract ⟨#[97, 98, 99, 100, 101, 102]⟩ 4 5)] 9)))
            have HM9 := Lib.hid (Rd.made wr #[.string (ByteArray.extract ⟨#[97, 98, 99, 100, 101, 102]⟩ 4 5)] 9)
            have hba := hbw.alloc (B := w.heap.size) hsz (Obj.cells #[.string (ByteArray.extract ⟨#[97, 98, 99, 100, 101, 102]⟩ 4 5)] 9)
            clear hrow
            go_wp2_with fail
            go_region_law (refine step_app (news := [.string (ByteArray.extract ⟨#[97, 98, 99, 100, 101, 102]⟩ 4 5)]) (B := wr.heap.size + 1) (A := some ⟨wr.heap.size, 0, none⟩) (m := 1) (c := 1) (v := .slice Ab j cb) (xs := svT P) (lo := w.heap.size) (hi' := wr.heap.size) rfl (.tmp 55) (.tmp 66) 85 rfl 9 i0 (.string ByteArray.empty) 16 Try.underlying85 hi hz0 hz1 hz2 rfl (by simp [Act.eval]) (by simp [Act.eval]) (by first | exact HR9.out | exact HR9.out.drewN 1) rfl (by first | exact HM9.out | exact HM9.out.drewN 1) (by simp [Value.oneCell']) L1.out.1 L1.out.2 (by simp; omega) ?_; intro v1 w9 hrow1 ho1)
            all_goals
              have hob : Below w.heap.size w w9 := hba.drew.trans (ho1.below (Nat.le_refl _) (by simp; omega))
              go_wp2_with fail
              go_roundw
              case rel => exact ⟨k + 1, by omega, by go_num, by rw [HE.out, HX.out]; exact hrow1, hob⟩
              case measure => simp [intOf]; omega
          · have HX := Lib.hid (show txV [UInt8.ofNat (97 + ((5 : Int)).toNat)] = .string (ByteArray.extract ⟨#[97, 98, 99, 100, 101, 102]⟩ 5 6) from by unfold txV; congr 1)
            have hwm : IntKind.i64.wrap 6 = 6 := by decide
            have HR9 := Lib.hid (hrow.new (alloc_new wr (Obj.cells #[.string (ByteArray.extract ⟨#[97, 98, 99, 100, 101, 102]⟩ 5 6)] 9)))
            have HM9 := Lib.hid (Rd.made wr #[.string (ByteArray.extract ⟨#[97, 98, 99, 100, 101, 102]⟩ 5 6)] 9)
            have hba := hbw.alloc (B := w.heap.size) hsz (Obj.cells #[.string (ByteArray.extract ⟨#[97, 98, 99, 100, 101, 102]⟩ 5 6)] 9)
            clear hrow
            go_wp2_with fail
            go_region_law (refine step_app (news := [.string (ByteArray.extract ⟨#[97, 98, 99, 100, 101, 102]⟩ 5 6)]) (B := wr.heap.size + 1) (A := some ⟨wr.heap.size, 0, none⟩) (m := 1) (c := 1) (v := .slice Ab j cb) (xs := svT P) (lo := w.heap.size) (hi' := wr.heap.size) rfl (.tmp 55) (.tmp 66) 85 rfl 9 i0 (.string ByteArray.empty) 16 Try.underlying85 hi hz0 hz1 hz2 rfl (by simp [Act.eval]) (by simp [Act.eval]) (by first | exact HR9.out | exact HR9.out.drewN 1) rfl (by first | exact HM9.out | exact HM9.out.drewN 1) (by simp [Value.oneCell']) L1.out.1 L1.out.2 (by simp; omega) ?_; intro v1 w9 hrow1 ho1)
            all_goals
              have hob : Below w.heap.size w w9 := hba.drew.trans (ho1.below (Nat.le_refl _) (by simp; omega))
              go_wp2_with fail
              go_roundw
              case rel => exact ⟨k + 1, by omega, by go_num, by rw [HE.out, HX.out]; exact hrow1, hob⟩
              case measure => simp [intOf]; omega
        · obtain ⟨r, rfl⟩ : ∃ r, j = r + 1 := ⟨j - 1, by omega⟩
          obtain ⟨g, cb, e1, _, _, hcell⟩ := hrow.at0 (by rw [svT_len]; omega)
          rw [svT_len, hpl] at e1
          subst e1
          have hPr : r < P.length := by omega
          have c1 := hcell r (txV P[r]) (by simp [svT, hPr])
          have f1 := hrow.froz (i := r)
          have hsm := HSP.out P[r] (List.getElem_mem hPr)
          have HE := Lib.hid (show svT (pileT (f.take (k + 1))) = (svT P).set r (txV (33 :: P[r])) by
            rw [HPX.out]
            unfold stT
            rw [if_neg (by decide), if_pos rfl, lastT_at hpl, dropT_one hpl]
            simp only [svT, List.map_append, List.map_take, List.map_cons, List.map_nil]
            rw [List.set_eq_take_append_cons_drop, if_pos (by simpa using hPr), List.drop_eq_nil_of_le (by simp; omega)])
          have HS := Lib.hid (hrow.set_ (i := r) (v := txV (33 :: P[r])))
          have hgl := (hrow.own rfl).lt g rfl
          have s1 := run_sadd [33] P[r] (by simp; omega)
          rw [show [33] ++ P[r] = 33 :: P[r] from rfl] at s1
          obtain ⟨b, hb⟩ : ∃ b, b = P[r] := ⟨_, rfl⟩
          rw [← hb] at c1 HE HS s1
          obtain ⟨q, hq⟩ : ∃ q : ByteArray, q = ⟨(33 :: b).toArray⟩ := ⟨_, rfl⟩
          unfold txV at c1 HE HS
          rw [← hq] at HE HS s1
          have j1 : (0 : Int) ≤ (r : Int) := by omega
          clear hb hq hcell hrow hsm
          go_wp2_with fail
          go_roundw
          case rel => exact ⟨k + 1, by omega, by go_num, by rw [HE.out]; simpa using HS.out, hbw.setCell (show w.heap.size ≤ g by omega) _⟩
          case measure => simp [intOf]; omega
        · obtain ⟨r, rfl⟩ : ∃ r, j = r + 2 := ⟨j - 2, by omega⟩
          obtain ⟨g, cb, e1, hcb, _, hcell⟩ := hrow.at0 (by rw [svT_len]; omega)
          rw [svT_len, hpl] at e1
          rw [svT_len, hpl] at hcb
          subst e1
          have hPr : r < P.length := by omega
          have hPr1 : r + 1 < P.length := by omega
          have c1 := hcell r (txV P[r]) (by simp [svT, hPr])
          have c2 := hcell (r + 1) (txV P[r + 1]) (by simp [svT, hPr1])
          have hs1 := HSP.out P[r] (List.getElem_mem hPr)
          have hs2 := HSP.out P[r + 1] (List.getElem_mem hPr1)
          have HE := Lib.hid (show svT (pileT (f.take (k + 1))) = (svT P).take r ++ [txV (40 :: (P[r] ++ opT x ++ P[r + 1] ++ [41]))] by
            rw [HPX.out]
            unfold stT
            rw [if_neg (by omega), if_neg (by omega), lastT_at (r := r + 1) hpl, lastT_drop hpl, dropT_two hpl]
            simp [svT, List.map_take])
          obtain ⟨b1, hb1⟩ : ∃ b, b = P[r] := ⟨_, rfl⟩
          obtain ⟨b2, hb2⟩ : ∃ b, b = P[r + 1] := ⟨_, rfl⟩
          rw [← hb1] at c1 HE hs1
          rw [← hb2] at c2 HE hs2
          have ho := opT_len x
          have s1 := run_sadd [40] b1 (by simp; omega)
          have s2 := run_sadd ([40] ++ b1) (opT x) (by simp; omega)
          have s3 := run_sadd (([40] ++ b1) ++ opT x) b2 (by simp; omega)
          have s4 := run_sadd ((([40] ++ b1) ++ opT x) ++ b2) [41] (by simp; omega)
          obtain ⟨q4, hq4⟩ : ∃ q : ByteArray, q = ⟨(((([40] ++ b1) ++ opT x) ++ b2) ++ [41]).toArray⟩ := ⟨_, rfl⟩
          have hE4 : (40 :: (b1 ++ opT x ++ b2 ++ [41])) = (((([40] ++ b1) ++ opT x) ++ b2) ++ [41]) := by simp
          rw [hE4] at HE
          unfold txV at c1 c2 HE
          rw [← hq4] at HE s4
          obtain ⟨q3, hq3⟩ : ∃ q : ByteArray, q = ⟨((([40] ++ b1) ++ opT x) ++ b2).toArray⟩ := ⟨_, rfl⟩
          rw [← hq3] at s3 s4
          obtain ⟨q2, hq2⟩ : ∃ q : ByteArray, q = ⟨(([40] ++ b1) ++ opT x).toArray⟩ := ⟨_, rfl⟩
          rw [← hq2] at s2 s3
          obtain ⟨q1, hq1⟩ : ∃ q : ByteArray, q = ⟨([40] ++ b1).toArray⟩ := ⟨_, rfl⟩
          rw [← hq1] at s1 s2
          clear hq1 hq2 hq3 hq4 hE4 hs1 hs2 ho
          obtain ⟨W1, hW1⟩ : ∃ u : World, u = wr.alloc (Obj.cells #[.string ⟨#[38]⟩, .string ⟨#[124]⟩, .string ⟨#[62]⟩] 9) := ⟨_, rfl⟩
          have bx : Bx W1 wr.heap.size 9 #[.string ⟨#[38]⟩, .string ⟨#[124]⟩, .string ⟨#[62]⟩] := by rw [hW1]; exact Bx.made _ _ _
          have hbW : Below wr.heap.size wr W1 := by rw [hW1]; exact alloc_new _ _
          have hgl := (hrow.own rfl).lt g rfl
          have d1 := (hbW.cell (p := ⟨g, r, none⟩) hgl.2).trans c1
          have d2 := (hbW.cell (p := ⟨g, r + 1, none⟩) hgl.2).trans c2
          have d0 := (hbW.cell (p := ad.add k) (by rw [add_blk]; omega)).trans hc
          have e0 := bx.at_ (k := 0) (v := .string ⟨#[38]⟩) rfl
          have e1 := bx.at_ (k := 1) (v := .string ⟨#[124]⟩) rfl
          have e2 := bx.at_ (k := 2) (v := .string ⟨#[62]⟩) rfl
          have hx0 : decide (0 ≤ x) = false := decide_eq_false (by omega)
          have hx1 : (x == -1) = false := by simpa using (show ¬ x = -1 by omega)
          have HRW := Lib.hid (((hrow.prefix_ (r := r) (by rw [svT_len]; exact hpl) (by omega)).new hbW).drewN 1)
          have hbz := hbW.drew
          have L1 := Lib.hid (show ((svT P).take r).length + 1 ≤ maxLen ∧ (((svT P).take r).length + 1) * 16 ≤ 140737488355328 by rw [List.length_take, svT_len]; unfold maxLen; omega)
          have j1 : (0 : Int) ≤ (r : Int) := by omega
          have j2 : (r : Int) + 2 ≤ (cb : Int) := by omega
          have j3 : (r : Int) ≤ (cb : Int) := by omega
          have j4 : (r : Int) ≤ (r : Int) + 2 := by omega
          have j5 : (r : Int) < (r : Int) + 2 := by omega
          have j6 : (r : Int) + 1 < (r : Int) + 2 := by omega
          have j7 : (0 : Int) ≤ (r : Int) + 1 := by omega
          have w1 : IntKind.i64.wrap (r : Int) = (r : Int) := IntWalk.i64_in _ (by omega)
          have w2 : IntKind.i64.wrap ((r : Int) + 2 - 1) = (r : Int) + 1 := (IntWalk.i64_in _ (by omega)).trans (by omega)
          have hcase : x = -2 ∨ x = -3 ∨ x = -4 := by omega
          have hW1' := hW1.symm
          clear hb1 hb2 h1 h2 h3 hrow hcell hW1 bx
          rcases hcase with rfl | rfl | rfl
          all_goals
            first
            | rw [show opT (-2) = [38] from rfl] at s2
            | rw [show opT (-3) = [124] from rfl] at s2
            | rw [show opT (-4) = [62] from rfl] at s2
            go_wp2_with fail
            go_region
            all_goals
              obtain ⟨wz, hwz⟩ : ∃ u : World, u = W1.drew := ⟨_, rfl⟩
              have hbz9 : Below wr.heap.size wr wz := by rw [hwz]; exact hbz
              have hrz : Row wz w.heap.size wr.heap.size 9 (.slice (some ⟨g, 0, none⟩) r cb) ((svT P).take r) := by rw [hwz]; exact HRW.out
              rw [← hwz]
              have hrow9 := hrz.new (alloc_new wz (Obj.cells #[.string q4] 9))
              have hmade := Rd.made wz #[.string q4] 9
              have hba : Below w.heap.size w (wz.alloc (Obj.cells #[.string q4] 9)) := (hbw.trans (hbz9.mono hsz)).alloc (B := w.heap.size) (Nat.le_trans hsz hbz9.size) _
              clear hwz
              go_wp2_with (at_builtin; refine wpList_app rfl (.tmp 45) (.tmp 47) 85 rfl 9 i0 _ 16 Try.underlying85 hi hz0 hz1 hz2 rfl rfl rfl hrow9 rfl hmade (by simp [Value.oneCell']) L1.out.1 L1.out.2 (by simp; have := hbz9.size; omega) ?_; intro v1 w9 hrow1 ho1)
              go_roundw
              case rel => exact ⟨k + 1, by omega, by go_num, by rw [HE.out]; exact hrow1, hba.trans (ho1.below (Nat.le_refl _) (by simp; have := hbz9.size; omega))⟩
              case measure => simp [intOf]; omega
      · have e : k = n := by omega
        subst e
        rw [List.take_of_length_le (by rw [hl.out]; exact Nat.le_refl _)] at hrow hpl
        obtain ⟨b, hb⟩ : ∃ b, pileT f = [b] := by
          rw [List.take_of_length_le (by rw [hl.out]; exact Nat.le_refl _), HC1.out] at hj
          injection hj with hj
          exact List.length_eq_one_iff.1 (hpl.trans hj.symm)
        obtain ⟨g, cap, e1, _, _, hcell⟩ := hrow.at0 (by rw [svT_len, hb]; simp)
        have c1 := hcell 0 (txV b) (by simp [svT, hb])
        rw [svT_len, hb] at e1
        subst e1
        have HB := Lib.hid (show txtF f = b by rw [HV.out, hb]; rfl)
        unfold txV at c1
        clear hb hcell hrow hpl hj
        go_wp2_with fail
        go_ret
        exact ⟨by rw [HB.out]; rfl, hbw⟩
end Go.Proofs.Ythhdklmdldikfab
