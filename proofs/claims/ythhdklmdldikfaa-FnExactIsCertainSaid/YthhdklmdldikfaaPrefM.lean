/- Contracts of the models Preferred, IsCredible, IsCertain. Condition: the slices have at most 2^40 elements. -/
import Derived.Test.YthhdklmdldikfaaViewM
import Derived.BigQuiet
namespace Go.Proofs.Ythhdklmdldikfaa
open Go.ChangeShapes Go.WideShapes Go.ChangeAt Go.RowKit
set_option maxRecDepth 100000
/-- Whether no other one of the first n lists holds list k. -/
def mostB (L : List (List Int)) (k n : Nat) : Bool := (List.range n).all fun j => decide (j = k) || !(subB (L.getD k []) (L.getD j []))
theorem mostB_succ (L : List (List Int)) (k n : Nat) : mostB L k (n + 1) = (mostB L k n && (decide (n = k) || !(subB (L.getD k []) (L.getD n [])))) := by
  unfold mostB
  rw [List.range_succ, List.all_append]; simp
theorem most_pref (N : Int) (X : List (List Int)) {k : Nat} (hk : k < (allC N X).length) : mostB (allC N X) k (allC N X).length = prefP N X ((allC N X)[k]) := by
  have hs := allC_srt N X
  unfold Srt at hs
  rw [List.pairwise_iff_getElem] at hs
  have inj : ∀ j (h : j < (allC N X).length), (allC N X)[j] = (allC N X)[k] → j = k := fun j h e => by
    rcases Nat.lt_trichotomy j k with h1 | h1 | h1
    · have := hs j k h hk h1; rw [e] at this; exact absurd this (bfr_irr _)
    · exact h1
    · have := hs k j hk h h1; rw [e] at this; exact absurd this (bfr_irr _)
  have gd : ∀ j (h : j < (allC N X).length), (allC N X).getD j [] = (allC N X)[j] := fun j h => by rw [List.getD_eq_getElem?_getD, List.getElem?_eq_getElem h]; rfl
  unfold mostB prefP
  rw [Bool.eq_iff_iff, List.all_eq_true, List.all_eq_true]
  constructor
  · intro h t ht
    obtain ⟨j, hj, rfl⟩ := List.getElem_of_mem ht
    have h1 := h j (List.mem_range.2 hj)
    rw [gd j hj, gd k hk, Bool.or_eq_true] at h1
    rw [Bool.or_eq_true]
    rcases h1 with h1 | h1
    · left
      have : j = k := of_decide_eq_true h1
      subst this
      exact decide_eq_true rfl
    · exact .inr h1
  · intro h j hj
    rw [List.mem_range] at hj
    have h1 := h _ (List.getElem_mem hj)
    rw [gd j hj, gd k hk, Bool.or_eq_true]
    rw [Bool.or_eq_true] at h1
    rcases h1 with h1 | h1
    · exact .inl (decide_eq_true (inj j hj (of_decide_eq_true h1)))
    · exact .inr h1
theorem l7Part_Q {w : World} {A A' : Option Addr} {n c n' c' : Nat} {S T : List Int} {b : Bool} (hl : Hid (S.length = n)) (hn : n ≤ 1099511627776) (hl' : Hid (T.length = n')) (hn' : n' ≤ 1099511627776) (hr : Rd w w.heap.size A (ivs S)) (hr' : Rd w w.heap.size A' (ivs T)) (hb : subB S T = b) (m : Nat) :
    Calls Try.prog 96 #[.slice A n c, .slice A' n' c'] (w.drewN m) (fun e w' => e = .returned (.bool b) ∧ ∃ m', w' = (w.drewN m).drewN m') :=
  (l7Part_any (w := w.drewN m) hl hn hl' hn' (hr.drewN m) (hr'.drewN m)).mono fun _ _ ⟨he, hw⟩ => ⟨by rw [he, hb], 0, hw.symm⟩
set_option maxHeartbeats 4000000 in
theorem specPreferred_any {w : World} {A : Option Addr} {n c : Nat} {N : Int} {X : List (List Int)} (hl : Hid (X.length = n)) (hn : n ≤ 1099511627776) (hr : RdSS w w.heap.size A X) :
    Calls Try.prog 47 #[.agg #[.int .i64 N, .slice A n c]] w (FreshRd (prefL N X) w) := by
  obtain ⟨je, hje, hy0, hy1, hy2⟩ := info_parts IntSS_info
  obtain ⟨W1, hW, bx1, hb1⟩ := one_graph w #[Value.int IntKind.i64 N, Value.slice A n c] 26
  have hs1 : W1.heap.size = w.heap.size + 1 := by rw [hW]; simp
  have hW' := hW.symm
  have hb2 := alloc_new W1 (Obj.cells #[] 31)
  have sets0 := SetsR.made W1 W1.heap.size (Nat.le_refl _)
  have bx2 := bx1.new hb2
  obtain ⟨W2, hW2⟩ : ∃ u, u = W1.alloc (Obj.cells #[] 31) := ⟨_, rfl⟩
  have hs2 : W2.heap.size = W1.heap.size + 1 := by rw [hW2]; simp
  rw [← hW2] at hb2 sets0 bx2
  rw [← hs2, hs1] at sets0
  have hW2' := hW2.symm
  have hb20 := hb1.trans (hb2.mono hb1.size)
  have HR2 := Lib.hid ((hr.below hb20).more hb20.size)
  obtain ⟨C0, C1⟩ := bx2.two
  have HSB := Lib.hid (show prefL N X = (allC N X).filter (prefP N X) from rfl)
  have HMO := Lib.hid (fun k (h : k < (allC N X).length) => most_pref N X h)
  have HAL := Lib.hid (allC_len N X)
  have HRW := Lib.hid (fun s (h : s ∈ allC N X) => allC_row s h)
  clear hW hW2 hr bx1
  go_enter Try.func47, Try.ntmps47
  go_wp2_with fail
  refine (specAllComplete_any (N := N) (X := X) (c := c) hl hn HR2.out).mono ?_
  rintro e w3 ⟨v3, rfl, hrv, hb3⟩
  obtain ⟨A3, c3, rfl, hrd3, _, _⟩ := hrv.rd (n := (allC N X).length) rfl
  have hsz3 := hb3.size
  obtain ⟨lo, hlo⟩ : ∃ lo, lo = w3.heap.size := ⟨_, rfl⟩
  have hlo3 : lo ≤ w3.heap.size := by omega
  have hlo4 : w3.heap.size ≤ lo := by omega
  have sets3 : SetsZ w3 lo (.slice (some ⟨w.heap.size + 1, 0, none⟩) 0 0) [] := .inl ⟨_, rfl, rfl⟩
  clear hlo
  have HR3 := Lib.hid ((HR2.out.below hb3).more hb3.size)
  have bx3 := bx2.new hb3
  have hb30 : Below w.heap.size w w3 := hb20.trans (hb3.mono hb20.size)
  obtain ⟨L, hL⟩ : ∃ L, L = allC N X := ⟨_, rfl⟩
  rw [← hL] at hrd3 HSB HAL HRW HMO ⊢
  obtain ⟨q, hq⟩ : ∃ q, q = L.length := ⟨_, rfl⟩
  rw [← hq] at HAL ⊢
  have hq1 := HAL.out
  have HQ := Lib.hid hq
  clear hL hq hrv C0 C1 sets0 bx2 hb2 hb3 hW' hW2'
  go_wp2_with fail
  go_loopw [3, 5] (fun s i wr => ∃ k : Nat, k ≤ q ∧ i = .int .i64 k ∧ SetsZ wr lo s ((L.take k).filter (prefP N X)) ∧ Below w3.heap.size w3 wr) (fun _ i _ => q - (intOf i).toNat)
  case atStart => exact ⟨0, Nat.zero_le _, rfl, sets3, Below.refl _ _⟩
  case round =>
    obtain ⟨k, hk, rfl, hsets, hbw⟩ := hrel
    have hsz := hbw.size
    obtain ⟨wo, hwo⟩ : ∃ u : World, u = wr := ⟨_, rfl⟩
    subst hwo
    by_cases hlt : k < q
    · have hkz : k < L.length := by rw [← HQ.out]; exact hlt
      have hrw := (hrd3.below hbw).more hsz
      obtain ⟨ad, Aj, cj, rfl, hab, hcx, hcl, hcm, hrdx⟩ := hrw.at_ hkz
      obtain ⟨ad2, Aj2, cj2, e2, hab2, hcx2, _, _, hrdx2⟩ := hrd3.at_ hkz
      injection e2 with e2
      subst e2
      have e3 : Aj2 = Aj := by
        have h9 := (World.cell?_of_block (hbw.block _ (by rw [add_blk]; exact hab2))).trans hcx2
        rw [hcx] at h9
        injection h9 with h9
        injection h9 with h9 _ _
        exact h9.symm
      rw [e3] at hrdx2
      have HRX5 := Lib.hid (show Rd wo lo Aj (ivs L[k]) from (hrdx2.below hbw).more hlo4)
      have hxl := HRW.out L[k] (List.getElem_mem hkz)
      have HT := Lib.hid (List.take_succ_eq_append_getElem hkz)
      have HM9 := Lib.hid ((congrArg (mostB L k) HQ.out).trans (HMO.out k hkz))
      have HGD := Lib.hid (show L.getD k [] = L[k] by rw [List.getD_eq_getElem?_getD, List.getElem?_eq_getElem hkz]; rfl)
      obtain ⟨x, hx⟩ : ∃ x, x = L[k] := ⟨_, rfl⟩
      rw [← hx] at hcx hcl hrdx hxl HT HRX5 HM9 HGD
      obtain ⟨Y, hY⟩ : ∃ Y, Y = (L.take k).filter (prefP N X) := ⟨_, rfl⟩
      have hYl : Y.length ≤ k := by rw [hY]; exact Nat.le_trans (List.length_filter_le _ _) (by simp; omega)
      rw [← hY] at hsets
      have k0 : (0 : Int) ≤ (k : Int) := by omega
      have k1 : (k : Int) < (q : Int) := by omega
      obtain ⟨bo, hbo⟩ : ∃ b, b = prefP N X x := ⟨_, rfl⟩
      have HFI := Lib.hid (show (L.take (k + 1)).filter (prefP N X) = Y ++ if bo then [x] else [] by rw [HT.out, List.filter_append, ← hY, hbo]; simp [List.filter_cons])
      have HBO := Lib.hid (HM9.out.trans hbo.symm)
      have HCL := Lib.hid hcl
      obtain ⟨xl, hxl2⟩ : ∃ xl, xl = x.length := ⟨_, rfl⟩
      rw [← hxl2] at hcx hxl
      have HXL := Lib.hid hxl2.symm
      clear hx hY hbo hcl hxl2 hcx2 hrdx2 e3
      go_wp2_with fail
      go_loopw [6, 7] (fun a i wr => ∃ j p : Nat, j ≤ q ∧ i = .int .i64 j ∧ a = .bool (mostB L k j) ∧ wr = wo.drewN p) (fun _ i _ => q - (intOf i).toNat)
      case atStart => exact ⟨0, 0, Nat.zero_le _, rfl, rfl, rfl⟩
      case round =>
        obtain ⟨j, p, hj, rfl, rfl, rfl⟩ := hrel
        by_cases hjm : j < q
        · have hjz : j < L.length := by rw [← HQ.out]; exact hjm
          obtain ⟨ad', Ay, cy, e', hab3, hcy, _, _, hry⟩ := hrw.at_ hjz
          injection e' with e'
          subst e'
          have hyl2 := HRW.out L[j] (List.getElem_mem hjz)
          have HE := Lib.hid (show mostB L k (j + 1) = (mostB L k j && (decide (j = k) || !(subB x L[j]))) by
            rw [mostB_succ, HGD.out, show L.getD j [] = L[j] by rw [List.getD_eq_getElem?_getD, List.getElem?_eq_getElem hjz]; rfl])
          obtain ⟨y, hy⟩ : ∃ y, y = L[j] := ⟨_, rfl⟩
          rw [← hy] at hcy hry hyl2 HE
          have j0 : (0 : Int) ≤ (j : Int) := by omega
          have j1 : (j : Int) < (q : Int) := by omega
          obtain ⟨b, hb⟩ : ∃ b, b = mostB L k j := ⟨_, rfl⟩
          rw [← hb] at HE ⊢
          have HJ := Lib.hid (fun v (h : subB x y = v) => l7Part_Q (c := cj) (c' := cy) HXL.out (by omega) (Lib.hid rfl) (by omega) hrdx hry h)
          clear hb hy hry
          cases b with
          | false =>
            go_wp2_with fail
            go_quiet (fail)
            go_wp2_with fail
            go_roundw
            case rel => exact ⟨j + 1, _, by omega, by go_num, by rw [HE.out]; rfl, rfl⟩
            case measure => simp [intOf]; omega
          | true =>
            by_cases hjk : j = k
            · have HE2 := Lib.hid (show mostB L k (j + 1) = true by rw [HE.out, decide_eq_true hjk]; rfl)
              have hjk' : ((j : Int) == (k : Int)) = true := by rw [hjk]; simp
              clear hjk
              go_wp2_with fail
              go_quiet (fail)
              go_wp2_with fail
              go_roundw
              case rel => exact ⟨j + 1, _, by omega, by go_num, by rw [HE2.out], rfl⟩
              case measure => simp [intOf]; omega
            · obtain ⟨v, hv⟩ : ∃ v, v = subB x y := ⟨_, rfl⟩
              have J1 := Lib.hid (HJ.out v hv.symm)
              have HE2 := Lib.hid (show mostB L k (j + 1) = !v by rw [HE.out, decide_eq_false hjk, hv]; rfl)
              have hjk' : ((j : Int) == (k : Int)) = false := beq_eq_false_iff_ne.2 (by omega)
              clear hv hjk
              go_wp2_with fail
              go_quiet ((go_at_call 96; with_reducible exact quiet_addQ J1.out))
              go_wp2_with fail
              go_roundw
              case rel => exact ⟨j + 1, _, by omega, by go_num, by rw [HE2.out], rfl⟩
              case measure => simp [intOf]; omega
        · have e : j = q := by omega
          rw [e, HBO.out]
          clear e
          have hq0 : ¬ (q : Int) < (q : Int) := by omega
          have hsets5 := hsets.new (w' := wo.drewN p) (below_drewN (Below.refl _ _) p) (by omega)
          cases bo with
          | false =>
            go_wp2_with fail
            go_roundw
            case rel => exact ⟨k + 1, by omega, by go_num, by rw [HFI.out]; simpa using hsets5, below_drewN hbw p⟩
            case measure => simp [intOf]; omega
          | true =>
            have hm6 := alloc_new (wo.drewN p) (Obj.cells #[Value.slice Aj xl cj] 31)
            have hg6 := Bx.made (wo.drewN p) 31 #[Value.slice Aj xl cj]
            have hz9 : lo ≤ (wo.drewN p).heap.size := (show lo ≤ wo.heap.size by omega)
            have hsets6 := hsets5.new hm6 hz9
            have hrx6 := (HRX5.out.drewN p).below (hm6.mono hz9)
            have hcx9 : (wo.drewN p).cell? (ad.add k) = some (.slice Aj xl cj) := hcx
            go_wp2_with (at_builtin; refine wpList_appSets (y := x) rfl (.tmp 42) (.tmp 47) rfl hsets6 rfl rfl hg6 HXL.out (by have := HCL.out; rw [HXL.out] at this; exact this) hcm hrx6 (by omega) (by simp; omega) ?_; intro v7 w7 hsets7 hb7 hz7)
            go_roundw
            case rel => exact ⟨k + 1, by omega, by go_num, by rw [HFI.out]; exact hsets7, (below_drewN hbw p).trans ((hm6.mono hsz).trans (hb7.mono hlo4))⟩
            case measure => simp [intOf]; omega
    · have e : k = q := by omega
      subst e
      have HFE := Lib.hid (show (L.take k).filter (prefP N X) = prefL N X by rw [HSB.out, List.take_of_length_le (by rw [← HQ.out]; exact Nat.le_refl _)])
      rw [HFE.out] at hsets
      go_wp2_with fail
      go_ret
      exact ⟨_, rfl, hsets.rdv (by omega), hb30.trans (hbw.mono hb30.size)⟩
theorem prefL_lenM (N : Int) (X : List (List Int)) : (prefL N X).length ≤ 1024 := Nat.le_trans (List.length_filter_le _ _) (allC_len N X)
theorem prefL_rowM {N : Int} {X : List (List Int)} : ∀ s ∈ prefL N X, s.length ≤ 10 := fun s hs => allC_row s (List.mem_filter.1 hs).1
set_option maxHeartbeats 2000000 in
theorem specIsCredible_any {w : World} {A : Option Addr} {n c : Nat} {N a : Int} {X : List (List Int)} (hl : Hid (X.length = n)) (hn : n ≤ 1099511627776) (hr : RdSS w w.heap.size A X) :
    Calls Try.prog 49 #[.agg #[.int .i64 N, .slice A n c], .int .i64 a] w (Tells (credB N X a) w) := by
  obtain ⟨W1, hW, bx1, hb1⟩ := one_graph w #[Value.int IntKind.i64 N, Value.slice A n c] 26
  have HR := Lib.hid ((hr.below hb1).more hb1.size)
  have hW' := hW.symm
  obtain ⟨C0, C1⟩ := bx1.two
  clear hr hW
  go_enter Try.func49, Try.ntmps49
  go_wp2_with fail
  refine (specPreferred_any hl hn HR.out).mono ?_
  rintro e w2 ⟨v, rfl, hrv, hb2⟩
  obtain ⟨A2, c2, rfl, hrd2, _, _⟩ := hrv.rd (n := (prefL N X).length) rfl
  have hb20 := hb1.trans (hb2.mono hb1.size)
  have HAL := Lib.hid (prefL_lenM N X)
  have HRW := Lib.hid (fun s (h : s ∈ prefL N X) => prefL_rowM s h)
  have HCB := Lib.hid (show credB N X a = (prefL N X).any (fun s => s.contains a) from rfl)
  obtain ⟨L, hL⟩ : ∃ L, L = prefL N X := ⟨_, rfl⟩
  rw [← hL] at hrd2 HAL HRW HCB ⊢
  obtain ⟨q, hq⟩ : ∃ q, q = L.length := ⟨_, rfl⟩
  rw [← hq] at HAL ⊢
  have hq1 := HAL.out
  have HQ := Lib.hid hq
  clear hL hq hrv C0 C1 hW'
  go_wp2_with fail
  go_loopw [6] (fun i wr => ∃ k : Nat, k ≤ q ∧ i = .int .i64 k ∧ wr = w2 ∧ Hid ((L.take k).any (fun s => s.contains a) = false)) (fun i _ => q - (intOf i).toNat)
  case atStart => exact ⟨0, Nat.zero_le _, rfl, rfl, Lib.hid rfl⟩
  case round =>
    obtain ⟨k, hk, rfl, rfl, hno⟩ := hrel
    by_cases hlt : k < q
    · have hkz : k < L.length := by rw [← HQ.out]; exact hlt
      obtain ⟨ad, Aj, cj, rfl, hab, hcx, _, _, hrdx⟩ := hrd2.at_ hkz
      have hxl := HRW.out L[k] (List.getElem_mem hkz)
      have HT := Lib.hid (List.take_succ_eq_append_getElem hkz)
      have HM := Lib.hid (List.getElem_mem hkz)
      obtain ⟨x, hx⟩ : ∃ x, x = L[k] := ⟨_, rfl⟩
      rw [← hx] at hcx hrdx hxl HT HM
      have k0 : (0 : Int) ≤ (k : Int) := by omega
      clear hx
      by_cases h1 : x.contains a = true
      · have HC := Lib.hid h1
        have HN := Lib.hid (show credB N X a = true by rw [HCB.out]; exact List.any_eq_true.2 ⟨x, HM.out, h1⟩)
        clear h1
        go_wp2_with fail
        refine (l4Has_any (S := x) (Lib.hid rfl) (by omega) hrdx).mono ?_
        rintro e w3 ⟨he, rfl⟩
        rw [HC.out] at he
        subst he
        go_wp2_with fail
        go_ret
        exact ⟨ret_b HN.out.symm, hb20⟩
      · have HC := Lib.hid (show x.contains a = false by simpa using h1)
        have HN := Lib.hid (show (L.take (k + 1)).any (fun s => s.contains a) = false by
          rw [HT.out, List.any_append, hno.out, List.any_cons, HC.out]; rfl)
        clear h1
        go_wp2_with fail
        refine (l4Has_any (S := x) (Lib.hid rfl) (by omega) hrdx).mono ?_
        rintro e w3 ⟨he, rfl⟩
        rw [HC.out] at he
        subst he
        go_wp2_with fail
        go_roundw
        case rel => exact ⟨k + 1, by omega, by go_num, trivial, HN⟩
        case measure => simp [intOf]; omega
    · have e : k = q := by omega
      subst e
      have HF := Lib.hid (show credB N X a = false by rw [HCB.out]; have := hno.out; rwa [List.take_of_length_le (by rw [← HQ.out]; exact Nat.le_refl _)] at this)
      go_wp2_with fail
      go_ret
      exact ⟨ret_b HF.out.symm, hb20⟩
set_option maxHeartbeats 2000000 in
theorem specIsCertain_any {w : World} {A : Option Addr} {n c : Nat} {N a : Int} {X : List (List Int)} (hl : Hid (X.length = n)) (hn : n ≤ 1099511627776) (hr : RdSS w w.heap.size A X) :
    Calls Try.prog 50 #[.agg #[.int .i64 N, .slice A n c], .int .i64 a] w (Tells (certB N X a) w) := by
  obtain ⟨W1, hW, bx1, hb1⟩ := one_graph w #[Value.int IntKind.i64 N, Value.slice A n c] 26
  have HR := Lib.hid ((hr.below hb1).more hb1.size)
  have hW' := hW.symm
  obtain ⟨C0, C1⟩ := bx1.two
  clear hr hW
  go_enter Try.func50, Try.ntmps50
  go_wp2_with fail
  refine (specPreferred_any hl hn HR.out).mono ?_
  rintro e w2 ⟨v, rfl, hrv, hb2⟩
  obtain ⟨A2, c2, rfl, hrd2, hc2, _⟩ := hrv.rd (n := (prefL N X).length) rfl
  have hb20 := hb1.trans (hb2.mono hb1.size)
  have HO := Lib.hid hrd2
  clear C0 C1 hrv hrd2 hW'
  go_wp2_with fail
  refine (specInAll_any (X := prefL N X) (Lib.hid rfl) (by have := prefL_lenM N X; omega) (Lib.hid (fun x hx => by have := prefL_rowM x hx; omega)) HO.out).mono ?_
  rintro e w3 ⟨v3, rfl, hrow3, hb3⟩
  obtain ⟨A3, c3, rfl, hrd3, _, _⟩ := hrow3.rd (n := (inAllL (prefL N X)).length) (ivs_len _)
  have hb30 := hb20.trans (hb3.mono hb20.size)
  have hl3 : (inAllL (prefL N X)).length ≤ 1099511627776 := by
    have h1 := inAllL_len (prefL N X)
    have h2 := psum_tenM (X := prefL N X) prefL_rowM
    have h3 := prefL_lenM N X
    omega
  have HO3 := Lib.hid hrd3
  clear hrow3 hrd3
  go_wp2_with fail
  refine (l4Has_any (S := inAllL (prefL N X)) (Lib.hid rfl) hl3 HO3.out).mono ?_
  rintro e w4 ⟨rfl, rfl⟩
  go_wp2_with fail
  go_ret
  exact ⟨ret_b (by unfold certB; rw [inAllL_eq]; simp), hb30⟩
end Go.Proofs.Ythhdklmdldikfaa
