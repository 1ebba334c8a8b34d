/- Contracts of the models StableSets, Preferred, IsCredible, IsCertain. Condition: the slices have at most 2^40 elements. -/
import Derived.Test.YthhdklmdldikfaaAllM
import Derived.Test.YthhdklmdldikfaaInAllM
import Derived.Test.YthhdklmdldikfaaFreeM3
import Derived.Test.YthhdklmdldikfaaAppSS
import Derived.StillTailTactics
namespace Go.Proofs.Ythhdklmdldikfaa
open Go.ChangeShapes Go.WideShapes Go.ChangeAt Go.RowKit
set_option maxRecDepth 100000
theorem psum_tenM {X : List (List Int)} (h : ∀ x ∈ X, x.length ≤ 10) : psum X X.length ≤ X.length * 10 := by
  unfold psum
  rw [List.take_of_length_le (Nat.le_refl _)]
  induction X with
  | nil => simp
  | cons x X ih =>
    have h1 := h x (by simp)
    have h2 := ih fun y hy => h y (List.mem_cons_of_mem _ hy)
    simp only [List.map_cons, List.sum_cons, List.length_cons]
    omega
set_option maxHeartbeats 4000000 in
theorem specStableSets_any {w : World} {A : Option Addr} {n c : Nat} {N : Int} {X : List (List Int)} (hl : Hid (X.length = n)) (hn : n ≤ 1099511627776) (hr : RdSS w w.heap.size A X) :
    Calls Try.prog 48 #[.agg #[.int .i64 N, .slice A n c]] w (FreshRd (stabL N X) w) := by
  obtain ⟨je, hje, hy0, hy1, hy2⟩ := info_parts IntSS_info
  obtain ⟨W1, hW, bx1, hb1⟩ := one_graph w #[Value.int IntKind.i64 N, Value.slice A n c] 26
  have hs1 : W1.heap.size = w.heap.size + 1 := by rw [hW]; simp
  have hW' := hW.symm
  have hb2 := alloc_new W1 (Obj.cells #[] 31)
  have sets0 := SetsR.made W1 W1.heap.size (Nat.le_refl _)
  have bx2 := bx1.new hb2
  obtain ⟨W2, hW2⟩ : ∃ u, u = W1.alloc (Obj.cells #[] 31) := ⟨_, rfl⟩
  have hs2 : W2.heap.size = W1.heap.size + 1 := by rw [hW2]; simp
  rw [← hW2] at hb2 sets0 bx2
  rw [← hs2, hs1] at sets0
  have hW2' := hW2.symm
  have hb20 := hb1.trans (hb2.mono hb1.size)
  have HR2 := Lib.hid ((hr.below hb20).more hb20.size)
  obtain ⟨C0, C1⟩ := bx2.two
  have HSB := Lib.hid (show stabL N X = (allC N X).filter (stabB N X) from rfl)
  have HAL := Lib.hid (allC_len N X)
  have HRW := Lib.hid (fun s (h : s ∈ allC N X) => allC_row s h)
  clear hW hW2 hr bx1
  go_enter Try.func48, Try.ntmps48
  go_wp2_with fail
  refine (specAllComplete_any (N := N) (X := X) (c := c) hl hn HR2.out).mono ?_
  rintro e w3 ⟨v3, rfl, hrv, hb3⟩
  obtain ⟨A3, c3, rfl, hrd3, _, _⟩ := hrv.rd (n := (allC N X).length) rfl
  have hsz3 := hb3.size
  obtain ⟨lo, hlo⟩ : ∃ lo, lo = w3.heap.size := ⟨_, rfl⟩
  have hlo3 : lo ≤ w3.heap.size := by omega
  have hlo4 : w3.heap.size ≤ lo := by omega
  have sets3 : SetsZ w3 lo (.slice (some ⟨w.heap.size + 1, 0, none⟩) 0 0) [] := .inl ⟨_, rfl, rfl⟩
  clear hlo
  have HR3 := Lib.hid ((HR2.out.below hb3).more hb3.size)
  have bx3 := bx2.new hb3
  have hb30 : Below w.heap.size w w3 := hb20.trans (hb3.mono hb20.size)
  obtain ⟨L, hL⟩ : ∃ L, L = allC N X := ⟨_, rfl⟩
  rw [← hL] at hrd3 HSB HAL HRW ⊢
  obtain ⟨q, hq⟩ : ∃ q, q = L.length := ⟨_, rfl⟩
  rw [← hq] at HAL ⊢
  have hq1 := HAL.out
  have HQ := Lib.hid hq
  clear hL hq hrv C0 C1 sets0 bx2 hb2 hb3 hW' hW2'
  go_wp2_with fail
  go_loopw [3, 5] (fun s i wr => ∃ k : Nat, k ≤ q ∧ i = .int .i64 k ∧ SetsZ wr lo s ((L.take k).filter (stabB N X)) ∧ Below w3.heap.size w3 wr) (fun _ i _ => q - (intOf i).toNat)
  case atStart => exact ⟨0, Nat.zero_le _, rfl, sets3, Below.refl _ _⟩
  case round =>
    obtain ⟨k, hk, rfl, hsets, hbw⟩ := hrel
    have hsz := hbw.size
    obtain ⟨C0, C1⟩ := (bx3.new hbw).two
    by_cases hlt : k < q
    · have hkz : k < L.length := by rw [← HQ.out]; exact hlt
      obtain ⟨ad, Aj, cj, rfl, hab, hcx, hcl, hcm, hrdx⟩ := (hrd3.below hbw).at_ hkz
      have hxl := HRW.out L[k] (List.getElem_mem hkz)
      have HT := Lib.hid (List.take_succ_eq_append_getElem hkz)
      obtain ⟨x, hx⟩ : ∃ x, x = L[k] := ⟨_, rfl⟩
      rw [← hx] at hcx hcl hrdx hxl HT
      obtain ⟨Y, hY⟩ : ∃ Y, Y = (L.take k).filter (stabB N X) := ⟨_, rfl⟩
      have hYl : Y.length ≤ k := by rw [hY]; exact Nat.le_trans (List.length_filter_le _ _) (by simp; omega)
      rw [← hY] at hsets
      have k0 : (0 : Int) ≤ (k : Int) := by omega
      have k1 : (k : Int) < (q : Int) := by omega
      obtain ⟨bo, hbo⟩ : ∃ b, b = stabB N X x := ⟨_, rfl⟩
      have HFI := Lib.hid (show (L.take (k + 1)).filter (stabB N X) = Y ++ if bo then [x] else [] by rw [HT.out, List.filter_append, ← hY, hbo]; simp [List.filter_cons])
      have HBO := Lib.hid hbo
      have HCL := Lib.hid hcl
      obtain ⟨xl, hxl2⟩ : ∃ xl, xl = x.length := ⟨_, rfl⟩
      rw [← hxl2] at hcx hxl
      have HXL := Lib.hid hxl2.symm
      have hbwd := hbw.drew
      have HRG := Lib.hid ((HR3.out.below hbwd).more hbwd.size)
      have HRX := Lib.hid (show Rd wr.drew wr.drew.heap.size Aj (ivs x) from hrdx.more (show w3.heap.size ≤ wr.heap.size from hsz))
      have hsd := hsets.new ((Below.refl wr.heap.size wr).drew) (by omega)
      have hszd : lo ≤ wr.drew.heap.size := (show lo ≤ wr.heap.size by omega)
      have HRX5 := Lib.hid (show Rd wr.drew lo Aj (ivs x) from hrdx.more hlo4)
      have hbx : wr.drew.cell? (ad.add k) = some (.slice Aj xl cj) := hcx
      clear hx hY hbo hrdx hcl hxl2
      go_wp2_with fail
      go_still_tail 5, (by kernel_rfl)
      change wpList _ _ _ _ _ wr.drew
      generalize wr.drew = wd at HRG HRX HRX5 hsd hbwd hbx hszd ⊢
      go_wp2_with fail
      refine (specIsStable_any (N := N) (X := X) (S := x) hl hn HRG.out HXL.out (by omega) HRX.out).mono ?_
      rintro e w5 ⟨he, hb5⟩
      rw [← HBO.out] at he
      subst he
      have hsets5 := hsd.new hb5 hszd
      have hz5 := hb5.size
      have hbw5 := hbwd.trans (hb5.mono hbwd.size)
      have hsz5 := hbw5.size
      have hcx5 := cell_below hbx (hb5.mono hbwd.size) (by rw [add_blk]; exact hab)
      clear hsets hcx hbx C0 C1 hsd
      cases bo with
      | false =>
        go_wp2_with fail
        go_roundw
        case rel => exact ⟨k + 1, by omega, by go_num, by rw [HFI.out]; simpa using hsets5, hbw5⟩
        case measure => simp [intOf]; omega
      | true =>
        have hm6 := alloc_new w5 (Obj.cells #[Value.slice Aj xl cj] 31)
        have hg6 := Bx.made w5 31 #[Value.slice Aj xl cj]
        have hsets6 := hsets5.new hm6 (by omega)
        have hrx6 := (HRX5.out).below (hb5.mono hszd |>.trans (hm6.mono (by omega)))
        go_wp2_with (at_builtin; refine wpList_appSets (y := x) rfl (.tmp 21) (.tmp 26) rfl hsets6 rfl rfl hg6 HXL.out (by have := HCL.out; rw [HXL.out] at this; exact this) hcm hrx6 (by omega) (by simp; omega) ?_; intro v7 w7 hsets7 hb7 hz7)
        go_roundw
        case rel => exact ⟨k + 1, by omega, by go_num, by rw [HFI.out]; exact hsets7, hbw5.trans ((hm6.mono hsz5).trans (hb7.mono hlo4))⟩
        case measure => simp [intOf]; omega
    · have e : k = q := by omega
      subst e
      have HFE := Lib.hid (show (L.take k).filter (stabB N X) = stabL N X by rw [HSB.out, List.take_of_length_le (by rw [← HQ.out]; exact Nat.le_refl _)])
      rw [HFE.out] at hsets
      go_wp2_with fail
      go_ret
      exact ⟨_, rfl, hsets.rdv (by omega), hb30.trans (hbw.mono hb30.size)⟩
end Go.Proofs.Ythhdklmdldikfaa
