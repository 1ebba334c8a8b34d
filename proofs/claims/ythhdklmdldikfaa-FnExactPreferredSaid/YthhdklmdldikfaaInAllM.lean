/- Contract of the model of InAll. Condition: the slices have at most 2^40 elements. -/
import Derived.Test.YthhdklmdldikfaaInAllD
import Derived.Test.YthhdklmdldikfaaWhoM3
import Derived.Test.YthhdklmdldikfaaViewMath
import Derived.BigQuiet
namespace Go.Proofs.Ythhdklmdldikfaa
open Go.ChangeShapes Go.WideShapes Go.ChangeAt Go.RowKit
set_option maxRecDepth 100000
theorem inAllL_eq (X : List (List Int)) : inAllL X = inAll X := by cases X <;> rfl
theorem inAllL_len (X : List (List Int)) : (inAllL X).length ≤ psum X X.length := by
  cases X with
  | nil => simp [inAllL]
  | cons x r => exact Nat.le_trans (List.length_filter_le _ _) (psum_mem (x :: r) x (by simp))
theorem l4Has_Q {w : World} {A : Option Addr} {n c : Nat} {a : Int} {S : List Int} {b : Bool} (hl : Hid (S.length = n)) (hn : n ≤ 1099511627776) (hr : Rd w w.heap.size A (ivs S)) (hb : S.contains a = b) (m : Nat) :
    Calls Try.prog 98 #[.slice A n c, .int .i64 a] (w.drewN m) (fun e w' => e = .returned (.bool b) ∧ ∃ m', w' = (w.drewN m).drewN m') :=
  (l4Has_any (w := w.drewN m) hl hn (hr.drewN m)).mono fun _ _ ⟨he, hw⟩ => ⟨by rw [he, hb], 0, hw.symm⟩
set_option maxHeartbeats 4000000 in
theorem specInAll_any {w : World} {A : Option Addr} {n c : Nat} {X : List (List Int)} (hl : Hid (X.length = n)) (hn : n ≤ 1099511627776) (hs : Hid (∀ x ∈ X, x.length ≤ 1099511627776)) (hr : RdSS w w.heap.size A X) :
    Calls Try.prog 52 #[.slice A n c] w (Fresh 3 (ivs (inAllL X)) w) := by
  obtain ⟨i0, hi, hz0, hz1, hz2⟩ := info_parts IntS_info
  have hrow0 := Row.made (w := w) w.heap.size #[] 0 3 (Nat.le_refl _) rfl (Nat.zero_le _)
  have hb0 : Below w.heap.size w (w.alloc (Obj.cells #[] 3)) := (Below.refl _ _).alloc (Nat.le_refl _) _
  rcases X with _ | ⟨x, r⟩
  · obtain rfl : n = 0 := hl.out.symm
    go_enter Try.func52, Try.ntmps52
    go_wp2_with fail
    go_loopw [3, 4] (fun b i wr => i = .int .i64 (0 : Nat) ∧ Row wr w.heap.size wr.heap.size 3 b (ivs []) ∧ Below w.heap.size w wr) (fun _ i _ => (intOf i).toNat)
    case atStart => exact ⟨rfl, hrow0.wide (Nat.le_refl _) (by simp), hb0⟩
    case round =>
      obtain ⟨rfl, hrow, hbw⟩ := hrel
      go_wp2_with fail
      go_ret
      exact ⟨_, rfl, hrow, hbw⟩
  · obtain ⟨m, rfl⟩ : ∃ m, n = m + 1 := ⟨r.length, hl.out.symm⟩
    have hlr : r.length = m := by have := hl.out; simp at this; exact this
    obtain ⟨ad, Aj, cj, rfl, hab, hc0, _, _, hrd⟩ := hr.at_ (k := 0) (by simp)
    simp only [List.getElem_cons_zero] at hc0 hrd
    have hxl := hs.out x (by simp)
    obtain ⟨q, hq⟩ : ∃ q, q = x.length := ⟨_, rfl⟩
    rw [← hq] at hc0 hxl
    obtain ⟨N, hN⟩ : ∃ N, N = m + 1 := ⟨_, rfl⟩
    have hN0 : (0 : Int) < (N : Int) := by omega
    rw [← hN] at hn ⊢
    have e0 : ad.add 0 = ad := rfl
    rw [e0] at hc0
    clear e0
    go_enter Try.func52, Try.ntmps52
    go_wp2_with fail
    go_loopw [3, 4] (fun b i wr => ∃ k : Nat, k ≤ q ∧ i = .int .i64 k ∧ Row wr w.heap.size wr.heap.size 3 b (ivs ((x.take k).filter (eachB r))) ∧ Below w.heap.size w wr) (fun _ i _ => q - (intOf i).toNat)
    case atStart => exact ⟨0, Nat.zero_le _, rfl, hrow0.wide (Nat.le_refl _) (by simp), hb0⟩
    case round =>
      obtain ⟨k, hk, rfl, hrow, hbw⟩ := hrel
      have hsz := hbw.size
      obtain ⟨wo, hwo⟩ : ∃ u : World, u = wr := ⟨_, rfl⟩
      subst hwo
      have hcw : wo.cell? ad = some (.slice Aj q cj) := (World.cell?_of_block (hbw.block _ hab)).trans hc0
      clear hrow0 hb0
      by_cases hlt : k < q
      · have hkz : k < x.length := by rw [← hq]; exact hlt
        obtain ⟨ax, rfl, hax, hcx'⟩ := ivs_at (hrd.below hbw) hkz
        have hrw := (hr.below hbw).more hsz
        have HT := Lib.hid (List.take_succ_eq_append_getElem hkz)
        obtain ⟨z, hz⟩ : ∃ z, z = x[k] := ⟨_, rfl⟩
        rw [← hz] at hcx' HT
        obtain ⟨ys, hys⟩ : ∃ ys, ys = (x.take k).filter (eachB r) := ⟨_, rfl⟩
        rw [← hys] at hrow
        have hyl : ys.length ≤ k := by rw [hys]; exact Nat.le_trans (List.length_filter_le _ _) (by rw [List.length_take]; omega)
        have HYS := Lib.hid hys
        have k0 : (0 : Int) ≤ (k : Int) := by omega
        clear hz hys
        go_wp2_with fail
        go_loopw [5, 6] (fun a i wr => ∃ j p : Nat, j ≤ m ∧ i = .int .i64 (j + 1 : Nat) ∧ a = .bool (eachB (r.take j) z) ∧ wr = wo.drewN p) (fun _ i _ => N - (intOf i).toNat)
        case atStart => exact ⟨0, 0, Nat.zero_le _, rfl, rfl, rfl⟩
        case round =>
          obtain ⟨j, p, hj, rfl, rfl, rfl⟩ := hrel
          by_cases hjm : j < m
          · have hjr : j < r.length := by omega
            obtain ⟨ad', Ay, cy, e', hab2, hcy, hcyl, _, hry⟩ := hrw.at_ (k := j + 1) (by simp; omega)
            injection e' with e'
            subst e'
            simp only [List.getElem_cons_succ] at hcy hcyl hry
            have hyl2 := hs.out r[j] (List.mem_cons_of_mem _ (List.getElem_mem hjr))
            have HE := Lib.hid (show eachB (r.take (j + 1)) z = (eachB (r.take j) z && r[j].contains z) by
              unfold eachB
              rw [List.take_succ_eq_append_getElem hjr, List.all_append]; simp)
            obtain ⟨y, hy⟩ : ∃ y, y = r[j] := ⟨_, rfl⟩
            rw [← hy] at hcy hry hyl2 HE
            obtain ⟨K, hK⟩ : ∃ K, K = j + 1 := ⟨_, rfl⟩
            rw [← hK] at hcy HE ⊢
            have K0 : (0 : Int) ≤ (K : Int) := by omega
            have K1 : (K : Int) < (N : Int) := by omega
            have HK := Lib.hid hK
            obtain ⟨b, hb⟩ : ∃ b, b = eachB (r.take j) z := ⟨_, rfl⟩
            rw [← hb] at HE ⊢
            have HJ := Lib.hid (fun v (h : y.contains z = v) => l4Has_Q (c := cy) (Lib.hid rfl) hyl2 hry h)
            clear hb hy hK hry hcyl
            cases b with
            | false =>
              go_wp2_with fail
              go_quiet (fail)
              go_wp2_with fail
              go_roundw
              case rel => exact ⟨K, _, by have := HK.out; omega, by go_num, by rw [HE.out]; rfl, rfl⟩
              case measure => simp [intOf]; omega
            | true =>
              obtain ⟨v, hv⟩ : ∃ v, v = y.contains z := ⟨_, rfl⟩
              have J1 := Lib.hid (HJ.out v hv.symm)
              rw [← hv, Bool.true_and] at HE
              clear hv
              go_wp2_with fail
              go_quiet ((go_at_call 98; with_reducible exact quiet_addQ J1.out))
              go_wp2_with fail
              go_roundw
              case rel => exact ⟨K, _, by have := HK.out; omega, by go_num, by rw [HE.out], rfl⟩
              case measure => simp [intOf]; omega
          · have e : j = m := by omega
            subst e
            rw [show r.take j = r by rw [← hlr]; exact List.take_length]
            have hN2 : ((j + 1 : Nat) : Int) = (N : Int) := by omega
            rw [hN2]
            clear hN2
            cases hb : eachB r z with
            | true =>
              have HF := Lib.hid (show (x.take (k + 1)).filter (eachB r) = ys ++ [z] by rw [HT.out, List.filter_append, ← HYS.out, List.filter_cons, hb]; rfl)
              have L1 := Lib.hid (show (ivs ys).length + 1 ≤ maxLen ∧ ((ivs ys).length + 1) * 8 ≤ 140737488355328 by rw [ivs_len]; unfold maxLen; omega)
              have hbl := alloc_new (wo.drewN p) (Obj.cells #[Value.int .i64 z] 3)
              have hrow2 := (hrow.drewN p).new hbl
              have hmade := Rd.made (wo.drewN p) #[Value.int .i64 z] 3
              clear hb
              go_wp2_with (at_builtin; refine wpList_app rfl (.tmp 42) (.tmp 49) 31 rfl 3 i0 _ 8 Try.underlying31 hi hz0 hz1 hz2 rfl rfl rfl hrow2 rfl hmade (by simp [Value.oneCell']) L1.out.1 L1.out.2 (by simp; omega) ?_; intro v1 w2 hrow3 ho1)
              go_roundw
              case rel => exact ⟨k + 1, by omega, by go_num, by rw [HF.out, ivs_snocI]; exact hrow3, (below_drewN hbw p).trans ((hbl.mono hsz).trans (ho1.below (Nat.le_refl _) (by simp; omega)))⟩
              case measure => simp [intOf]; omega
            | false =>
              have HF := Lib.hid (show (x.take (k + 1)).filter (eachB r) = ys by rw [HT.out, List.filter_append, ← HYS.out, List.filter_cons, hb]; simp)
              clear hb
              go_wp2_with fail
              go_roundw
              case rel => exact ⟨k + 1, by omega, by go_num, by rw [HF.out]; exact hrow.drewN p, below_drewN hbw p⟩
              case measure => simp [intOf]; omega
      · have e : k = q := by omega
        subst e
        have HF := Lib.hid (show (x.take k).filter (eachB r) = inAllL (x :: r) by rw [List.take_of_length_le (by rw [← hq]; exact Nat.le_refl _)]; rfl)
        rw [HF.out] at hrow
        go_wp2_with fail
        go_ret
        exact ⟨_, rfl, hrow, hbw⟩
end Go.Proofs.Ythhdklmdldikfaa
