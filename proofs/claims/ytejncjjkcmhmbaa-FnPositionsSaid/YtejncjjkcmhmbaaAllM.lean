/- Contract of the model of AllComplete. Condition: the slices have at most 2^40 elements. -/
import Derived.Test.YtejncjjkcmhmbaaSets
import Derived.Test.YtejncjjkcmhmbaaViewA
import Derived.Test.YtejncjjkcmhmbaaMg3
import Derived.Test.YtejncjjkcmhmbaaGrow
import Derived.Test.YtejncjjkcmhmbaaMg5
import Derived.Test.YtejncjjkcmhmbaaMg21
namespace Go.Proofs.Ytejncjjkcmhmbaa
open Go.ChangeShapes Go.WideShapes Go.ChangeAt Go.RowKit
set_option maxRecDepth 100000
theorem ofInt_i64 (a : Nat) (ha : a < 9223372036854775808) : (BitVec.ofInt 64 (a : Int)).toNat = a := by
  rw [BitVec.ofInt_natCast, BitVec.toNat_ofNat]; exact Nat.mod_eq_of_lt (by omega)
theorem i64_and_nat (a b : Nat) (ha : a < 9223372036854775808) (hb : b < 9223372036854775808) : bits .and .i64 (a : Int) (b : Int) = ((a &&& b : Nat) : Int) := by
  have hx : a &&& b < 2 ^ 63 := Nat.and_lt_two_pow _ (by omega)
  show IntKind.i64.wrap ((BitVec.ofInt 64 (a : Int) &&& BitVec.ofInt 64 (b : Int)).toNat : Int) = _
  rw [BitVec.toNat_and, ofInt_i64 a ha, ofInt_i64 b hb]
  exact IntWalk.i64_in _ (by omega)
theorem mask_has (x k : Nat) (hx : x < 9223372036854775808) : (bits .and .i64 ((x : Int) / 2 ^ k) 1 == 1) = x.testBit k := by
  have e : ((x : Int) / 2 ^ k) = ((x / 2 ^ k : Nat) : Int) := by push_cast; rfl
  have hl : x / 2 ^ k < 9223372036854775808 := Nat.lt_of_le_of_lt (Nat.div_le_self _ _) hx
  rw [e, show (1 : Int) = ((1 : Nat) : Int) from rfl, i64_and_nat _ _ hl (by omega), Nat.and_one_is_mod, Nat.testBit_eq_decide_div_mod_eq]
  by_cases h : x / 2 ^ k % 2 = 1
  · rw [h]; simp
  · simp [h]
    omega
theorem lsT_lenA (x k : Nat) : (lsT x k).length ≤ k := by
  unfold lsT
  rw [List.length_map]
  exact Nat.le_trans (List.length_filter_le _ _) (by simp)
set_option maxHeartbeats 8000000 in
theorem specAllComplete_any {w : World} {A : Option Addr} {n c : Nat} {N : Int} {X : List (List Int)} (hl : Hid (X.length = n)) (hn : n ≤ 1099511627776) (hr : RdSS w w.heap.size A X) :
    Calls Try.prog 29 #[.agg #[.int .i64 N, .slice A n c]] w (FreshRd (allC N X) w) := by
  obtain ⟨i0, hi, hz0, hz1, hz2⟩ := info_parts IntS_info
  obtain ⟨je, hje, hy0, hy1, hy2⟩ := info_parts IntSS_info
  obtain ⟨W1, hW, bx1, hb1⟩ := one_graph w #[Value.int IntKind.i64 N, Value.slice A n c] 27
  have hs1 : W1.heap.size = w.heap.size + 1 := by rw [hW]; simp
  have HR := Lib.hid ((hr.below hb1).more hb1.size)
  have hW' := hW.symm
  have hb2 := alloc_new W1 (Obj.cells #[] 25)
  have sets0 := SetsR.made W1 W1.heap.size (Nat.le_refl _)
  have bx2 := bx1.new hb2
  obtain ⟨W2, hW2⟩ : ∃ u, u = W1.alloc (Obj.cells #[] 25) := ⟨_, rfl⟩
  have hs2 : W2.heap.size = W1.heap.size + 1 := by rw [hW2]; simp
  rw [← hW2] at hb2 sets0 bx2
  rw [← hs2, hs1] at sets0
  have hW2' := hW2.symm
  have HR2 := Lib.hid ((HR.out.below hb2).more hb2.size)
  obtain ⟨C0, C1⟩ := bx2.two
  clear hW hW2 hr HR bx1
  go_enter Try.func29, Try.ntmps29
  go_wp2_with fail
  refine (specIsGraph_any (N := N) (X := X) (c := c) hl hn HR2.out).mono ?_
  rintro e w3 ⟨rfl, hb3⟩
  have hsz3 := hb3.size
  have sets3 := sets0.new hb3
  have HR3 := Lib.hid ((HR2.out.below hb3).more hb3.size)
  have bx3 := bx2.new hb3
  have hb30 : Below w.heap.size w w3 := hb1.trans ((hb2.mono (by omega)).trans (hb3.mono (by omega)))
  clear hW' hW2' C0 C1 sets0 bx2 hb3 hb2
  by_cases hg : gB N X = true
  case neg =>
    have hg' : gB N X = false := by simpa using hg
    have HA := Lib.hid (show allC N X = [] by unfold allC; rw [if_neg hg])
    rw [hg']
    clear hg hg'
    go_wp2_with fail
    go_ret
    exact ⟨_, rfl, by rw [HA.out]; exact sets3.rdv, hb30⟩
  case pos =>
    obtain ⟨p, rfl, hp, _, _⟩ := gB_ok hg
    have HA := Lib.hid (show allC (p : Int) X = allF p X p (2 ^ p) by unfold allC; rw [if_pos hg]; simp)
    rw [hg]
    obtain ⟨G, hG⟩ : ∃ G, G = 2 ^ p := ⟨_, rfl⟩
    have hG2 : G ≤ 1024 := by rw [hG]; exact Nat.pow_le_pow_right (n := 2) (by decide) hp
    rw [← hG] at HA
    have HGG := Lib.hid hG
    have hshl : wrap64 ((2 : Int) ^ p) = (G : Int) := by
      have e : ((2 : Int) ^ p) = (G : Int) := by rw [hG]; push_cast; rfl
      rw [e]; exact IntWalk.wrap64_in _ (by omega)
    have HSH := Lib.hid hshl
    clear hg hG hshl
    go_wp2_with fail
    go_loopw [3, 4] (fun s i wr => ∃ m : Nat, m ≤ G ∧ i = .int .i64 m ∧ SetsR wr (w.heap.size + 1) wr.heap.size s (allF p X p m) ∧ Below w3.heap.size w3 wr) (fun _ i _ => G - (intOf i).toNat)
    case atStart => exact ⟨0, Nat.zero_le _, rfl, sets3, Below.refl _ _⟩
    case round =>
      obtain ⟨m, hm, rfl, hsets, hbw⟩ := hrel
      have hszw := hbw.size
      obtain ⟨wo, hwo⟩ : ∃ u : World, u = wr := ⟨_, rfl⟩
      subst hwo
      obtain ⟨C0, C1⟩ := (bx3.new hbw).two
      by_cases hlt : m < G
      · have hshl := HSH.out
        go_wp2_with fail
        clear hshl
        have hbl := alloc_new wo (Obj.cells #[] 3)
        have hrow0 := Row.made (w := wo) wo.heap.size #[] 0 3 (Nat.le_refl _) rfl (Nat.zero_le _)
        go_loopw [5, 6] (fun s2 i2 wr => ∃ i : Nat, i ≤ p ∧ i2 = .int .i64 i ∧ Row wr wo.heap.size wr.heap.size 3 s2 (ivs (lsT m i)) ∧ Below wo.heap.size wo wr) (fun _ i2 _ => p - (intOf i2).toNat)
        case atStart => exact ⟨0, Nat.zero_le _, rfl, hrow0.wide (Nat.le_refl _) (by simp), hbl⟩
        case round =>
          obtain ⟨i, hip, rfl, hrow, hb5⟩ := hrel
          have hsz5 := hb5.size
          have hbw5 := hbw.trans (hb5.mono hszw)
          obtain ⟨C0, C1⟩ := (bx3.new hbw5).two
          clear hbl hrow0
          by_cases hli : i < p
          · have i0' : (0 : Int) ≤ (i : Int) := by omega
            have i1' : (i : Int) < 64 := by omega
            have i2' : (0 : Int) ≤ (m : Int) := by omega
            have HM := Lib.hid (mask_has m i (by omega))
            have hyl := lsT_lenA m i
            obtain ⟨ys, hys⟩ : ∃ ys, ys = lsT m i := ⟨_, rfl⟩
            cases hbit : m.testBit i with
            | true =>
              have HT := Lib.hid (lsT_yes hbit)
              rw [← hys] at hrow hyl HT
              have HMM := Lib.hid (HM.out.trans hbit)
              have hbl6 := alloc_new wr (Obj.cells #[Value.int .i64 i] 3)
              have hrow2 := hrow.new hbl6
              have hmade := Rd.made wr #[Value.int .i64 i] 3
              have L1 := Lib.hid (show (ivs ys).length + 1 ≤ maxLen ∧ ((ivs ys).length + 1) * 8 ≤ 140737488355328 by rw [ivs_len]; unfold maxLen; omega)
              clear hys hbit HM
              have hmm := HMM.out
              go_wp2_with (at_builtin; refine wpList_app rfl (.tmp 32) (.tmp 34) 25 rfl 3 i0 _ 8 Try.underlying25 hi hz0 hz1 hz2 rfl rfl rfl hrow2 rfl hmade (by simp [Value.oneCell']) L1.out.1 L1.out.2 (by simp; omega) ?_; intro v1 w1 hrow3 ho1)
              go_roundw
              case rel => exact ⟨i + 1, by omega, by go_num, by rw [HT.out, ← ivs_snoc_l]; exact hrow3, hb5.trans ((hbl6.mono hsz5).trans (ho1.below (Nat.le_refl _) (by simp; omega)))⟩
              case measure => simp [intOf]; omega
            | false =>
              have HT := Lib.hid (lsT_no hbit)
              rw [← hys] at hrow hyl HT
              have HMM := Lib.hid (HM.out.trans hbit)
              clear hys hbit HM
              have hmm := HMM.out
              go_wp2_with fail
              go_roundw
              case rel => exact ⟨i + 1, by omega, by go_num, by rw [HT.out]; exact hrow, hb5⟩
              case measure => simp [intOf]; omega
          · have e : i = p := by omega
            subst e
            obtain ⟨ln, hln⟩ : ∃ ln, ln = (lsT m i).length := ⟨_, rfl⟩
            obtain ⟨As, cs, rfl, hrds, hlc, hcm9⟩ := hrow.rd (n := ln) (by rw [ivs_len, hln])
            have HLN := Lib.hid hln.symm
            have hrg := (HR3.out.below hbw5).more hbw5.size
            have hlen := lsT_lenA m i
            rw [← hln] at hlen
            clear hln
            go_wp2_with fail
            refine (specIsComplete_any (N := (i : Int)) (X := X) (S := lsT m i) hl hn hrg HLN.out (by omega) hrds).mono ?_
            rintro e w6 ⟨rfl, hb6⟩
            have hb7 := hb5.trans (hb6.mono hsz5)
            have hbw7 := hbw.trans (hb7.mono hszw)
            have hsz6 := hb6.size
            have hsets7 := hsets.new hb7
            have hrow7 := hrow.new hb6
            clear C0 C1 hrds hrow
            by_cases hcc : compB i X (lsT m i) = true
            case neg =>
              have hcc' : compB i X (lsT m i) = false := by simpa using hcc
              have HF := Lib.hid (show allF (i : Int) X i (m + 1) = allF i X i m by rw [allF, if_neg hcc])
              rw [hcc']
              clear hcc hcc'
              go_wp2_with fail
              go_roundw
              case rel => exact ⟨m + 1, by omega, by go_num, by rw [HF.out]; exact hsets7, hbw7⟩
              case measure => simp [intOf]; omega
            case pos =>
              have HF := Lib.hid (show allF (i : Int) X i (m + 1) = insB (lsT m i) (allF i X i m) by rw [allF, if_pos hcc])
              have HSRT := Lib.hid (allF_srt (N := (i : Int)) (X := X) (n := i) (m := m) (by have := HGG.out; omega))
              have hRl := allF_len (i : Int) X i m
              have HRS := Lib.hid (show ∀ t ∈ allF (i : Int) X i m, t.length ≤ 10 from fun t ht => by
                obtain ⟨j, _, e, _⟩ := allF_mem.1 ht
                rw [e]; exact Nat.le_trans (lsT_lenA _ _) hp)
              rw [hcc]
              clear hcc
              obtain ⟨R, hR⟩ : ∃ R, R = allF (i : Int) X i m := ⟨_, rfl⟩
              rw [← hR] at hsets7 HF HSRT hRl HRS
              obtain ⟨s, hs⟩ : ∃ s, s = lsT m i := ⟨_, rfl⟩
              rw [← hs] at hrow7 HF HLN
              clear hR hsets
              obtain ⟨co', hrowO, hcel⟩ := hsets7
              obtain ⟨Ao, co, rfl, hrdo, hco, hcm⟩ := hrowO.rd (n := R.length) hcel.1
              have hrdR := hcel.rd hrdo
              have hRl2 : R.length ≤ 1024 := by omega
              go_wp2_with fail
              go_loopw [7] (fun kv wr => ∃ k q : Nat, k ≤ R.length ∧ kv = .int .i64 k ∧ wr = w6.drewN q ∧ Hid (∀ t ∈ R.drop k, bfr s t = true)) (fun kv _ => (intOf kv).toNat)
              case atStart => exact ⟨R.length, 0, Nat.le_refl _, rfl, rfl, Lib.hid (by simp)⟩
              case round =>
                obtain ⟨k, q, hk, rfl, rfl, hge⟩ := hrel
                have hrds6 := ((hrow7.rd').drewN q).more (show wr.heap.size ≤ (w6.drewN q).heap.size from hsz6)
                by_cases hcont : ∃ j, k = j + 1 ∧ bfr s (R.getD j []) = true
                case pos =>
                  obtain ⟨j, hj, hbj⟩ := hcont
                  have hjR : j < R.length := by omega
                  obtain ⟨ado, Aj, cj, rfl, hab, hcx, hcl, hcm', hrdx⟩ := (hrdR.drewN q).at_ hjR
                  have hxl := HRS.out R[j] (List.getElem_mem hjR)
                  rw [List.getD_eq_getElem?_getD, List.getElem?_eq_getElem hjR, Option.getD_some] at hbj
                  have HD := Lib.hid (show ∀ t ∈ R.drop j, bfr s t = true by
                    rw [List.drop_eq_getElem_cons hjR]
                    intro t ht
                    rcases List.mem_cons.1 ht with rfl | ht
                    · exact hbj
                    · exact hge.out t (by rw [hj]; exact ht))
                  obtain ⟨x, hx⟩ : ∃ x, x = R[j] := ⟨_, rfl⟩
                  rw [← hx] at hcx hrdx hxl hbj hcl
                  have HB := Lib.hid hbj
                  have hkj : (k : Int) - 1 = (j : Int) := by omega
                  have hk1 : (0 : Int) < (k : Int) := by omega
                  have j0 : (0 : Int) ≤ (j : Int) := by omega
                  have j1 : (j : Int) < (R.length : Int) := by omega
                  have HK := Lib.hid hj
                  clear hx hbj hj hge
                  go_wp2_with fail
                  refine (l7Before_q (S := s) (T := x) HLN.out (by omega) (Lib.hid rfl) (by omega) hrds6 hrdx).mono ?_
                  rintro e u9 ⟨he, q2, rfl⟩
                  rw [HB.out] at he
                  subst he
                  go_wp2_with fail
                  go_roundw
                  case rel => exact ⟨j, q + q2, by omega, rfl, rfl, HD⟩
                  case measure => have := HK.out; simp [intOf]; omega
                case neg =>
                  have HI := Lib.hid (insB_at (s := s) (R := R) (k := k) HSRT.out hk hge.out (fun t ht h => by
                    obtain ⟨j, rfl⟩ : ∃ j, k = j + 1 := ⟨k - 1, by omega⟩
                    have e : R.getD j [] = t := by
                      rw [Nat.add_sub_cancel] at ht
                      rw [List.getD_eq_getElem?_getD, ht]; rfl
                    cases hb : bfr s t with
                    | false => rfl
                    | true => exact absurd ⟨j, rfl, by rw [e]; exact hb⟩ hcont))
                  by_cases hk0 : k = 0
                  case' pos =>
                    have hkn : ¬ (0 : Int) < (k : Int) := by omega
                    clear hk0 hcont hge
                    go_wp2_with fail
                    obtain ⟨q9, hq9⟩ : ∃ q9, q9 = q := ⟨_, rfl⟩
                    rw [← hq9]
                  case' neg =>
                    obtain ⟨j, hj⟩ : ∃ j, k = j + 1 := ⟨k - 1, by omega⟩
                    have hjR : j < R.length := by omega
                    obtain ⟨ado, Aj, cj, rfl, hab, hcx, hcl, hcm', hrdx⟩ := (hrdR.drewN q).at_ hjR
                    have hxl := HRS.out R[j] (List.getElem_mem hjR)
                    have hbj : bfr s R[j] = false := by
                      cases hb : bfr s R[j] with
                      | false => rfl
                      | true => exact absurd ⟨j, hj, by rw [List.getD_eq_getElem?_getD, List.getElem?_eq_getElem hjR]; exact hb⟩ hcont
                    obtain ⟨x, hx⟩ : ∃ x, x = R[j] := ⟨_, rfl⟩
                    rw [← hx] at hcx hrdx hxl hbj hcl
                    have HB := Lib.hid hbj
                    have hkj : (k : Int) - 1 = (j : Int) := by omega
                    have hk1 : (0 : Int) < (k : Int) := by omega
                    have j0 : (0 : Int) ≤ (j : Int) := by omega
                    have j1 : (j : Int) < (R.length : Int) := by omega
                    clear hx hbj hj hge hcont hk0
                    go_wp2_with fail
                    refine (l7Before_q (S := s) (T := x) HLN.out (by omega) (Lib.hid rfl) (by omega) hrds6 hrdx).mono ?_
                    rintro e u9 ⟨he, q2, rfl⟩
                    rw [HB.out] at he
                    subst he
                    clear hkj
                    go_wp2_with fail
                    obtain ⟨q9, hq9⟩ : ∃ q9, q9 = q + q2 := ⟨_, rfl⟩
                    rw [← hq9]
                    obtain ⟨Ao, hAo⟩ : ∃ Ao, Ao = some ado := ⟨_, rfl⟩
                    rw [← hAo] at hrdo hrowO ⊢
                    clear hAo hcx hrdx
                  all_goals
                    clear hq9
                    have hrowO9 := hrowO.drewN q9
                    have hcel9 := hcel
                    have hrds9 := ((hrow7.rd').drewN q9).more (show wr.heap.size ≤ (w6.drewN q9).heap.size from hsz6)
                    have hbw9 : Below w3.heap.size w3 (w6.drewN q9).drew := (below_drewN hbw7 q9).drew
                    obtain ⟨Wd, hWd⟩ : ∃ u : World, u = (w6.drewN q9).drew := ⟨_, rfl⟩
                    have hWdd : Below (w6.drewN q9).heap.size (w6.drewN q9) Wd := by rw [hWd]; exact (Below.refl _ _).drew
                    have hcd : Rd Wd Wd.heap.size Ao co' := by rw [hWd]; exact hrdo
                    have hce : Cel Wd Wd.heap.size co' R := by rw [hWd]; exact hcel
                    have hsd : Rd Wd Wd.heap.size As (ivs s) := by rw [hWd]; exact hrds9
                    rw [← hWd] at hbw9
                    have hsz9 : wo.heap.size ≤ Wd.heap.size := by rw [hWd]; exact Nat.le_trans hsz5 hsz6
                    have zz : ∀ w, (Go.sizeOf 25).run Try.prog w = .ok 1 w := fun w => by simp [sizeOf, typeInfo, hje, hy1]
                    have hkco : k ≤ co := by omega
                    have hs1 := fun (w : World) => run_to w 22 25 Try.underlying22 zz Ao (n := R.length) hkco
                    have hs2 := fun (w : World) => run_from w 22 25 Try.underlying22 zz Ao hk hco
                    have HCL := Lib.hid hcel.1
                    have hlt : (co'.take k).length = k := by rw [List.length_take, hcel.1]; omega
                    have HTL := Lib.hid hlt
                    have HDL := Lib.hid (show (co'.drop k).length = R.length - k by rw [List.length_drop, hcel.1])
                    have L1 := Lib.hid (show ([] : List Value).length + k ≤ maxLen ∧ (([] : List Value).length + k) * 24 ≤ 140737488355328 by unfold maxLen; simp; omega)
                    have L2 := Lib.hid (show (([] : List Value) ++ co'.take k).length + 1 ≤ maxLen ∧ ((([] : List Value) ++ co'.take k).length + 1) * 24 ≤ 140737488355328 by rw [List.nil_append, hlt]; unfold maxLen; omega)
                    have L3 := Lib.hid (show ((([] : List Value) ++ co'.take k) ++ [Value.slice As ln cs]).length + (R.length - k) ≤ maxLen ∧ (((([] : List Value) ++ co'.take k) ++ [Value.slice As ln cs]).length + (R.length - k)) * 24 ≤ 140737488355328 by rw [List.nil_append, List.length_append, hlt, List.length_singleton]; unfold maxLen; omega)
                    have hB : True := trivial
                    have hnE := alloc_new Wd (Obj.cells #[] 25)
                    have hnS := alloc_new Wd (Obj.cells #[Value.slice As ln cs] 25)
                    have hA : Row (Wd.alloc (Obj.cells #[] 25)) Wd.heap.size (Wd.heap.size + 1) 25 (.slice (some ⟨Wd.heap.size, 0, none⟩) 0 0) [] := by
                      have := Row.made (w := Wd) Wd.heap.size #[] 0 25 (Nat.le_refl _) rfl (Nat.zero_le _)
                      exact this
                    have hnES := alloc_new (Wd.alloc (Obj.cells #[] 25)) (Obj.cells #[Value.slice As ln cs] 25)
                    have hnSE := alloc_new (Wd.alloc (Obj.cells #[Value.slice As ln cs] 25)) (Obj.cells #[] 25)
                    have hAB := hA.new hnES
                    have hAC : Row ((Wd.alloc (Obj.cells #[Value.slice As ln cs] 25)).alloc (Obj.cells #[] 25)) (Wd.heap.size + 1) (Wd.heap.size + 2) 25 (.slice (some ⟨Wd.heap.size + 1, 0, none⟩) 0 0) [] := by
                      have := Row.made (w := Wd.alloc (Obj.cells #[Value.slice As ln cs] 25)) (Wd.alloc (Obj.cells #[Value.slice As ln cs] 25)).heap.size #[] 0 25 (Nat.le_refl _) rfl (Nat.zero_le _)
                      rw [show (Wd.alloc (Obj.cells #[Value.slice As ln cs] 25)).heap.size = Wd.heap.size + 1 by simp] at this
                      exact this
                    have hSB : Rd ((Wd.alloc (Obj.cells #[] 25)).alloc (Obj.cells #[Value.slice As ln cs] 25)) (Wd.heap.size + 2) (some ⟨Wd.heap.size + 1, 0, none⟩) [Value.slice As ln cs] := by
                      have := Rd.made (Wd.alloc (Obj.cells #[] 25)) #[Value.slice As ln cs] 25
                      rw [show (Wd.alloc (Obj.cells #[] 25)).heap.size = Wd.heap.size + 1 by simp] at this
                      exact this
                    have hSC : Rd ((Wd.alloc (Obj.cells #[Value.slice As ln cs] 25)).alloc (Obj.cells #[] 25)) (Wd.heap.size + 1) (some ⟨Wd.heap.size, 0, none⟩) [Value.slice As ln cs] := by
                      have := (Rd.made Wd #[Value.slice As ln cs] 25).below (hnSE.mono (by simp))
                      exact this
                    have hbE : Below Wd.heap.size Wd (Wd.alloc (Obj.cells #[] 25)) := by exact hnE
                    have hbES : Below Wd.heap.size Wd ((Wd.alloc (Obj.cells #[] 25)).alloc (Obj.cells #[Value.slice As ln cs] 25)) := by exact hnE.trans (hnES.mono (by simp))
                    have hbSE : Below Wd.heap.size Wd ((Wd.alloc (Obj.cells #[Value.slice As ln cs] 25)).alloc (Obj.cells #[] 25)) := by exact hnS.trans (hnSE.mono (by simp))
                    have hzE : Wd.heap.size + 1 ≤ (Wd.alloc (Obj.cells #[] 25)).heap.size := by simp
                    have hzES : Wd.heap.size + 2 ≤ ((Wd.alloc (Obj.cells #[] 25)).alloc (Obj.cells #[Value.slice As ln cs] 25)).heap.size := by simp
                    have hzSE : Wd.heap.size + 2 ≤ ((Wd.alloc (Obj.cells #[Value.slice As ln cs] 25)).alloc (Obj.cells #[] 25)).heap.size := by simp
                    have hcdB : Rd Wd Wd.heap.size Ao co' := by exact hcd
                    have hTK := hcdB.hd (k := k)
                    have hDP := hcdB.tl (k := k) (c := co) (by rw [hcel.1]; exact hco)
                    have HO1 := Lib.hid (hcel.take k).ones
                    have HO2 := Lib.hid (hcel.drop k).ones
                    have HBB := trivial
                    have hWd' := hWd.symm
                    clear hnE hnS hnES hnSE hB hWd hlt
                    go_region_law (first
                      | (refine step_app (v := .slice (some ⟨Wd.heap.size, 0, none⟩) 0 0) (xs := []) (news := co'.take k) (lo := Wd.heap.size) (A := Ao) (c := co) rfl (.tmp 54) (.tmp 57) 22 rfl 25 je _ 24 Try.underlying22 hje hy0 hy1 hy2 rfl (by simp [Act.eval]) (by simp [Act.eval]) hA HTL.out (hTK.below hbE) HO1.out L1.out.1 L1.out.2 (by omega) ?_; intro v1 w1 hrow1 ho1; have hb1 : Below Wd.heap.size Wd w1 := hbE.trans (ho1.below (Nat.le_refl _) (by omega)); have hz1 := ho1.size; have hrd61 := Rd.made w1 #[Value.slice As ln cs] 25; have hrow61 := (hrow1.new (alloc_new w1 (Obj.cells #[Value.slice As ln cs] 25))); have hb61 := hb1.alloc (B := Wd.heap.size) (by omega) (Obj.cells #[Value.slice As ln cs] 25); have hz61 : Wd.heap.size ≤ (w1.alloc (Obj.cells #[Value.slice As ln cs] 25)).heap.size := by simp; omega)
                      | (refine step_app (v := .slice (some ⟨Wd.heap.size, 0, none⟩) 0 0) (xs := []) (news := co'.take k) (lo := Wd.heap.size) (A := Ao) (c := co) rfl (.tmp 54) (.tmp 57) 22 rfl 25 je _ 24 Try.underlying22 hje hy0 hy1 hy2 rfl (by simp [Act.eval]) (by simp [Act.eval]) hAB HTL.out (hTK.below hbES) HO1.out L1.out.1 L1.out.2 (by omega) ?_; intro v1 w1 hrow1 ho1; have hb1 : Below Wd.heap.size Wd w1 := hbES.trans (ho1.below (Nat.le_refl _) (by omega)); have hz1 := ho1.size; have hrd61 := hSB.out1 ho1 (by omega) (.inr (Nat.le_refl _)); have hrow61 := hrow1; have hb61 := hb1; have hz61 : Wd.heap.size ≤ w1.heap.size := by omega)
                      | (refine step_app (v := .slice (some ⟨Wd.heap.size + 1, 0, none⟩) 0 0) (xs := []) (news := co'.take k) (lo := Wd.heap.size + 1) (A := Ao) (c := co) rfl (.tmp 54) (.tmp 57) 22 rfl 25 je _ 24 Try.underlying22 hje hy0 hy1 hy2 rfl (by simp [Act.eval]) (by simp [Act.eval]) hAC HTL.out (hTK.below hbSE) HO1.out L1.out.1 L1.out.2 (by omega) ?_; intro v1 w1 hrow1 ho1; have hb1 : Below Wd.heap.size Wd w1 := hbSE.trans (ho1.below (Nat.le_succ _) (by omega)); have hz1 := ho1.size; have hrd61 := hSC.out1 ho1 (by omega) (.inl (Nat.lt_succ_self _)); have hrow61 := hrow1.wide (Nat.le_succ _) (Nat.le_refl _); have hb61 := hb1; have hz61 : Wd.heap.size ≤ w1.heap.size := by omega)
                      | (refine step_app (v := v1) (news := [Value.slice As ln cs]) (lo := Wd.heap.size) rfl (.tmp 58) (.tmp 60) 22 rfl 25 je _ 24 Try.underlying22 hje hy0 hy1 hy2 rfl (by simp [Act.eval]) (by simp [Act.eval]; rfl) hrow61 rfl hrd61 (by simp [Value.oneCell']) L2.out.1 L2.out.2 hz61 ?_; intro v2 w2 hrow2 ho2; have hb2 : Below Wd.heap.size Wd w2 := hb61.trans (ho2.below (Nat.le_refl _) hz61); have hz2 : Wd.heap.size ≤ w2.heap.size := hb2.size)
                      | (refine step_app (v := v2) (news := co'.drop k) (lo := Wd.heap.size) (A := tlA Ao k co) (c := co - k) rfl (.tmp 61) (.tmp 64) 22 rfl 25 je _ 24 Try.underlying22 hje hy0 hy1 hy2 rfl (by simp [Act.eval]) (by simp [Act.eval]) hrow2 HDL.out (hDP.below hb2) HO2.out L3.out.1 L3.out.2 hz2 ?_; intro v3 w9 hrow3 ho3; have hb3' : Below Wd.heap.size Wd w9 := hb2.trans (ho3.below (Nat.le_refl _) hz2))
                      | fail)
                    all_goals
                      go_wp2_with fail
                      go_roundw
                      case rel => exact ⟨m + 1, by omega, by go_num, ⟨_, hrow3.wide (by have := hb30.size; omega) (Nat.le_refl _), by rw [HF.out, ← HI.out, List.nil_append, show R.take k ++ s :: R.drop k = (R.take k ++ [s]) ++ R.drop k by simp]; exact (((hce.take k).app (by have := Cel.one (c := cs) hsd (by rw [HLN.out]; exact hlc) hcm9; rw [HLN.out] at this; exact this)).app (hce.drop k)).new hb3'⟩, hbw9.trans (hb3'.mono hbw9.size)⟩
                      case measure => simp [intOf]; omega
      · have e : m = G := by omega
        subst e
        have hshl := HSH.out
        go_wp2_with fail
        go_ret
        exact ⟨_, rfl, by rw [HA.out]; exact hsets.rdv, hb30.trans (hbw.mono hb30.size)⟩
end Go.Proofs.Ytejncjjkcmhmbaa
