/- Contract of the code's Follows. Condition: the slices have fewer than 2^40 elements. -/
import Derived.Test.YtignchefkihdaaaDoorTabC2
import Derived.Test.YtignchefkihdaaaDoorMg6
namespace Go.Proofs.YtignchefkihdaaaDoor
open Go.ChangeShapes Go.WideShapes Go.ChangeAt Go.RowKit
set_option maxRecDepth 100000
theorem run_to3 {P : Program} (W : World) (t e : TypeId) (ht : P.underlying t = some (.slice e)) (hz : ∀ w, (Go.sizeOf e).run P w = .ok 1 w) (A : Option Addr) {n c k : Nat} (h1 : k ≤ c) :
    (Instr.slice t (.slice A n c) none (some (.int .i64 (k : Int))) (some (.int .i64 (k : Int)))).run P W = .ok (.slice A k k) W := by
  have ht' : P.underlying t = some (.slice (P.elem t)) := by simp [Program.elem, ht]
  have he : P.elem t = e := by simp [Program.elem, ht]
  rw [run_slice_hm W t _ _ _ ht' .i64 .i64 _ _ (by omega) (by omega) (by omega), he, hz]
  by_cases h0 : k = 0
  · simp [Result.andThen, sliced, h0]
  · cases A <;> simp [Result.andThen, sliced, h0, Addr.add]
/-- What is read as slices lies in cells. -/
theorem rdSS_cel {w : World} {B : Nat} {A : Option Addr} {X : List (List Int)} (h : RdSS w B A X) : ∃ cs, Cel w B cs X ∧ Rd w B A cs := by
  have key : ∀ n, n ≤ X.length → ∃ cs, Cel w B cs (X.take n) ∧ Rd w B A cs := by
    intro n
    induction n with
    | zero => exact fun _ => ⟨[], by rw [List.take_zero]; exact Cel.nil, Rd.nil⟩
    | succ n ih =>
      intro hn
      obtain ⟨cs, h1, h2⟩ := ih (by omega)
      obtain ⟨ad, Aj, cj, e, hb, hc, hl, hm, hr⟩ := h n X[n] (List.getElem?_eq_getElem (by omega))
      have hcl : cs.length = n := by rw [h1.1, List.length_take]; omega
      refine ⟨cs ++ [.slice Aj X[n].length cj], ?_, fun j u hu => ?_⟩
      · rw [List.take_succ_eq_append_getElem (by omega)]
        exact h1.app (Cel.one hr hl hm)
      · by_cases hj : j < cs.length
        · rw [List.getElem?_append_left hj] at hu
          exact h2 j u hu
        · rw [List.getElem?_append_right (by omega)] at hu
          have : j = n := by
            rcases Nat.lt_or_ge (j - cs.length) 1 with h' | h'
            · omega
            · rw [List.getElem?_eq_none (by simpa using h')] at hu; cases hu
          subst this
          rw [show j - cs.length = 0 by omega] at hu
          simp at hu
          subst hu
          exact ⟨ad, e, hb, hc⟩
  obtain ⟨cs, h1, h2⟩ := key X.length (Nat.le_refl _)
  rw [List.take_length] at h1
  exact ⟨cs, h1, h2⟩
theorem SS_info2 : (Tryd.prog.info? 25).map (fun i => (i.zero, i.size, i.bytes)) = some (some (.slice none 0 0), 1, 24) := by kernel_rfl
set_option maxHeartbeats 4000000 in
theorem impFollows_any {w : World} {A A' : Option Addr} {n c n' c' : Nat} {X : List (List Int)} {f : List Int} (hl : Hid (X.length = n)) (hn : n ≤ 1000000000000) (hc : n ≤ c) (_hcm : c ≤ maxLen) (hr : RdSS w w.heap.size A X)
    (hl' : Hid (f.length = n')) (hc' : n' ≤ c') (hcm' : c' ≤ maxLen) (hr' : Rd w w.heap.size A' (ivs f)) :
    Calls Tryd.prog 8 #[.slice A n c, .slice A' n' c'] w (Tells (folR X f) w) := by
  obtain ⟨i0, hi, hz0, hz1, hz2⟩ := info_parts SS_info2
  obtain ⟨j0, hj, jz0, jz1, jz2⟩ := info_parts TabT_info
  have zz : ∀ w, (Go.sizeOf 25).run Tryd.prog w = .ok 1 w := fun w => by simp [sizeOf, typeInfo, hi, hz1]
  have zt : ∀ w, (Go.sizeOf 51).run Tryd.prog w = .ok 1 w := fun w => by simp [sizeOf, typeInfo, hj, jz1]
  have hs1 := fun (w : World) => run_to3 w 24 25 Tryd.underlying24 zz A (n := n) (c := c) (k := n) hc
  obtain ⟨cs, hcel, hrd⟩ := rdSS_cel hr
  have hb := alloc_new w (Obj.cells #[.slice A' n' c'] 25)
  have hmade := Rd.made w #[.slice A' n' c'] 25
  have hcel2 := hcel.app (Cel.one hr' (by rw [hl'.out]; exact hc') hcm')
  rw [hl'.out] at hcel2
  have HCL2 := Lib.hid hcel2
  have HCL := Lib.hid (hcel.1.trans hl.out)
  have HRD := Lib.hid (hrd.below hb)
  have hok : okR (X ++ [f]) = (okR X && isF f) := by simp [okR]
  obtain ⟨d, hd⟩ : ∃ d, d = (okR X && isF f) := ⟨_, rfl⟩
  rw [← hd] at hok
  have HD := Lib.hid hd.symm
  have HO := Lib.hid hok
  have L1 := Lib.hid (show n + 1 ≤ maxLen ∧ (n + 1 + (n + 1) / 4 + 192) * 24 ≤ 281474976710656 by unfold maxLen; omega)
  clear hr hr' hok hd hrd hcel hcel2
  have n0 : (0 : Int) ≤ (n : Int) := by omega
  go_enter Tryd.func8, Tryd.ntmps8
  go_wp2_with (at_builtin; refine wpList_app_full (m := 1) rfl (.tmp 16) (.tmp 18) 24 rfl 25 i0 _ 24 Tryd.underlying24 hi hz0 hz1 hz2 rfl (by simp [Act.eval]) (by simp [Act.eval]; rfl) HCL.out HRD.out rfl Nat.one_pos hmade (by simp [Value.oneCell']) L1.out.1 L1.out.2 ?_; intro v1 w3 row3 hb3)
  obtain ⟨A2, c2, rfl, hrd2, hnc2, hcm2⟩ := row3.rd (n := n + 1) (by rw [List.length_append, HCL.out]; rfl)
  have q3 := hb.trans (hb3.mono hb.size)
  have hss : RdSS w3 w3.heap.size A2 (X ++ [f]) := ((HCL2.out.below q3).more q3.size).rd hrd2
  have HSS := Lib.hid hss
  clear hss row3 hrd2 hb3 hmade hs1
  go_wp2_with fail
  refine (tablesOf_any (X := X ++ [f]) (n := n + 1) (Lib.hid (by rw [List.length_append, hl.out]; rfl)) (by omega) HSS.out).mono ?_
  rintro e w4 ⟨v, rfl, hrow, hb4⟩
  rw [HO.out]
  have q := q3.trans (hb4.mono q3.size)
  cases d with
  | false =>
    have HV := Lib.hid (folR_off HD.out)
    clear hrow
    go_wp2_with fail
    go_ret
    exact ⟨ret_b HV.out.symm, q⟩
  | true =>
    have hab : okR X = true ∧ isF f = true := by simpa using HD.out
    have hml : (uvs ((X ++ [f]).map tabN)).length = n + 1 := by rw [uvs_len, List.length_map, List.length_append, hl.out]; rfl
    have hrw := hrow HO.out
    obtain ⟨g, cap, e1, hk1, hk2, hcell⟩ := hrw.at0 (by rw [hml]; omega)
    have c1 := hcell n (.int .u64 (tabN f : Nat)) (by simp [uvs, ← hl.out])
    have hpre : Rd w4 w4.heap.size (some ⟨g, 0, none⟩) (uvs (X.map tabN)) := fun j u hu => by
      have hj : j < X.length := by
        rcases Nat.lt_or_ge j X.length with h' | h'
        · exact h'
        · rw [List.getElem?_eq_none (by rw [uvs_len, List.length_map]; exact h')] at hu; cases hu
      refine ⟨_, rfl, (hrw.own rfl).lt g (by rw [e1]; rfl) |>.2, ?_⟩
      rw [add0]
      refine hcell j u ?_
      rw [← hu]
      simp [uvs, List.getElem?_append_left, hj]
    rw [hml] at e1 hk1
    subst e1
    have HPRE := Lib.hid hpre
    have HV := Lib.hid (show (bits .andNot .u64 (shrN X : Nat) (tabN f : Nat) == 0) = folR X f by
      rw [u64_andNot_nat _ _ (shrN_lt X) (tabN_lt f), ← shrN_fol hab.1 hab.2, Bool.eq_iff_iff, decide_eq_true_iff, beq_iff_eq]
      omega)
    have hs2 := fun (w : World) => run_to3 w 47 51 Tryd.underlying47 zt (some ⟨g, 0, none⟩) (n := n + 1) (c := cap) (k := n) (by omega)
    have n1 : (n : Int) < (n : Int) + 1 := by omega
    have n2 : (n : Int) ≤ (cap : Int) := by omega
    clear hrow hrw hcell hab hpre hml
    go_wp2_with fail
    go_region
    go_wp2_with fail
    refine (sharedRows_any (l := X.map tabN) (n := n) (Lib.hid (by rw [List.length_map, hl.out])) (by omega) (Lib.hid tabs_lt) (HPRE.out.drewN 1)).mono ?_
    rintro e w5 ⟨rfl, rfl⟩
    rw [andN_tab]
    go_wp2_with fail
    go_ret
    exact ⟨ret_b HV.out, below_drewN q 1⟩
end Go.Proofs.YtignchefkihdaaaDoor
