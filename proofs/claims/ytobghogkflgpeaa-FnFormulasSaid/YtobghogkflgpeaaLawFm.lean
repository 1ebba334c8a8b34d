/- The law of chapter 10: a formula's opposite, its joins, its text and its letters. No conditions but that the code is small. -/
import Derived.Test.YtobghogkflgpeaaMg10
import Derived.Test.YtobghogkflgpeaaDrawG5
import Derived.Test.YtobghogkflgpeaaFreeD
import Derived.Test.YtobghogkflgpeaaMg8
import Derived.Test.YtobghogkflgpeaaFmlC
import Derived.Test.YtobghogkflgpeaaValC
import Derived.Test.YtobghogkflgpeaaJoinC2
import Derived.Test.YtobghogkflgpeaaLetC
import Derived.Test.YtobghogkflgpeaaTxtC
import Derived.Deep.DeepCutAuto
namespace Go.Proofs.Ytobghogkflgpeaa
open Go.ChangeShapes Go.WideShapes Go.ChangeAt Go.RowKit
set_option maxRecDepth 100000
/-- What is kept: a formula and its letters' values. -/
structure FO (W : World) (A A' : Option Addr) (f : List Int) (L : List Bool) (w : World) : Prop where
  f : Rd w w.heap.size A (ivs f)
  l : Rd w w.heap.size A' (bls L)
  hb : Below W.heap.size W w
section
variable {W : World} {A A' Ag : Option Addr} {f g : List Int} {L : List Bool} {w w' : World}
theorem FO.new (h : FO W A A' f L w) (r : Below w.heap.size w w') : FO W A A' f L w' := ⟨rd_new h.f r, rd_new h.l r, h.hb.trans (r.mono h.hb.size)⟩
theorem FO.isf {c : Nat} (h : FO W A A' f L w) {b : Bool} (hb : Hid (isF f = b)) : Calls Try.prog 29 #[.slice A f.length c] w (Tells b w) := by
  rw [← hb.out]
  exact impIsFormula_any (Lib.hid rfl) h.f
theorem FO.val {n cg c' : Nat} (h : FO W A A' f L w) (hn : Hid (g.length = n)) (hg : Rd w w.heap.size Ag (ivs g)) {b : Bool} (hb : Hid (valB g L = b)) : Calls Try.prog 31 #[.slice Ag n cg, .slice A' L.length c'] w (Tells b w) := by
  rw [← hb.out]
  exact impValue_any hn hg (Lib.hid rfl) h.l
end
theorem txt_ne {f : List Int} (h : isF f = true) : ∃ c l, txtF f = c :: l := by
  obtain ⟨t, _, _, e, _⟩ := fml_txt h
  rw [e]
  cases t <;> simp [trT]
theorem txt_no {f : List Int} (h : isF f = false) : txtF f = [] := by
  unfold txtF
  rw [h]
  rfl
theorem fml_not {f : List Int} : fmlL (f ++ [-1]) = [] ∨ (fmlL (f ++ [-1]) = f ++ [-1] ∧ isF f = true ∧ ∀ L, valB (f ++ [-1]) L = !(valB f L)) := by
  unfold fmlL
  by_cases h : isF (f ++ [-1]) = true
  · rw [if_pos h]
    exact .inr ⟨rfl, isF_not h, fun L => val_not h⟩
  · rw [if_neg h]; exact .inl rfl
theorem fml_join {a b : List Int} {x : Int} : joinL a b x = [] ∨ (joinL a b x = a ++ b ++ [x] ∧ (x = -2 ∨ x = -3 ∨ x = -4) ∧ ∀ L, valB (a ++ b ++ [x]) L = opB x (valB a L) (valB b L)) := by
  unfold joinL
  split
  · rename_i h
    simp only [Bool.and_eq_true] at h
    obtain ⟨⟨⟨ha, hb⟩, hx⟩, hj⟩ := h
    have hx' : -4 ≤ x ∧ x ≤ -2 := by simpa [inr] using hx
    exact .inr ⟨rfl, by omega, fun L => val_join ha hb hx' hj⟩
  · exact .inl rfl
theorem val_flip {f : List Int} {L : List Bool} {k : Nat} {b : Bool} (hf : isF f = true) (h : (letL f).contains (k : Int) = false) : valB f (L.set k b) = valB f L := by
  refine val_same fun z hz hz0 => ?_
  have hne : z.toNat ≠ k := fun e => by
    have : (k : Int) ∈ letL f := letL_mem.2 ⟨hf, by rw [← e, Int.toNat_of_nonneg hz0]; exact hz, by omega⟩
    rw [← List.contains_iff_mem, h] at this
    cases this
  rw [List.getD_eq_getElem?_getD, List.getD_eq_getElem?_getD, List.getElem?_set_ne (by omega)]
theorem letL_len (f : List Int) : (letL f).length ≤ f.length := by
  have h1 : ∀ (n : Int) (l : List Int), (putL n l).length ≤ l.length + 1 := by
    intro n l
    induction l with
    | nil => simp [putL]
    | cons x l ih =>
      unfold putL
      split
      · simp only [List.length_cons]; omega
      · split
        · simp
        · simp
  have h2 : ∀ (g l : List Int), (putAll g l).length ≤ l.length + g.length := by
    intro g
    induction g with
    | nil => intro l; simp [putAll]
    | cons x g ih =>
      intro l
      have : putAll (x :: g) l = putAll g (if 0 ≤ x then putL x l else l) := rfl
      rw [this]
      refine Nat.le_trans (ih _) ?_
      split
      · have := h1 x l; simp only [List.length_cons]; omega
      · simp only [List.length_cons]; omega
  unfold letL
  split
  · have := h2 f []; simpa [putAll] using this
  · simp
set_option maxHeartbeats 20000000 in
theorem fml_core {W : World} {A : Option Addr} {n c : Nat} (h8 : Code8 W A n) (hn : n ≤ 1048576) :
    Calls Try.prog 6 #[.slice A n c] W (fun e W' => e = .returned (.bool true) ∧ Below W.heap.size W W') := by
  obtain ⟨i0, hin, hz0, hz1, hz2⟩ := info_parts BoolS_info
  go_enter Try.func6, Try.ntmps6
  go_wp2_with fail
  refine (big_no hn).mono ?_
  rintro e w1 ⟨rfl, rfl⟩
  go_wp2_with fail
  refine (drawValue h8).mono ?_
  rintro e w1 ⟨f, L, Af, Al, cf, cl, hfl, hll, rfl, hfc, hcm, hrf, hrl, hb1⟩
  have hf : FO W Af Al f L w1 := ⟨hrf, hrl, hb1⟩
  have HFL := Lib.hid hfl
  have HLL := Lib.hid hll
  have HCC := Lib.hid (And.intro hfc hcm)
  clear hrf hrl hb1 hfl hll hfc hcm
  go_wp2_with fail
  refine (impNotOf_any (f := f) (c := cf) (Lib.hid rfl) (by have := HFL.out; omega) HCC.out.1 HCC.out.2 hf.f).mono ?_
  rintro e w2 ⟨vn, rfl, hrow, r⟩
  have hf2 := hf.new r
  obtain ⟨m, hm⟩ : ∃ m, (fmlL (f ++ [-1])).length = m := ⟨_, rfl⟩
  obtain ⟨An, cn, rfl, hrn, _, _⟩ := hrow.rd (n := m) (by rw [ivs_len, hm])
  have HM := Lib.hid hm
  clear hf r hrow hm
  obtain ⟨b, hb⟩ : ∃ b, isF f = b := ⟨_, rfl⟩
  have HB := Lib.hid hb
  clear hb
  have hbb : (b != b) = false := by cases b <;> rfl
  go_wp2_with fail
  refine (hf2.isf HB).mono ?_
  rintro e w3 ⟨rfl, r⟩
  have hf := hf2.new r
  have hrn3 := rd_new hrn r
  clear hf2 r hrn
  go_wp2_with fail
  refine (specIsFormula_any (f := f) (Lib.hid rfl) (by have := HFL.out; omega) hf.f).mono ?_
  rintro e w4 ⟨rfl, rfl⟩
  rw [HB.out]
  go_upto_region 7 with fail
  go_cut [49] from 30 to 49 (fun c wx => c = .bool false ∧ FO W Af Al f L wx)
  case first =>
    have HNT := Lib.hid (fml_not (f := f))
    obtain ⟨N, hN⟩ : ∃ N, N = fmlL (f ++ [-1]) := ⟨_, rfl⟩
    rw [← hN] at hrn3 HNT HM
    clear hN
    have HS : ∃ s : ByteArray, txV (txtF f) = .string s ∧ s.toList.isEmpty = !b := by
      cases hbv : b with
      | false =>
        rw [hbv] at HB
        rw [txt_no HB.out]
        exact ⟨⟨([] : List UInt8).toArray⟩, rfl, by rw [ByteArray.toList_mk]; rfl⟩
      | true =>
        rw [hbv] at HB
        obtain ⟨c, l, e⟩ := txt_ne HB.out
        rw [e]
        exact ⟨_, rfl, by rw [ByteArray.toList_mk]; rfl⟩
    obtain ⟨s, hs, hs1⟩ := HS
    have HTX := Lib.hid hs
    clear hs
    rcases HNT.out with rfl | ⟨rfl, hft, hval⟩
    · obtain rfl : m = 0 := HM.out.symm
      clear HNT HM
      cases b
      all_goals
        simp only [Bool.not_true, Bool.not_false] at hs1
        go_wp2_with (first
          | (go_at_call 29; refine (hf.isf HB).mono ?_; rintro e u3 ⟨rfl, r⟩; replace hf := hf.new r; clear r)
          | (go_at_call 32; refine (impFormulaText_any (f := f) (Lib.hid rfl) hf.f).mono ?_; rintro e u4 ⟨he, r⟩; rw [HTX.out] at he; subst he; replace hf := hf.new r; clear r))
        go_meet
        case rel => exact ⟨rfl, hf⟩
    · have hb1 : b = true := HB.out.symm.trans hft
      subst hb1
      have HV := Lib.hid (hval L)
      obtain ⟨v, hv⟩ : ∃ v, valB f L = v := ⟨_, rfl⟩
      have HV1 := Lib.hid hv
      have HV2 : Hid (valB (f ++ [-1]) L = !v) := Lib.hid (by rw [HV.out, hv])
      have hp : (0 : Int) < (m : Int) := by have := HM.out; rw [List.length_append] at this; simp at this; omega
      clear HNT hval HV hv hft
      simp only [Bool.not_true] at hs1
      cases v
      all_goals
        simp only [Bool.not_true, Bool.not_false] at HV2
        go_wp2_with (first
          | (go_at_call 31; refine (hf.val HM hrn3 HV2).mono ?_; rintro e u3 ⟨rfl, r⟩; replace hf := hf.new r; clear r)
          | (go_at_call 31; refine (hf.val (Lib.hid rfl) hf.f HV1).mono ?_; rintro e u3 ⟨rfl, r⟩; replace hf := hf.new r; clear r)
          | (go_at_call 29; refine (hf.isf HB).mono ?_; rintro e u3 ⟨rfl, r⟩; replace hf := hf.new r; clear r)
          | (go_at_call 32; refine (impFormulaText_any (f := f) (Lib.hid rfl) hf.f).mono ?_; rintro e u4 ⟨he, r⟩; rw [HTX.out] at he; subst he; replace hf := hf.new r; clear r))
        go_meet
        case rel => exact ⟨rfl, hf⟩
  case rest =>
    clear hf hrn3 HM
    obtain ⟨rfl, hf⟩ := hcut
    have h9 := h8.below hf.hb
    go_wp2_with fail
    refine (drawJoin h9).mono ?_
    rintro e w5 ⟨a, d, x, Aa, Ad, ca, cd, hal, hdl, rfl, hac, hacm, hdc, hdcm, hra, hrd, r⟩
    replace hf := hf.new r
    have HAL := Lib.hid hal
    have HDL := Lib.hid hdl
    have HAC := Lib.hid (And.intro hac hacm)
    have HDC := Lib.hid (And.intro hdc hdcm)
    clear r hal hdl hac hacm hdc hdcm h9
    go_wp2_with fail
    refine (impJoin_any (a := a) (b := d) (x := x) (Lib.hid rfl) (by have := HAL.out; omega) HAC.out.1 HAC.out.2 hra (Lib.hid rfl) (by have := HDL.out; omega) HDC.out.1 HDC.out.2 hrd).mono ?_
    rintro e w6 ⟨vj, rfl, hrow, r⟩
    obtain ⟨m, hm⟩ : ∃ m, (joinL a d x).length = m := ⟨_, rfl⟩
    obtain ⟨Aj, cj, rfl, hrj, _, _⟩ := hrow.rd (n := m) (by rw [ivs_len, hm])
    have HM := Lib.hid hm
    have HJ := Lib.hid (fml_join (a := a) (b := d) (x := x))
    obtain ⟨J, hJ⟩ : ∃ J, J = joinL a d x := ⟨_, rfl⟩
    rw [← hJ] at hrj HJ HM
    replace hf := hf.new r
    replace hra := rd_new hra r
    replace hrd := rd_new hrd r
    clear r hrow hm hJ
    have HEND : Hid (∀ wx, FO W Af Al f L wx → True) := Lib.hid (fun _ _ => trivial)
    rcases HJ.out with rfl | ⟨rfl, hx, hval⟩
    · obtain rfl : m = 0 := HM.out.symm
      go_wp2_with fail
      refine (impLettersIn_any (f := f) (Lib.hid rfl) (by have := HFL.out; omega) hf.f).mono ?_
      rintro e w8 ⟨vl, rfl, hrow, r⟩
      obtain ⟨Ag, cg, rfl, hg, _, _⟩ := hrow.rd (n := (letL f).length) (ivs_len _)
      replace hf := hf.new r
      clear r hrow
      have HLT := Lib.hid (letL_len f)
      have HAS := Lib.hid (letL_asc f)
      obtain ⟨G, hG⟩ : ∃ G, G = letL f := ⟨_, rfl⟩
      have HFLIP := Lib.hid (fun (k : Nat) (z : Bool) (q : isF f = true) (h : G.contains (k : Int) = false) => val_flip (L := L) (b := z) q (by rw [hG] at h; exact h))
      rw [← hG] at hg HLT HAS
      rw [← hG]
      have hll := HLL.out
      clear hG
      go_wp2_with fail
      go_loopw [14] (fun i wr => ∃ k : Nat, k ≤ L.length ∧ i = .int .i64 k ∧ FO W Af Al f L wr ∧ Rd wr wr.heap.size Ag (ivs G)) (fun i _ => L.length - (intOf i).toNat)
      case atStart => exact ⟨0, Nat.zero_le _, rfl, hf, hg⟩
      case round =>
        obtain ⟨k, hk, rfl, hd, hgr⟩ := hrel
        clear hf hg
        by_cases hlt : k < L.length
        · cases b with
          | false =>
            go_wp2_with fail
            refine (hd.isf HB).mono ?_
            rintro e u1 ⟨rfl, r⟩
            replace hd := hd.new r
            replace hgr := rd_new hgr r
            go_wp2_with fail
            refine (ascends_any (S := G) (Lib.hid rfl) (by have := HLT.out; have := HFL.out; omega) HAS.out hgr).mono ?_
            rintro e u2 ⟨rfl, r⟩
            replace hd := hd.new r
            go_wp2_with fail
            go_ret
            exact ⟨rfl, hd.hb⟩
          | true =>
            go_wp2_with fail
            refine (hd.isf HB).mono ?_
            rintro e u1 ⟨rfl, r⟩
            replace hd := hd.new r
            replace hgr := rd_new hgr r
            clear r
            have kA := alloc_new u1 (Obj.cells #[] 4)
            have row0 := Row.made (w := u1) u1.heap.size #[] 0 4 (Nat.le_refl _) rfl (Nat.zero_le _)
            have hla := rd_new hd.l kA
            have HO1 : Hid (∀ u ∈ bls L, u.oneCell' = true) := Lib.hid bls_one
            have HLn := Lib.hid (bls_len L)
            have L1 := Lib.hid (show ([] : List Value).length + L.length ≤ maxLen ∧ (([] : List Value).length + L.length) * 1 ≤ 140737488355328 by unfold maxLen; simp; omega)
            go_wp2_with (at_builtin; refine wpList_app rfl (.tmp 119) (.tmp 120) 51 rfl 4 i0 _ 1 Try.underlying51 hin hz0 hz1 hz2 rfl rfl rfl row0 HLn.out hla HO1.out L1.out.1 L1.out.2 (by simp) ?_; intro v1 w1 row1 ho1; rw [List.nil_append] at row1; obtain ⟨q, cq, rfl, hq0, hq1, hq2, hqc, hqm⟩ := row1.base_ (n := L.length) HLn.out (by omega); have kB := kA.trans (ho1.below (B := u1.heap.size) (Nat.le_refl _) (by simp)); have hc1 : w1.cell? ⟨q, k, none⟩ = some (.bool L[k]) := (by obtain ⟨ad, e, _, hc⟩ := bls_at row1.rd' hlt; injection e with e; subst e; rw [show (⟨q, 0, none⟩ : Addr).add k = ⟨q, k, none⟩ by unfold Addr.add; split <;> simp_all] at hc; exact hc); have fz := row1.froz (i := k); have j0 : (0 : Int) ≤ (k : Int) := (by omega); have j1 : (k : Int) < (L.length : Int) := (by omega))
            have row2 := row1.set_ (i := k) (v := .bool (!L[k]))
            rw [show (bls L).set k (.bool (!L[k])) = bls (L.set k (!L[k])) by simp [bls, List.map_set]] at row2
            have kC := kB.setCell (p := ⟨q, k, none⟩) hq0 (.bool (!L[k]))
            have hd2 := hd.new kC
            have hg2 := rd_new hgr kC
            have hro := row2.rd'.more (B' := (w1.setCell ⟨q, k, none⟩ (.bool (!L[k]))).heap.size) (by simp)
            have HSL := Lib.hid (show (L.set k (!L[k])).length = L.length by simp)
            obtain ⟨y, hy⟩ : ∃ y, valB f L = y := ⟨_, rfl⟩
            have HV1 := Lib.hid hy
            have HV2 : Hid (G.contains (k : Int) = false → valB f (L.set k (!L[k])) = y) := Lib.hid (fun h => by rw [HFLIP.out k _ HB.out h, hy])
            have hyy : (y != y) = false := by cases y <;> rfl
            obtain ⟨wz, hwz⟩ : ∃ wz, wz = w1.setCell ⟨q, k, none⟩ (.bool (!L[k])) := ⟨_, rfl⟩
            rw [← hwz] at hd2 hg2 hro
            have HWZ := Lib.hid hwz.symm
            obtain ⟨M, hM⟩ : ∃ M, M = L.set k (!L[k]) := ⟨_, rfl⟩
            rw [← hM] at hro HSL HV2
            clear row0 row1 row2 kA kB kC hc1 fz hd hgr hla ho1 hq0 hq1 hq2 hqc hqm hy hwz hM
            try rw [HWZ.out]
            refine (contains_any (S := G) (a := (k : Int)) (Lib.hid rfl) (by have := HLT.out; have := HFL.out; omega) hg2).mono ?_
            rintro e u3 ⟨rfl, rfl⟩
            cases hcon : G.contains (k : Int) with
            | true =>
              clear hcon
              go_wp2_with fail
              go_roundw
              case rel => exact ⟨k + 1, by omega, by go_num, hd2, hg2⟩
              case measure => simp [intOf]; omega
            | false =>
              have HV3 := Lib.hid (HV2.out hcon)
              clear hcon
              go_wp2_with fail
              refine (impValue_any (f := f) (L := M) (Lib.hid rfl) hd2.f HSL hro).mono ?_
              rintro e u4 ⟨he, r⟩
              rw [HV3.out] at he
              subst he
              replace hd2 := hd2.new r
              replace hg2 := rd_new hg2 r
              clear r hro
              go_wp2_with fail
              refine (hd2.val (Lib.hid rfl) hd2.f HV1).mono ?_
              rintro e u5 ⟨rfl, r⟩
              replace hd2 := hd2.new r
              replace hg2 := rd_new hg2 r
              clear r
              go_wp2_with fail
              go_roundw
              case rel => exact ⟨k + 1, by omega, by go_num, hd2, hg2⟩
              case measure => simp [intOf]; omega
        · have e : k = L.length := by omega
          subst e
          go_wp2_with fail
          refine (ascends_any (S := G) (Lib.hid rfl) (by have := HLT.out; have := HFL.out; omega) HAS.out hgr).mono ?_
          rintro e u2 ⟨rfl, r⟩
          replace hd := hd.new r
          go_wp2_with fail
          go_ret
          exact ⟨rfl, hd.hb⟩
    · have hp : (0 : Int) < (m : Int) := by have := HM.out; simp at this; omega
      have HV := Lib.hid (hval L)
      obtain ⟨v1, hv1⟩ : ∃ v, valB a L = v := ⟨_, rfl⟩
      obtain ⟨v2, hv2⟩ : ∃ v, valB d L = v := ⟨_, rfl⟩
      have H1 := Lib.hid hv1
      have H2 := Lib.hid hv2
      have H3 : Hid (valB (a ++ d ++ [x]) L = opB x v1 v2) := Lib.hid (by rw [HV.out, hv1, hv2])
      clear HJ hval HV hv1 hv2
      obtain ⟨v3, hv3⟩ : ∃ v, opB x v1 v2 = v := ⟨_, rfl⟩
      rw [hv3] at H3
      go_wp2_with fail
      refine (hf.val (Lib.hid rfl) hra H1).mono ?_
      rintro e u1 ⟨rfl, r⟩
      replace hf := hf.new r
      replace hrd := rd_new hrd r
      replace hrj := rd_new hrj r
      clear r hra
      go_wp2_with fail
      refine (hf.val (Lib.hid rfl) hrd H2).mono ?_
      rintro e u2 ⟨rfl, r⟩
      replace hf := hf.new r
      replace hrj := rd_new hrj r
      clear r hrd
      go_wp2_with fail
      refine (hf.val HM hrj H3).mono ?_
      rintro e u3 ⟨rfl, r⟩
      replace hf := hf.new r
      clear r hrj H1 H2 H3
      go_upto_region 13 with fail
      go_cut [106] from 72 to 106 (fun c wx => c = .bool false ∧ wx = u3)
      case first =>
        rcases hx with rfl | rfl | rfl
        all_goals
          cases v1 <;> cases v2
        all_goals
          (obtain rfl := hv3.symm
           go_wp2_with fail
           go_meet
           case rel => exact ⟨rfl, rfl⟩)
      case rest =>
        obtain ⟨rfl, rfl⟩ := hcut
        go_wp2_with fail
        refine (impLettersIn_any (f := f) (Lib.hid rfl) (by have := HFL.out; omega) hf.f).mono ?_
        rintro e w8 ⟨vl, rfl, hrow, r⟩
        obtain ⟨Ag, cg, rfl, hg, _, _⟩ := hrow.rd (n := (letL f).length) (ivs_len _)
        replace hf := hf.new r
        clear r hrow
        have HLT := Lib.hid (letL_len f)
        have HAS := Lib.hid (letL_asc f)
        obtain ⟨G, hG⟩ : ∃ G, G = letL f := ⟨_, rfl⟩
        have HFLIP := Lib.hid (fun (k : Nat) (z : Bool) (q : isF f = true) (h : G.contains (k : Int) = false) => val_flip (L := L) (b := z) q (by rw [hG] at h; exact h))
        rw [← hG] at hg HLT HAS
        rw [← hG]
        have hll := HLL.out
        clear hG
        go_wp2_with fail
        go_loopw [14] (fun i wr => ∃ k : Nat, k ≤ L.length ∧ i = .int .i64 k ∧ FO W Af Al f L wr ∧ Rd wr wr.heap.size Ag (ivs G)) (fun i _ => L.length - (intOf i).toNat)
        case atStart => exact ⟨0, Nat.zero_le _, rfl, hf, hg⟩
        case round =>
          obtain ⟨k, hk, rfl, hd, hgr⟩ := hrel
          clear hf hg
          by_cases hlt : k < L.length
          · cases b with
            | false =>
              go_wp2_with fail
              refine (hd.isf HB).mono ?_
              rintro e u1 ⟨rfl, r⟩
              replace hd := hd.new r
              replace hgr := rd_new hgr r
              go_wp2_with fail
              refine (ascends_any (S := G) (Lib.hid rfl) (by have := HLT.out; have := HFL.out; omega) HAS.out hgr).mono ?_
              rintro e u2 ⟨rfl, r⟩
              replace hd := hd.new r
              go_wp2_with fail
              go_ret
              exact ⟨rfl, hd.hb⟩
            | true =>
              go_wp2_with fail
              refine (hd.isf HB).mono ?_
              rintro e u1 ⟨rfl, r⟩
              replace hd := hd.new r
              replace hgr := rd_new hgr r
              clear r
              have kA := alloc_new u1 (Obj.cells #[] 4)
              have row0 := Row.made (w := u1) u1.heap.size #[] 0 4 (Nat.le_refl _) rfl (Nat.zero_le _)
              have hla := rd_new hd.l kA
              have HO1 : Hid (∀ u ∈ bls L, u.oneCell' = true) := Lib.hid bls_one
              have HLn := Lib.hid (bls_len L)
              have L1 := Lib.hid (show ([] : List Value).length + L.length ≤ maxLen ∧ (([] : List Value).length + L.length) * 1 ≤ 140737488355328 by unfold maxLen; simp; omega)
              go_wp2_with (at_builtin; refine wpList_app rfl (.tmp 119) (.tmp 120) 51 rfl 4 i0 _ 1 Try.underlying51 hin hz0 hz1 hz2 rfl rfl rfl row0 HLn.out hla HO1.out L1.out.1 L1.out.2 (by simp) ?_; intro v1 w1 row1 ho1; rw [List.nil_append] at row1; obtain ⟨q, cq, rfl, hq0, hq1, hq2, hqc, hqm⟩ := row1.base_ (n := L.length) HLn.out (by omega); have kB := kA.trans (ho1.below (B := u1.heap.size) (Nat.le_refl _) (by simp)); have hc1 : w1.cell? ⟨q, k, none⟩ = some (.bool L[k]) := (by obtain ⟨ad, e, _, hc⟩ := bls_at row1.rd' hlt; injection e with e; subst e; rw [show (⟨q, 0, none⟩ : Addr).add k = ⟨q, k, none⟩ by unfold Addr.add; split <;> simp_all] at hc; exact hc); have fz := row1.froz (i := k); have j0 : (0 : Int) ≤ (k : Int) := (by omega); have j1 : (k : Int) < (L.length : Int) := (by omega))
              have row2 := row1.set_ (i := k) (v := .bool (!L[k]))
              rw [show (bls L).set k (.bool (!L[k])) = bls (L.set k (!L[k])) by simp [bls, List.map_set]] at row2
              have kC := kB.setCell (p := ⟨q, k, none⟩) hq0 (.bool (!L[k]))
              have hd2 := hd.new kC
              have hg2 := rd_new hgr kC
              have hro := row2.rd'.more (B' := (w1.setCell ⟨q, k, none⟩ (.bool (!L[k]))).heap.size) (by simp)
              have HSL := Lib.hid (show (L.set k (!L[k])).length = L.length by simp)
              obtain ⟨y, hy⟩ : ∃ y, valB f L = y := ⟨_, rfl⟩
              have HV1 := Lib.hid hy
              have HV2 : Hid (G.contains (k : Int) = false → valB f (L.set k (!L[k])) = y) := Lib.hid (fun h => by rw [HFLIP.out k _ HB.out h, hy])
              have hyy : (y != y) = false := by cases y <;> rfl
              obtain ⟨wz, hwz⟩ : ∃ wz, wz = w1.setCell ⟨q, k, none⟩ (.bool (!L[k])) := ⟨_, rfl⟩
              rw [← hwz] at hd2 hg2 hro
              have HWZ := Lib.hid hwz.symm
              obtain ⟨M, hM⟩ : ∃ M, M = L.set k (!L[k]) := ⟨_, rfl⟩
              rw [← hM] at hro HSL HV2
              clear row0 row1 row2 kA kB kC hc1 fz hd hgr hla ho1 hq0 hq1 hq2 hqc hqm hy hwz hM
              try rw [HWZ.out]
              refine (contains_any (S := G) (a := (k : Int)) (Lib.hid rfl) (by have := HLT.out; have := HFL.out; omega) hg2).mono ?_
              rintro e u3 ⟨rfl, rfl⟩
              cases hcon : G.contains (k : Int) with
              | true =>
                clear hcon
                go_wp2_with fail
                go_roundw
                case rel => exact ⟨k + 1, by omega, by go_num, hd2, hg2⟩
                case measure => simp [intOf]; omega
              | false =>
                have HV3 := Lib.hid (HV2.out hcon)
                clear hcon
                go_wp2_with fail
                refine (impValue_any (f := f) (L := M) (Lib.hid rfl) hd2.f HSL hro).mono ?_
                rintro e u4 ⟨he, r⟩
                rw [HV3.out] at he
                subst he
                replace hd2 := hd2.new r
                replace hg2 := rd_new hg2 r
                clear r hro
                go_wp2_with fail
                refine (hd2.val (Lib.hid rfl) hd2.f HV1).mono ?_
                rintro e u5 ⟨rfl, r⟩
                replace hd2 := hd2.new r
                replace hg2 := rd_new hg2 r
                clear r
                go_wp2_with fail
                go_roundw
                case rel => exact ⟨k + 1, by omega, by go_num, hd2, hg2⟩
                case measure => simp [intOf]; omega
          · have e : k = L.length := by omega
            subst e
            go_wp2_with fail
            refine (ascends_any (S := G) (Lib.hid rfl) (by have := HLT.out; have := HFL.out; omega) HAS.out hgr).mono ?_
            rintro e u2 ⟨rfl, r⟩
            replace hd := hd.new r
            go_wp2_with fail
            go_ret
            exact ⟨rfl, hd.hb⟩
end Go.Proofs.Ytobghogkflgpeaa
