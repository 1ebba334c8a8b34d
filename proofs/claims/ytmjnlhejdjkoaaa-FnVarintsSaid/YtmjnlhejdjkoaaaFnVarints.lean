/- Proves the given statement of the law 'FnVarints': at every input that the statement admits, the law returns true and leaves its arguments as they were. Conditions: those of the given row, no other. -/
import Derived.Test.YtmjnlhejdjkoaaaRows
import Derived.Stop.LaidErr
import Derived.ChangeMaps5
import Derived.WalkKit
import Derived.ProofKit
import Derived.OpenShut
import Derived.Deep.DeepHandedRow
import Derived.Lib.LaidTab
import Derived.Deep.RegionHeld3
import Derived.Test.YtmjnlhejdjkoaaaBase
import Derived.Test.YtmjnlhejdjkoaaaDrawS
import Derived.Test.YtmjnlhejdjkoaaaSame
namespace Go.Proofs.Ytmjnlhejdjkoaaa.fnVarints
open Go.ChangeShapes Go.WideShapes Go.ChangeAt Go.RowKit
set_option linter.unusedVariables false
theorem own : ownKnob Try.prog.godebug = none := by kernel_rfl
theorem ucells : Try.prog.cellsOf 5 = 1 := by kernel_rfl
/-- What is held through the last statement: old memory is as it was; the cut still reads. -/
def HeldS (W w7 : World) (A : Option Addr) (xs : List Value) (w' : World) : Prop := Below W.heap.size W w' ∧ Rd w' w7.heap.size A xs ∧ w7.heap.size ≤ w'.heap.size ∧ W.heap.size ≤ w7.heap.size
section
variable {W w7 w w' : World} {A : Option Addr} {xs : List Value}
theorem HeldS.start (h1 : Below W.heap.size W w) (h2 : Rd w w.heap.size A xs) : HeldS W w A xs w.drew := ⟨h1.drew, h2, Nat.le_refl _, h1.size⟩
theorem HeldS.drew (h : HeldS W w7 A xs w) : HeldS W w7 A xs w.drew := ⟨h.1.drew, h.2.1, h.2.2.1, h.2.2.2⟩
theorem HeldS.call (h : HeldS W w7 A xs w) (hb : Below w.heap.size w w') : HeldS W w7 A xs w' :=
  ⟨h.1.trans (hb.mono h.1.size), h.2.1.keep (fun b hlt => hb.block b (Nat.lt_of_lt_of_le hlt h.2.2.1)), Nat.le_trans h.2.2.1 hb.size, h.2.2.2⟩
theorem HeldS.fin (h : HeldS W w7 A xs w) : Below W.heap.size W w := h.1
theorem HeldS.alloc (h : HeldS W w7 A xs w) (o : Obj) : HeldS W w7 A xs (w.alloc o) := h.call ((Below.refl _ _).alloc (Nat.le_refl _) _)
end
theorem rv_in {ys : List Int} {x : Int} (h0 : 0 ≤ x) (h1 : x ≤ 1000000000000) : rvAt (ys ++ uvr x) ys.length = some (x, (uvr x).length) := by
  have := rvAt_uvr ys [] x h0 h1
  rwa [List.append_nil] at this
set_option maxHeartbeats 4000000 in
set_option maxRecDepth 100000 in
theorem core {W : World} {A0 : Option Addr} {c0 n : Nat} (h8 : Code8 W A0 n) (hn : n ≤ 1048576) :
    Calls Try.prog 3 #[.slice A0 n c0] W (fun e W' => e = .returned (.bool true) ∧ Below W.heap.size W W') := by
  go_enter Try.func3, Try.ntmps3
  go_wp2_with fail
  refine (big_no hn).mono ?_
  rintro e w0 ⟨rfl, rfl⟩
  go_wp2_with fail
  refine (drawAU h8).mono ?_
  rintro e w1 ⟨ys, x, v, hyl, hyb, ⟨hx0, hx1⟩, rfl, hrow1, hb1⟩
  obtain ⟨A1, c1, rfl, hrd1, _, _⟩ := hrow1.rd (bvs_len ys)
  have HB := Lib.hid hyb
  clear hyb hrow1
  go_wp2_with fail
  refine (impAppendUvarint_any (Lib.hid rfl) (by omega) hrd1).mono ?_
  rintro e w2 ⟨v, rfl, hrow2, hb2⟩
  have hrd1 := hrd1.below hb2
  have s2 := hb2.size
  have hb2 := hb1.trans (hb2.mono hb1.size)
  obtain ⟨rs, hrs⟩ : ∃ rs, rs = ys ++ uvr x := ⟨_, rfl⟩
  rw [← hrs] at hrow2
  obtain ⟨A2, c2, rfl, hrd2, hcl2, hcm2⟩ := hrow2.rd (bvs_len rs)
  have hrl : rs.length ≤ 8 := by have := uvr_len x; rw [hrs, List.length_append]; omega
  have hrb : ∀ z ∈ rs, 0 ≤ z ∧ z ≤ 255 := by
    intro z hz
    rw [hrs, List.mem_append] at hz
    rcases hz with hz | hz
    · exact HB.out z hz
    · exact uvr_byte x z hz
  have C := impReadUvarint_any (o := (ys.length : Int)) (Lib.hid rfl) (by omega) hcl2 hrd2 hrb (by omega) (by omega)
  clear hrow2 hrb
  by_cases hin : 0 ≤ x ∧ x ≤ 1000000000000
  · obtain ⟨hin0, hin1⟩ := hin
    have C' : Calls Try.prog 15 #[.slice A2 rs.length c2, .int .i64 ys.length] w2 (fun e w' => e = .returned (.tuple #[.int .i64 x, .int .i64 (rs.length : Int), .bool true]) ∧ Below w2.heap.size w2 w') := by
      have h := rv_in (ys := ys) hin0 hin1
      rw [← hrs] at h
      rw [h] at C
      have hl : (rs.length : Int) = (ys.length : Int) + ((uvr x).length : Int) := by rw [hrs, List.length_append]; omega
      rw [hl]; exact C
    have HC := Lib.hid C'
    clear C C' hrs hrd2 hrd1
    go_wp2_with fail
    refine HC.out.mono ?_
    rintro e w3 ⟨rfl, hb3⟩
    have hb5 := hb2.trans (hb3.mono hb2.size)
    clear hb3 hb2 hb1 HC HB s2
    go_wp2_with fail
    refine (drawRU (h8.below hb5)).mono ?_
    rintro e w6 ⟨qs, o, v, hql, hqb, ⟨ho0, ho1⟩, rfl, hrow6, hb6⟩
    obtain ⟨A6, c6, rfl, hrd6, hcl6, hcm6⟩ := hrow6.rd (bvs_len qs)
    have hb7 := hb5.trans (hb6.mono hb5.size)
    have C := impReadUvarint_any (o := o) (Lib.hid rfl) (by omega) hcl6 hrd6 hqb ho0 ho1
    clear hrow6 hb6
    rcases hv : rvAt qs o with _ | ⟨m, j⟩
    · rw [hv] at C
      have C' : Calls Try.prog 15 #[.slice A6 qs.length c6, .int .i64 o] w6 (fun e w' => e = .returned (.tuple #[.int .i64 0, .int .i64 0, .bool false]) ∧ Below w6.heap.size w6 w') := C
      have HC := Lib.hid C'
      have HV := Lib.hid hv
      have HQ := Lib.hid hqb
      clear C C' hv hqb
      go_wp2_with fail
      refine HC.out.mono ?_
      rintro e w7 ⟨rfl, hb8⟩
      have C2 := specReadUvarint_any (c := c6) (o := o) (Lib.hid rfl) (by omega) ((hrd6.below hb8).more hb8.size) HQ.out ho0 ho1
      rw [HV.out] at C2
      have C2' : Calls Try.prog 18 #[.slice A6 qs.length c6, .int .i64 o] w7 (fun e w' => e = .returned (.tuple #[.int .i64 0, .int .i64 0, .bool false]) ∧ w7 = w') := C2
      have HC2 := Lib.hid C2'
      have hb9 := hb7.trans (hb8.mono hb7.size)
      clear C2 C2' HV HQ HC
      go_wp2_with fail
      refine HC2.out.mono ?_
      rintro e w8 ⟨rfl, rfl⟩
      go_wp2_with fail
      go_ret
      exact ⟨rfl, hb9⟩
    · obtain ⟨q1, q2, q3, q4, q5, q7, q6⟩ := uvr_rvAt qs o m j hqb hv
      obtain ⟨p, rfl⟩ := Int.eq_ofNat_of_zero_le q1
      rw [Int.toNat_natCast] at q3 q7
      obtain ⟨u, hu⟩ : ∃ u : Nat, u = p + j := ⟨_, rfl⟩
      rw [hv] at C
      have C' : Calls Try.prog 15 #[.slice A6 qs.length c6, .int .i64 p] w6 (fun e w' => e = .returned (.tuple #[.int .i64 m, .int .i64 (u : Int), .bool true]) ∧ Below w6.heap.size w6 w') := by
        rw [hu]; exact C
      have HC := Lib.hid C'
      have hpu : p < u := by omega
      have huq : u ≤ qs.length := by omega
      have hA : ∃ ad, A6 = some ad := by
        obtain ⟨ad, e, _⟩ := bvs_at hrd6 (k := 0) (by omega)
        exact ⟨ad, e⟩
      obtain ⟨ad, rfl⟩ := hA
      have hrc := hrd6.cut p j
      rw [bvs_cut, ← q7] at hrc
      have HJ := Lib.hid (show (uvr m).length = u - p by rw [q7, List.length_take, List.length_drop]; omega)
      clear C C' hv hqb q1 q3 q7 hu
      go_wp2_with fail
      refine HC.out.mono ?_
      rintro e w7 ⟨rfl, hb8⟩
      have hb9 := hb7.trans (hb8.mono hb7.size)
      have s8 := hb8.size
      have hrc := (hrc.below hb8).more s8
      clear HC hb8 hrd6
      go_wp2_with fail
      have hj0 : ¬ c6 - p = 0 := by omega
      have i1 : (0 : Int) ≤ (p : Int) := by omega
      have i2 : (p : Int) ≤ (u : Int) := by omega
      have i3 : (u : Int) ≤ (c6 : Int) := by omega
      have i4 : (u : Int) ≤ (qs.length : Int) := by omega
      have i5 : (0 : Int) ≤ (u : Int) := by omega
      have i6 : (p : Int) < (u : Int) := by omega
      go_region_held3 (fun w' => HeldS W w7 (some (ad.add p)) (bvs (uvr m)) w') (first | exact HeldS.start hb9 hrc | assumption | exact HeldS.drew ‹_› | exact HeldS.alloc ‹_› _)
        (first
          | (go_at_call 14; (refine (impAppendUvarint_any (zs := []) (n := 0) (Lib.hid rfl) (by omega) Rd.nil).mono ?_); (rintro e w9 ⟨v9, rfl, hrow9, hb10⟩); (rw [List.nil_append] at hrow9); (obtain ⟨A9, c9, rfl, hrd9, _, _⟩ := hrow9.rd (bvs_len (uvr m))); (have hk9 := HeldS.call ‹_› hb10))
          | (go_at_call 16; refine (sameBytes_any (zs := uvr m) (ys := uvr m) (Lib.hid rfl) HJ (by have := uvr_len m; omega) (by omega) hrd9 (hk9.2.1.more hk9.2.2.1)).mono ?_; rintro e w10 ⟨he, hb11⟩; rw [show decide (uvr m = uvr m) = true from decide_eq_true rfl] at he; subst he; have hk10 := HeldS.call hk9 hb11))
      all_goals
        go_wp2_with fail
        go_ret
        exact ⟨rfl, HeldS.fin ‹_›⟩
  · have hu : uvr x = [] := if_neg hin
    rw [hu, List.append_nil] at hrs
    subst hrs
    have C' : Calls Try.prog 15 #[.slice A2 rs.length c2, .int .i64 rs.length] w2 (fun e w' => e = .returned (.tuple #[.int .i64 0, .int .i64 0, .bool false]) ∧ Below w2.heap.size w2 w') := by
      rw [rvAt_end rs _ (Int.le_refl _)] at C
      exact C
    have HC := Lib.hid C'
    have hout : x < 0 ∨ 1000000000000 < x := by omega
    clear C C' hu hin
    go_wp2_with fail
    refine HC.out.mono ?_
    rintro e w3 ⟨rfl, hb3⟩
    have hb4 := hb2.trans (hb3.mono hb2.size)
    have hrd2 := hrd2.below hb3
    have hrd1 := hrd1.below (hb3.mono s2)
    have s3 := hb3.size
    clear hb3 hb2 hb1 HC HB
    rcases hout with hout | hout
    all_goals
      go_wp2_with fail
      refine (sameBytes_any (zs := rs) (ys := rs) (Lib.hid rfl) (Lib.hid rfl) (by omega) (by omega) (hrd2.more s3) (hrd1.more (by omega))).mono ?_
      rintro e w4 ⟨he, hb⟩
      rw [show decide (rs = rs) = true from decide_eq_true rfl] at he
      subst he
      have hb5 := hb4.trans (hb.mono hb4.size)
      clear hb hb4 hrd2 hrd1
      go_wp2_with fail
      refine (drawRU (h8.below hb5)).mono ?_
      rintro e w6 ⟨qs, o, v, hql, hqb, ⟨ho0, ho1⟩, rfl, hrow6, hb6⟩
      obtain ⟨A6, c6, rfl, hrd6, hcl6, hcm6⟩ := hrow6.rd (bvs_len qs)
      have hb7 := hb5.trans (hb6.mono hb5.size)
      have C := impReadUvarint_any (o := o) (Lib.hid rfl) (by omega) hcl6 hrd6 hqb ho0 ho1
      clear hrow6 hb6
      rcases hv : rvAt qs o with _ | ⟨m, j⟩
      · rw [hv] at C
        have C' : Calls Try.prog 15 #[.slice A6 qs.length c6, .int .i64 o] w6 (fun e w' => e = .returned (.tuple #[.int .i64 0, .int .i64 0, .bool false]) ∧ Below w6.heap.size w6 w') := C
        have HC := Lib.hid C'
        have HV := Lib.hid hv
        have HQ := Lib.hid hqb
        clear C C' hv hqb
        go_wp2_with fail
        refine HC.out.mono ?_
        rintro e w7 ⟨rfl, hb8⟩
        have C2 := specReadUvarint_any (c := c6) (o := o) (Lib.hid rfl) (by omega) ((hrd6.below hb8).more hb8.size) HQ.out ho0 ho1
        rw [HV.out] at C2
        have C2' : Calls Try.prog 18 #[.slice A6 qs.length c6, .int .i64 o] w7 (fun e w' => e = .returned (.tuple #[.int .i64 0, .int .i64 0, .bool false]) ∧ w7 = w') := C2
        have HC2 := Lib.hid C2'
        have hb9 := hb7.trans (hb8.mono hb7.size)
        clear C2 C2' HV HQ HC
        go_wp2_with fail
        refine HC2.out.mono ?_
        rintro e w8 ⟨rfl, rfl⟩
        go_wp2_with fail
        go_ret
        exact ⟨rfl, hb9⟩
      · obtain ⟨q1, q2, q3, q4, q5, q7, q6⟩ := uvr_rvAt qs o m j hqb hv
        obtain ⟨p, rfl⟩ := Int.eq_ofNat_of_zero_le q1
        rw [Int.toNat_natCast] at q3 q7
        obtain ⟨u, hu⟩ : ∃ u : Nat, u = p + j := ⟨_, rfl⟩
        rw [hv] at C
        have C' : Calls Try.prog 15 #[.slice A6 qs.length c6, .int .i64 p] w6 (fun e w' => e = .returned (.tuple #[.int .i64 m, .int .i64 (u : Int), .bool true]) ∧ Below w6.heap.size w6 w') := by
          rw [hu]; exact C
        have HC := Lib.hid C'
        have hpu : p < u := by omega
        have huq : u ≤ qs.length := by omega
        have hA : ∃ ad, A6 = some ad := by
          obtain ⟨ad, e, _⟩ := bvs_at hrd6 (k := 0) (by omega)
          exact ⟨ad, e⟩
        obtain ⟨ad, rfl⟩ := hA
        have hrc := hrd6.cut p j
        rw [bvs_cut, ← q7] at hrc
        have HJ := Lib.hid (show (uvr m).length = u - p by rw [q7, List.length_take, List.length_drop]; omega)
        clear C C' hv hqb q1 q3 q7 hu
        go_wp2_with fail
        refine HC.out.mono ?_
        rintro e w7 ⟨rfl, hb8⟩
        have hb9 := hb7.trans (hb8.mono hb7.size)
        have s8 := hb8.size
        have hrc := (hrc.below hb8).more s8
        clear HC hb8 hrd6
        go_wp2_with fail
        have hj0 : ¬ c6 - p = 0 := by omega
        have i1 : (0 : Int) ≤ (p : Int) := by omega
        have i2 : (p : Int) ≤ (u : Int) := by omega
        have i3 : (u : Int) ≤ (c6 : Int) := by omega
        have i4 : (u : Int) ≤ (qs.length : Int) := by omega
        have i5 : (0 : Int) ≤ (u : Int) := by omega
        have i6 : (p : Int) < (u : Int) := by omega
        go_region_held3 (fun w' => HeldS W w7 (some (ad.add p)) (bvs (uvr m)) w') (first | exact HeldS.start hb9 hrc | assumption | exact HeldS.drew ‹_› | exact HeldS.alloc ‹_› _)
          (first
            | (go_at_call 14; (refine (impAppendUvarint_any (zs := []) (n := 0) (Lib.hid rfl) (by omega) Rd.nil).mono ?_); (rintro e w9 ⟨v9, rfl, hrow9, hb10⟩); (rw [List.nil_append] at hrow9); (obtain ⟨A9, c9, rfl, hrd9, _, _⟩ := hrow9.rd (bvs_len (uvr m))); (have hk9 := HeldS.call ‹_› hb10))
            | (go_at_call 16; refine (sameBytes_any (zs := uvr m) (ys := uvr m) (Lib.hid rfl) HJ (by have := uvr_len m; omega) (by omega) hrd9 (hk9.2.1.more hk9.2.2.1)).mono ?_; rintro e w10 ⟨he, hb11⟩; rw [show decide (uvr m = uvr m) = true from decide_eq_true rfl] at he; subst he; have hk10 := HeldS.call hk9 hb11))
        all_goals
          go_wp2_with fail
          go_ret
          exact ⟨rfl, HeldS.fin ‹_›⟩
theorem contract (H : Type) (enc : TypeId × Value → H) (W : World) (base : Nat) (args : Array Value) (ds gs : List (DataW H)) (before : List MemPlace)
    (hval : ∀ (j : Nat) t v, Try.f3.params[j]? = some t → args[j]? = some v → Value.okWide Try.prog W .any base t v)
    (hW : DataW.Whole enc Try.prog Try.f3.params.toList Rows.fnVarintsSpec.vars false W args.toList ds gs before) (hL : laidMetH Try.prog Rows.fnVarintsRow.laid W)
    (hreach : (DataW.weightsEach Try.prog (Try.f3.params.toList ++ (OpenSpec.ofChange Rows.fnVarintsSpec).bare.plain.varTypes Try.prog) (ds ++ gs)).all (· ≤ reachBytes) = true) :
    Calls Try.prog 3 args W fun e W' => ∃ v, e = .returned v ∧ Rows.fnVarintsSpec.post enc Try.prog Try.f3 false true false false W args v W' := by
  have hW' := hW
  obtain ⟨p, q, hA0, hV, rfl, hfz, hnd⟩ := hW
  have hA : DataW.TrodAll enc Try.prog W 0 (fun _ => true) true Try.f3.params.toList args.toList ds p := hA0
  rw [Try.params3] at hA hval
  obtain ⟨v0, vs0, d0, ds0, p0, q0, hargs, rfl, rfl, h0, r0⟩ := trodAll_cons hA
  obtain ⟨rfl, rfl, rfl⟩ := trodAll_nil r0
  obtain rfl : args = #[v0] := by cases args; simp_all
  obtain ⟨rfl, rfl⟩ := trodVars_none hV
  obtain ⟨A0, c0, z0, rfl, R0, hc0, hm0, hb0⟩ := slice_open Try.underlying22 Try.underlying5 (by kernel_rfl : Try.prog.cellsOf 5 = 1) (hval 0 22 v0 rfl rfl) h0
  clear hA0 hval
  have walked : Calls Try.prog 3 #[.slice A0 z0.length c0] W fun e W' => e = .returned (.bool true) ∧ Below W.heap.size W W' := by
    by_cases hbig : 1048576 < z0.length
    · go_enter Try.func3, Try.ntmps3
      go_wp2_with (go_at_call 12; refine (big_yes hbig).mono ?_; rintro e w1 ⟨rfl, rfl⟩)
      go_ret
      exact ⟨rfl, Below.refl _ _⟩
    exact core (code8_of_rd R0 hb0 (by omega)) (by omega)
  refine walked.mono fun e W' ⟨he, hb⟩ => ?_
  exact ⟨_, he, post_true (tb := 4) hW' rfl Try.underlying4 rfl rfl (by kernel_rfl) (by kernel_rfl) hb⟩
noncomputable def laidWorld (os : Os) : World := World.holding Try.prog os ⟨#[], #[], []⟩
theorem laid_met (os : Os) : laidMet Try.prog Rows.fnVarintsRow.laid ((laidWorld os).forCall (fun _ _ => 0) ⟨#[], #[Value.slice none 0 0], []⟩).memory :=
  laidMet_of_run' 8 (by kernel_rfl) (by kernel_rfl)
theorem reads (os : Os) {H : Type} (enc : TypeId × Value → H) : ∃ places, DataW.whole enc Try.prog ((laidWorld os).forCall (fun _ _ => 0) ⟨#[], #[Value.slice none 0 0], []⟩).memory Try.f3.params.toList Rows.fnVarintsSpec.vars false (#[Value.slice none 0 0]).toList 8 = some ([.nil], [], places) :=
  ⟨[], by kernel_rfl⟩
set_option maxRecDepth 100000 in
theorem lifted (os : Os) (started : os.Started) (H : Type) (enc : TypeId × Value → H) (F : Stop.Interp) :
    ReturnsInHanded {} Try.checked os 3 .any ((OpenSpec.ofChange Rows.fnVarintsSpec).preRow enc Try.prog Try.f3 Rows.fnVarintsRow.domain false Rows.fnVarintsRow.laid) (((OpenSpec.ofChange Rows.fnVarintsSpec).at F).post enc Try.prog Try.f3 false true false false) := by
  obtain ⟨places, hx⟩ := reads os enc
  refine returnsInHanded_of_row (C := Try.checked) (s := (OpenSpec.ofChange Rows.fnVarintsSpec)) own started (by kernel_rfl) Try.func3
    (witness_row_at (enc := enc) (C := Try.checked) false (laidWorld os) #[Value.slice none 0 0] rfl (by kernel_rfl) (by kernel_rfl) (by kernel_rfl)
      (OpenSpec.preRow_of_cond 8 hx (by kernel_rfl) (fun k hk => by cases hk) (by kernel_rfl) (laid_met os))) ?_
  intro W base args ds gs before hval hW _ hcond hreach hL _ _
  exact contract H enc W base args ds gs before hval hW hL hreach
theorem said : Rows.FnVarintsSaid :=
  OpenClaim.holds_of_cond 3 Try.f3 rfl rfl rfl rfl rfl rfl rfl ⟨rfl, rfl, rfl, rfl, rfl⟩ rfl rfl rfl rfl rfl (by kernel_rfl) Try.func3 (by kernel_rfl)
    (of_decide_eq_true (by kernel_rfl)) (by unfold Func.isWrapper; first | (rw [if_pos (by decide +kernel)]; kernel_rfl) | (rw [if_neg (by decide +kernel)]; exact ⟨rfl, rfl⟩))
    (fun os started H enc _ F => by rw [OpenClaim.pre_eq_preRow]; exact lifted os started H enc F)
#print axioms said
end Go.Proofs.Ytmjnlhejdjkoaaa.fnVarints
