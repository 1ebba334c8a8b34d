/- Proves the given statement of the law 'FnByteStrings': at every input that the statement admits, the law returns true and leaves its arguments as they were. Conditions: those of the given row, no other. -/
import Derived.Test.YtmjnlhejdjkoaaaRows
import Derived.Stop.LaidErr
import Derived.ChangeMaps5
import Derived.WalkKit
import Derived.ProofKit
import Derived.OpenShut
import Derived.Deep.DeepHandedRow
import Derived.Lib.LaidTab
import Derived.Test.YtmjnlhejdjkoaaaBase
import Derived.Test.YtmjnlhejdjkoaaaDrawS
import Derived.Test.YtmjnlhejdjkoaaaSame
import Derived.Test.YtmjnlhejdjkoaaaDec
namespace Go.Proofs.Ytmjnlhejdjkoaaa.fnByteStrings
open Go.ChangeShapes Go.WideShapes Go.ChangeAt Go.RowKit
set_option linter.unusedVariables false
theorem own : ownKnob Try.prog.godebug = none := by kernel_rfl
theorem ucells : Try.prog.cellsOf 5 = 1 := by kernel_rfl
theorem rb_fact (ys zs : List Int) (most : Int) (hz : zs.length ≤ 1000) : rbAt (ys ++ uvr zs.length ++ zs) ys.length most = if most < (zs.length : Int) then none else some (zs, ((ys ++ uvr zs.length ++ zs).length : Int)) := by
  have h := rvAt_uvr ys zs zs.length (by omega) (by omega)
  rw [← List.append_assoc] at h
  unfold rbAt
  rw [h]
  simp only []
  by_cases hm : most < (zs.length : Int)
  · rw [if_pos (.inl hm), if_pos hm]
  · rw [if_neg, if_neg hm]
    · rw [Int.toNat_natCast, Int.toNat_natCast, List.append_assoc, show ys.length + (uvr zs.length).length = (ys ++ uvr zs.length).length by rw [List.length_append], ← List.append_assoc, List.drop_left, List.take_of_length_le (Nat.le_refl _)]
      congr 2
      simp only [List.length_append]
      omega
    · rintro (h1 | h1)
      · exact hm h1
      · simp only [List.length_append] at h1; omega
theorem de_fact (ls : List Int) (hl : ∀ x ∈ ls, 0 ≤ x ∧ x ≤ 1000000000000) (hn : ls.length ≤ 90) : deAt (encs ls) 0 (ls.length : Int) = some (ls, ((encs ls).length : Int)) ∧ deAt (encs ls) 0 ((ls.length : Int) + 1) = none := by
  have h := decAt_encs (encs ls) [] ls [] hl (by simp [encs])
  simp only [encs_nil, List.length_nil] at h
  constructor
  · unfold deAt
    rw [if_pos (by omega), Int.toNat_natCast]
    simpa using h
  · unfold deAt
    rw [if_pos (by omega), show ((ls.length : Int) + 1).toNat = ls.length + 1 by omega]
    exact decAt_more ls hl
theorem mul3 {a b c : Int} (a0 : 0 ≤ a) (a1 : a ≤ 255) (b0 : 0 ≤ b) (b1 : b ≤ 255) (c0 : 0 ≤ c) (c1 : c ≤ 255) : (0 ≤ a * b ∧ a * b ≤ 65025) ∧ 0 ≤ a * b * c ∧ a * b * c ≤ 16581375 := by
  have h1 := Int.mul_nonneg a0 b0
  have h2 : a * b ≤ 255 * 255 := by
    have := Int.mul_le_mul_of_nonneg_right a1 b0
    omega
  have h3 := Int.mul_nonneg h1 c0
  have h4 : a * b * c ≤ 65025 * c := Int.mul_le_mul_of_nonneg_right (by omega) c0
  omega
theorem nums_snoc {ys : List Int} {x : Int} (h : ∀ y ∈ ys, 0 ≤ y ∧ y ≤ 1000000000000) (hx : 0 ≤ x ∧ x ≤ 1000000000000) : ∀ y ∈ ys ++ [x], 0 ≤ y ∧ y ≤ 1000000000000 := by
  intro y hy
  rw [List.mem_append, List.mem_singleton] at hy
  rcases hy with hy | rfl
  · exact h y hy
  · exact hx
def AtB (w : World) (e : Ending) (w' : World) : Prop := ∃ x : Int, (0 ≤ x ∧ x ≤ 255) ∧ e = .returned (.int .i64 x) ∧ w = w'
theorem at_any {w : World} {A : Option Addr} {n c k : Nat} (h : Code8 w A n) (hn : n ≤ 1048576) (hk : k ≤ 1000) :
    Calls Try.prog 22 #[.slice A n c, .int .i64 k] w (AtB w) := by
  by_cases hlt : k < n
  · obtain ⟨a, rfl, ha, hc⟩ := h.code (by omega)
    obtain ⟨z, z0, z1, hz⟩ := hc k hlt
    clear h hc
    go_enter Try.func22, Try.ntmps22
    go_wp2
    go_ret
    exact ⟨z, ⟨z0, z1⟩, rfl, rfl⟩
  · clear h
    go_enter Try.func22, Try.ntmps22
    go_wp2
    go_ret
    exact ⟨_, ⟨Int.emod_nonneg _ (by omega), by have := Int.emod_lt_of_pos ((k : Int) * 31 + (n : Int) * 7) (show (0 : Int) < 256 by omega); omega⟩, rfl, rfl⟩
theorem at_int {w : World} {A : Option Addr} {n c : Nat} {i : Int} (h : Code8 w A n) (hn : n ≤ 1048576) (h0 : 0 ≤ i) (h1 : i ≤ 1000) :
    Calls Try.prog 22 #[.slice A n c, .int .i64 i] w (AtB w) := by
  obtain ⟨k, rfl⟩ := Int.eq_ofNat_of_zero_le h0
  exact at_any h hn (by omega)
set_option maxHeartbeats 4000000 in
set_option maxRecDepth 100000 in
theorem core {W : World} {A0 : Option Addr} {c0 n : Nat} (h8 : Code8 W A0 n) (hn : n ≤ 1048576) :
    Calls Try.prog 4 #[.slice A0 n c0] W (fun e W' => e = .returned (.bool true) ∧ Below W.heap.size W W') := by
  obtain ⟨i0, hi, hz0, hz1, hz2⟩ := info_parts IntS_info
  go_enter Try.func4, Try.ntmps4
  go_wp2_with fail
  refine (big_no hn).mono ?_
  rintro e w0 ⟨rfl, rfl⟩
  go_wp2_with fail
  refine (drawAB h8).mono ?_
  rintro e w1 ⟨ys, zs, v, v', M, hyl, hzl, hyb, hzb, rfl, hM1, hM2, hrow1, hrow2, hb1⟩
  obtain ⟨A1, c1, rfl, hrd1, _, _⟩ := hrow1.rd (bvs_len ys)
  obtain ⟨A2, c2, rfl, hrd2, _, _⟩ := hrow2.rd (bvs_len zs)
  have hrd1 := hrd1.more hM2
  clear hrow1 hrow2
  have H1 := Lib.hid hyb
  have H2 := Lib.hid hzb
  clear hyb hzb
  go_wp2_with fail
  refine (impAppendBytes_any (Lib.hid rfl) (Lib.hid rfl) (by omega) (by omega) hrd1 hrd2).mono ?_
  rintro e w2 ⟨v, rfl, hrow3, hb2⟩
  have F1 := rb_fact ys zs zs.length (by omega)
  have F2 := rb_fact ys zs ((zs.length : Int) - 1) (by omega)
  rw [if_neg (by omega)] at F1
  rw [if_pos (by omega)] at F2
  have hrl : (ys ++ uvr zs.length ++ zs).length ≤ 13 := by have := uvr_len zs.length; simp only [List.length_append]; omega
  have hrb : ∀ z ∈ ys ++ uvr zs.length ++ zs, 0 ≤ z ∧ z ≤ 255 := by
    intro z hz
    rw [List.mem_append, List.mem_append] at hz
    rcases hz with (hz | hz) | hz
    · exact H1.out z hz
    · exact uvr_byte _ z hz
    · exact H2.out z hz
  obtain ⟨rs, hrs⟩ : ∃ rs, rs = ys ++ uvr zs.length ++ zs := ⟨_, rfl⟩
  rw [← hrs] at hrow3 F1 F2 hrl hrb
  obtain ⟨A3, c3, rfl, hrd3, hcl3, hcm3⟩ := hrow3.rd (bvs_len rs)
  have hrd2 := (hrd2.below hb2).more hb2.size
  have hb3 := hb1.trans (hb2.mono hb1.size)
  have C1 := impReadBytes_some (Lib.hid rfl) (by omega) hcl3 hcm3 hrd3 hrb (by omega) (by omega) F1
  have G1 := Lib.hid C1
  have G2 := Lib.hid F2
  have G3 := Lib.hid hrb
  clear C1 F1 F2 hrs hrow3 hrb hb1 hb2 hrd1 hM1 hM2 H1 H2
  go_wp2_with fail
  refine G1.out.mono ?_
  rintro e w4 ⟨v, rfl, hrow4, hb4⟩
  obtain ⟨A4, c4, rfl, hrd4, _, _⟩ := hrow4.rd (bvs_len zs)
  have hrd2 := (hrd2.below hb4).more hb4.size
  have hrd3 := (hrd3.below hb4).more hb4.size
  have hb5 := hb3.trans (hb4.mono hb3.size)
  clear hb3 hb4 hrow4 G1
  go_wp2_with fail
  refine (impReadBytes_none (Lib.hid rfl) (by omega) hcl3 hrd3 G3.out (by omega) (by omega) G2.out).mono ?_
  rintro e w5 ⟨v, rfl, hrow5, hb6⟩
  obtain ⟨A5, c5, rfl, _, _, _⟩ := hrow5.rd (bvs_len [])
  have hrd2 := (hrd2.below hb6).more hb6.size
  have hrd4 := (hrd4.below hb6).more hb6.size
  have hb7 := hb5.trans (hb6.mono hb5.size)
  clear hb5 hb6 hrow5 G2 G3 hrd3
  go_wp2_with fail
  refine (sameBytes_any (zs := zs) (ys := zs) (Lib.hid rfl) (Lib.hid rfl) (by omega) (by omega) hrd4 hrd2).mono ?_
  rintro e w6 ⟨he, hb⟩
  rw [show decide (zs = zs) = true from decide_eq_true rfl] at he
  subst he
  have hb8 := hb7.trans (hb.mono hb7.size)
  clear hb hb7 hrd4 hrd2
  have hrow0 := Row.made (w := w6) w6.heap.size #[] 0 3 (Nat.le_refl _) rfl (Nat.zero_le _)
  have hb9 : Below w6.heap.size w6 (w6.alloc (Obj.cells #[] 3)) := (Below.refl _ _).alloc (Nat.le_refl _) _
  go_wp2_with fail
  have hb10 := hb8.trans (hb9.mono hb8.size)
  have hWs := hb8.size
  clear hb8
  go_loopw [12, 13] (fun b i wr => ∃ (k : Nat) (ls : List Int), k ≤ 5 ∧ i = .int .i64 k ∧ Hid (ls.length = k) ∧ Hid (∀ x ∈ ls, 0 ≤ x ∧ x ≤ 1000000000000) ∧ Row wr w6.heap.size wr.heap.size 3 b (ivs ls) ∧ Below w6.heap.size w6 wr ∧ Below W.heap.size W wr) (fun _ i _ => 6 - (intOf i).toNat)
  case atStart => exact ⟨0, [], by omega, rfl, Lib.hid rfl, Lib.hid (by simp), hrow0.wide (Nat.le_refl _) (by simp), hb9, hb10⟩
  case round =>
    obtain ⟨k, ls, hk, rfl, hll, hlb, hrow, hw6, hW⟩ := hrel
    have h8' := h8.below hW
    have s6 := hw6.size
    clear hrow0 hb9 hb10
    go_wp2_with fail
    refine (at_int h8' hn (by omega) (by omega)).mono ?_
    rintro e w7 ⟨x, ⟨hx0, hx1⟩, rfl, rfl⟩
    by_cases hlt : (k : Int) < x % 6
    · go_wp2_with fail
      refine (at_int h8' hn (by omega) (by omega)).mono ?_
      rintro e w7 ⟨a, ⟨ha0, ha1⟩, rfl, rfl⟩
      go_wp2_with fail
      refine (at_int h8' hn (by omega) (by omega)).mono ?_
      rintro e w7 ⟨b, ⟨hb0, hb1⟩, rfl, rfl⟩
      go_wp2_with fail
      refine (at_int h8' hn (by omega) (by omega)).mono ?_
      rintro e w7 ⟨d, ⟨hd0, hd1⟩, rfl, rfl⟩
      obtain ⟨⟨m0, m1⟩, m2, m3⟩ := mul3 ha0 ha1 hb0 hb1 hd0 hd1
      have wa := IntWalk.wrap64_in (a * b) ⟨by omega, by omega⟩
      have wb := IntWalk.wrap64_in (a * b * d) ⟨by omega, by omega⟩
      have hbl : Below wr.heap.size wr (wr.alloc (Obj.cells #[Value.int .i64 (a * b * d)] 3)) := (Below.refl _ _).alloc (Nat.le_refl _) _
      have hrow2 := hrow.new hbl
      have hmade := Rd.made wr #[Value.int .i64 (a * b * d)] 3
      have L : (ivs ls).length + 1 ≤ maxLen ∧ ((ivs ls).length + 1) * 8 ≤ 140737488355328 := by rw [ivs_len, hll.out]; unfold maxLen; omega
      have L1 := Lib.hid L
      clear L
      go_wp2_with (first
        | (at_builtin; refine wpList_app rfl (.tmp 77) (.tmp 92) 35 rfl 3 i0 _ 8 Try.underlying35 hi hz0 hz1 hz2 rfl rfl rfl hrow2 rfl hmade (by simp [Value.oneCell']) L1.out.1 L1.out.2 (by simp; omega) ?_; intro v1 w8 hrow8 ho8))
      have s8 := ho8.size
      have hx8 : Below w6.heap.size wr w8 := (hbl.mono (by omega)).trans (ho8.below (Nat.le_refl _) (by simp; omega))
      have sW := hW.size
      go_roundw
      case rel => exact ⟨k + 1, ls ++ [a * b * d], by omega, by go_num, Lib.hid (by simp [hll.out]), Lib.hid (nums_snoc hlb.out ⟨m2, by omega⟩), by rw [← ivs_snoc]; exact hrow8, hw6.trans hx8, hW.trans (hx8.mono hWs)⟩
      case measure => simp [intOf]; omega
    · obtain ⟨A7, c7, rfl, hrd7, _, _⟩ := hrow.rd (ivs_len ls)
      go_wp2_with fail
      refine (impEncodeInts_any (Lib.hid rfl) (by have := hll.out; omega) hrd7).mono ?_
      rintro e w9 ⟨v, rfl, hrow9, hb11⟩
      obtain ⟨F1, F2⟩ := de_fact ls hlb.out (by have := hll.out; omega)
      have hel := encs_len ls
      rw [hll.out] at hel
      have hen := encs_byte ls
      obtain ⟨es, hes⟩ : ∃ es, es = encs ls := ⟨_, rfl⟩
      rw [← hes] at F1 F2 hel hen hrow9
      obtain ⟨A9, c9, rfl, hrd9, hcl9, _⟩ := hrow9.rd (bvs_len es)
      have hrd7 := (hrd7.below hb11).more hb11.size
      have hW9 := hW.trans (hb11.mono hW.size)
      have hln : ls.length ≤ 5 := by rw [hll.out]; exact hk
      have C : Calls Try.prog 24 #[.slice A9 es.length c9, .int .i64 0, .int .i64 ls.length] w9 (Fresh3 3 (ivs ls) (.int .i64 es.length) (.bool true) w9) :=
        impDecodeInts_any (Lib.hid rfl) (by omega) hcl9 hrd9 hen F1
      have G1 := Lib.hid C
      have G2 := Lib.hid F2
      have G3 := Lib.hid hen
      clear C F1 F2 hes hen hrow9 hb11 hll hlb hrow hW hw6 h8 h8'
      go_wp2_with fail
      refine G1.out.mono ?_
      rintro e w10 ⟨v, rfl, hrow10, hb12⟩
      obtain ⟨A10, c10, rfl, hrd10, _, _⟩ := hrow10.rd (ivs_len ls)
      have hrd7 := (hrd7.below hb12).more hb12.size
      have hrd9 := (hrd9.below hb12).more hb12.size
      have hW10 := hW9.trans (hb12.mono hW9.size)
      have C : Calls Try.prog 24 #[.slice A9 es.length c9, .int .i64 0, .int .i64 ((ls.length : Int) + 1)] w10 (Fresh3 3 (ivs []) (.int .i64 0) (.bool false) w10) :=
        impDecodeInts_any (Lib.hid rfl) (by omega) hcl9 hrd9 G3.out G2.out
      have G4 := Lib.hid C
      clear C hrow10 hb12 hrd9 G1 G2 G3 hW9
      go_wp2_with fail
      refine G4.out.mono ?_
      rintro e w11 ⟨v, rfl, hrow11, hb13⟩
      obtain ⟨A11, c11, rfl, _, _, _⟩ := hrow11.rd (ivs_len [])
      have hrd7 := (hrd7.below hb13).more hb13.size
      have hrd10 := (hrd10.below hb13).more hb13.size
      have hW11 := hW10.trans (hb13.mono hW10.size)
      clear hrow11 hb13 G4 hW10
      go_wp2_with fail
      refine (sameInts_any (zs := ls) (ys := ls) (Lib.hid rfl) (Lib.hid rfl) (by omega) (by omega) hrd10 hrd7).mono ?_
      rintro e w12 ⟨he, hb14⟩
      rw [show decide (ls = ls) = true from decide_eq_true rfl] at he
      subst he
      have hW12 := hW11.trans (hb14.mono hW11.size)
      clear hb14 hW11
      go_wp2_with fail
      go_ret
      exact ⟨rfl, hW12⟩
theorem contract (H : Type) (enc : TypeId × Value → H) (W : World) (base : Nat) (args : Array Value) (ds gs : List (DataW H)) (before : List MemPlace)
    (hval : ∀ (j : Nat) t v, Try.f4.params[j]? = some t → args[j]? = some v → Value.okWide Try.prog W .any base t v)
    (hW : DataW.Whole enc Try.prog Try.f4.params.toList Rows.fnByteStringsSpec.vars false W args.toList ds gs before) (hL : laidMetH Try.prog Rows.fnByteStringsRow.laid W)
    (hreach : (DataW.weightsEach Try.prog (Try.f4.params.toList ++ (OpenSpec.ofChange Rows.fnByteStringsSpec).bare.plain.varTypes Try.prog) (ds ++ gs)).all (· ≤ reachBytes) = true) :
    Calls Try.prog 4 args W fun e W' => ∃ v, e = .returned v ∧ Rows.fnByteStringsSpec.post enc Try.prog Try.f4 false true false false W args v W' := by
  have hW' := hW
  obtain ⟨p, q, hA0, hV, rfl, hfz, hnd⟩ := hW
  have hA : DataW.TrodAll enc Try.prog W 0 (fun _ => true) true Try.f4.params.toList args.toList ds p := hA0
  rw [Try.params4] at hA hval
  obtain ⟨v0, vs0, d0, ds0, p0, q0, hargs, rfl, rfl, h0, r0⟩ := trodAll_cons hA
  obtain ⟨rfl, rfl, rfl⟩ := trodAll_nil r0
  obtain rfl : args = #[v0] := by cases args; simp_all
  obtain ⟨rfl, rfl⟩ := trodVars_none hV
  obtain ⟨A0, c0, z0, rfl, R0, hc0, hm0, hb0⟩ := slice_open Try.underlying22 Try.underlying5 (by kernel_rfl : Try.prog.cellsOf 5 = 1) (hval 0 22 v0 rfl rfl) h0
  clear hA0 hval
  have walked : Calls Try.prog 4 #[.slice A0 z0.length c0] W fun e W' => e = .returned (.bool true) ∧ Below W.heap.size W W' := by
    by_cases hbig : 1048576 < z0.length
    · go_enter Try.func4, Try.ntmps4
      go_wp2_with (go_at_call 12; refine (big_yes hbig).mono ?_; rintro e w1 ⟨rfl, rfl⟩)
      go_ret
      exact ⟨rfl, Below.refl _ _⟩
    exact core (code8_of_rd R0 hb0 (by omega)) (by omega)
  refine walked.mono fun e W' ⟨he, hb⟩ => ?_
  exact ⟨_, he, post_true (tb := 4) hW' rfl Try.underlying4 rfl rfl (by kernel_rfl) (by kernel_rfl) hb⟩
noncomputable def laidWorld (os : Os) : World := World.holding Try.prog os ⟨#[], #[], []⟩
theorem laid_met (os : Os) : laidMet Try.prog Rows.fnByteStringsRow.laid ((laidWorld os).forCall (fun _ _ => 0) ⟨#[], #[Value.slice none 0 0], []⟩).memory :=
  laidMet_of_run' 8 (by kernel_rfl) (by kernel_rfl)
theorem reads (os : Os) {H : Type} (enc : TypeId × Value → H) : ∃ places, DataW.whole enc Try.prog ((laidWorld os).forCall (fun _ _ => 0) ⟨#[], #[Value.slice none 0 0], []⟩).memory Try.f4.params.toList Rows.fnByteStringsSpec.vars false (#[Value.slice none 0 0]).toList 8 = some ([.nil], [], places) :=
  ⟨[], by kernel_rfl⟩
set_option maxRecDepth 100000 in
theorem lifted (os : Os) (started : os.Started) (H : Type) (enc : TypeId × Value → H) (F : Stop.Interp) :
    ReturnsInHanded {} Try.checked os 4 .any ((OpenSpec.ofChange Rows.fnByteStringsSpec).preRow enc Try.prog Try.f4 Rows.fnByteStringsRow.domain false Rows.fnByteStringsRow.laid) (((OpenSpec.ofChange Rows.fnByteStringsSpec).at F).post enc Try.prog Try.f4 false true false false) := by
  obtain ⟨places, hx⟩ := reads os enc
  refine returnsInHanded_of_row (C := Try.checked) (s := (OpenSpec.ofChange Rows.fnByteStringsSpec)) own started (by kernel_rfl) Try.func4
    (witness_row_at (enc := enc) (C := Try.checked) false (laidWorld os) #[Value.slice none 0 0] rfl (by kernel_rfl) (by kernel_rfl) (by kernel_rfl)
      (OpenSpec.preRow_of_cond 8 hx (by kernel_rfl) (fun k hk => by cases hk) (by kernel_rfl) (laid_met os))) ?_
  intro W base args ds gs before hval hW _ hcond hreach hL _ _
  exact contract H enc W base args ds gs before hval hW hL hreach
theorem said : Rows.FnByteStringsSaid :=
  OpenClaim.holds_of_cond 4 Try.f4 rfl rfl rfl rfl rfl rfl rfl ⟨rfl, rfl, rfl, rfl, rfl⟩ rfl rfl rfl rfl rfl (by kernel_rfl) Try.func4 (by kernel_rfl)
    (of_decide_eq_true (by kernel_rfl)) (by unfold Func.isWrapper; first | (rw [if_pos (by decide +kernel)]; kernel_rfl) | (rw [if_neg (by decide +kernel)]; exact ⟨rfl, rfl⟩))
    (fun os started H enc _ F => by rw [OpenClaim.pre_eq_preRow]; exact lifted os started H enc F)
#print axioms said
end Go.Proofs.Ytmjnlhejdjkoaaa.fnByteStrings
