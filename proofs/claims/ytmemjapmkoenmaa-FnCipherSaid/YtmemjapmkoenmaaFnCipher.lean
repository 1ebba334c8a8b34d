/- Proves the given statement of the law 'FnCipher': at every input that the statement admits, the law returns true and leaves its arguments as they were. Conditions: those of the given row, no other. -/
import Derived.Test.YtmemjapmkoenmaaRows
import Derived.Stop.LaidErr
import Derived.ChangeMaps5
import Derived.WalkKit
import Derived.ProofKit
import Derived.OpenShut
import Derived.Deep.DeepHandedRow
import Derived.Lib.LaidTab
import Derived.Test.YtmemjapmkoenmaaBase
import Derived.Test.YtmemjapmkoenmaaCipherC
import Derived.Test.YtmemjapmkoenmaaDrawH
import Derived.Test.YtmemjapmkoenmaaSame
namespace Go.Proofs.Ytmemjapmkoenmaa.fnCipher
open Go.ChangeShapes Go.WideShapes Go.ChangeAt Go.RowKit
set_option linter.unusedVariables false
set_option maxRecDepth 100000
theorem own : ownKnob Try.prog.godebug = none := by kernel_rfl
theorem ucells : Try.prog.cellsOf 5 = 1 := by kernel_rfl
theorem encB_len (q : Int) (zs : List Int) : (encB q zs).length = zs.length := by simp [encB, encT]
theorem decB_len (q : Int) (zs : List Int) : (decB q zs).length = zs.length := by simp [decB, decT]
theorem encB_byte (q : Int) (zs : List Int) : ∀ x ∈ encB q zs, 0 ≤ x ∧ x ≤ 255 := by
  intro x hx
  obtain ⟨i, _, rfl⟩ := List.mem_map.1 hx
  omega
theorem decB_byte (q : Int) (zs : List Int) : ∀ x ∈ decB q zs, 0 ≤ x ∧ x ≤ 255 := by
  intro x hx
  obtain ⟨i, _, rfl⟩ := List.mem_map.1 hx
  omega
theorem dec_enc (q : Int) (zs : List Int) (hb : ∀ x ∈ zs, 0 ≤ x ∧ x ≤ 255) : decB q (encB q zs) = zs := by
  apply List.ext_getElem (by rw [decB_len, encB_len])
  intro i h1 h2
  have hx := hb zs[i] (List.getElem_mem _)
  have e : (encB q zs).getD i 0 = (zs[i] + kst q i) % 256 := by simp [encB, encT, List.getD, h2]
  simp only [decB, decT, List.getElem_map, List.getElem_range]
  rw [e]
  omega
theorem enc_dec (q : Int) (zs : List Int) (hb : ∀ x ∈ zs, 0 ≤ x ∧ x ≤ 255) : encB q (decB q zs) = zs := by
  apply List.ext_getElem (by rw [encB_len, decB_len])
  intro i h1 h2
  have hx := hb zs[i] (List.getElem_mem _)
  have e : (decB q zs).getD i 0 = (zs[i] - kst q i) % 256 := by simp [decB, decT, List.getD, h2]
  simp only [encB, encT, List.getElem_map, List.getElem_range]
  rw [e]
  omega
set_option maxHeartbeats 3200000 in
theorem core {W : World} {A : Option Addr} {n c : Nat} (h8 : Code8 W A n) (hn : n ≤ 1048576) :
    Calls Try.prog 3 #[.slice A n c] W (fun e W' => e = .returned (.bool true) ∧ Below W.heap.size W W') := by
  go_enter Try.func3, Try.ntmps3
  go_wp2_with fail
  refine (big_no hn).mono ?_
  rintro e w1 ⟨rfl, rfl⟩
  go_wp2_with fail
  refine (drawEnc h8).mono ?_
  rintro e w1 ⟨q, zs, v, _, hzl, hzb, rfl, hrow, hb1⟩
  have hzl' : zs.length ≤ 7 := hzl
  obtain ⟨Ab, cb, rfl, hrd, hcb, _⟩ := hrow.rd (n := zs.length) (bvs_len zs)
  have s1 := hb1.size
  have HB := Lib.hid hzb
  clear h8 hzb hrow
  go_wp2_with fail
  refine (impEncrypt_any (Lib.hid rfl) (by omega) hrd HB.out).mono ?_
  rintro e w2 ⟨v2, rfl, hrow2, hb2⟩
  obtain ⟨A2, c2, rfl, hrd2, _, _⟩ := hrow2.rd (n := zs.length) (by rw [bvs_len, encB_len])
  have s2 := hb2.size
  clear hrow2
  go_wp2_with fail
  refine (impDecrypt_any (zs := encB q zs) (Lib.hid (encB_len q zs)) (by omega) hrd2 (encB_byte q zs)).mono ?_
  rintro e w3 ⟨v3, rfl, hrow3, hb3⟩
  rw [dec_enc q zs HB.out] at hrow3
  obtain ⟨A3, c3, rfl, hrd3, _, _⟩ := hrow3.rd (n := zs.length) (by rw [bvs_len])
  have s3 := hb3.size
  have hrdb := ((hrd.below hb2).below (hb3.mono s2))
  clear hrow3
  go_wp2_with fail
  refine (sameBytes_any (zs := zs) (ys := zs) (Lib.hid rfl) (Lib.hid rfl) (by omega) (by omega) hrd3 (hrdb.more (by omega))).mono ?_
  rintro e w4 ⟨he, hb4⟩
  rw [show decide (zs = zs) = true from decide_eq_true rfl] at he
  subst he
  have s4 := hb4.size
  have hrd4 := ((hrdb.more (Nat.le_trans s2 s3)).below hb4).more s4
  have HB4 := Lib.hid (hb1.trans ((hb2.trans ((hb3.mono s2).trans (hb4.mono (Nat.le_trans s2 s3)))).mono s1))
  clear hrd hrd2 hrd3 hrdb hb1 hb2 hb3 hb4
  go_wp2_with fail
  refine (impDecrypt_any (Lib.hid rfl) (by omega) hrd4 HB.out).mono ?_
  rintro e w5 ⟨v5, rfl, hrow5, hb5⟩
  obtain ⟨A5, c5, rfl, hrd5, _, _⟩ := hrow5.rd (n := zs.length) (by rw [bvs_len, decB_len])
  have s5 := hb5.size
  clear hrow5
  go_wp2_with fail
  refine (impEncrypt_any (zs := decB q zs) (Lib.hid (decB_len q zs)) (by omega) hrd5 (decB_byte q zs)).mono ?_
  rintro e w6 ⟨v6, rfl, hrow6, hb6⟩
  rw [enc_dec q zs HB.out] at hrow6
  obtain ⟨A6, c6, rfl, hrd6, _, _⟩ := hrow6.rd (n := zs.length) (by rw [bvs_len])
  have s6 := hb6.size
  have hrdb := ((hrd4.below hb5).below (hb6.mono s5))
  clear hrow6
  go_wp2_with fail
  refine (sameBytes_any (zs := zs) (ys := zs) (Lib.hid rfl) (Lib.hid rfl) (by omega) (by omega) hrd6 (hrdb.more (by omega))).mono ?_
  rintro e w7 ⟨he, hb7⟩
  rw [show decide (zs = zs) = true from decide_eq_true rfl] at he
  subst he
  have s7 := hb7.size
  have hrd7 := ((hrdb.more (Nat.le_trans s5 s6)).below hb7).more s7
  have s04 := HB4.out.size
  have HB7 := Lib.hid (HB4.out.trans ((hb5.trans ((hb6.mono s5).trans (hb7.mono (Nat.le_trans s5 s6)))).mono s04))
  clear hrd4 hrd5 hrd6 hrdb hb5 hb6 hb7 HB4
  go_wp2_with fail
  refine (impEncrypt_any (Lib.hid rfl) (by omega) hrd7 HB.out).mono ?_
  rintro e w8 ⟨v8, rfl, hrow8, hb8⟩
  obtain ⟨A8, c8, rfl, hrd8, _, _⟩ := hrow8.rd (n := zs.length) (by rw [bvs_len, encB_len])
  have HB8 := Lib.hid (HB7.out.trans (hb8.mono HB7.out.size))
  clear hrow8 hrd8 hrd7 hb8
  go_wp2_with fail
  go_ret
  exact ⟨rfl, HB8.out⟩
theorem contract (H : Type) (enc : TypeId × Value → H) (W : World) (base : Nat) (args : Array Value) (ds gs : List (DataW H)) (before : List MemPlace)
    (hval : ∀ (j : Nat) t v, Try.f3.params[j]? = some t → args[j]? = some v → Value.okWide Try.prog W .any base t v)
    (hW : DataW.Whole enc Try.prog Try.f3.params.toList Rows.fnCipherSpec.vars false W args.toList ds gs before) (hL : laidMetH Try.prog Rows.fnCipherRow.laid W)
    (hreach : (DataW.weightsEach Try.prog (Try.f3.params.toList ++ (OpenSpec.ofChange Rows.fnCipherSpec).bare.plain.varTypes Try.prog) (ds ++ gs)).all (· ≤ reachBytes) = true) :
    Calls Try.prog 3 args W fun e W' => ∃ v, e = .returned v ∧ Rows.fnCipherSpec.post enc Try.prog Try.f3 false true false false W args v W' := by
  have hW' := hW
  obtain ⟨p, q, hA0, hV, rfl, hfz, hnd⟩ := hW
  have hA : DataW.TrodAll enc Try.prog W 0 (fun _ => true) true Try.f3.params.toList args.toList ds p := hA0
  rw [Try.params3] at hA hval
  obtain ⟨v0, vs0, d0, ds0, p0, q0, hargs, rfl, rfl, h0, r0⟩ := trodAll_cons hA
  obtain ⟨rfl, rfl, rfl⟩ := trodAll_nil r0
  obtain rfl : args = #[v0] := by cases args; simp_all
  obtain ⟨rfl, rfl⟩ := trodVars_none hV
  obtain ⟨A0, c0, z0, rfl, R0, hc0, hm0, hb0⟩ := slice_open Try.underlying22 Try.underlying5 (by kernel_rfl : Try.prog.cellsOf 5 = 1) (hval 0 22 v0 rfl rfl) h0
  clear hA0 hval
  have walked : Calls Try.prog 3 #[.slice A0 z0.length c0] W fun e W' => e = .returned (.bool true) ∧ Below W.heap.size W W' := by
    by_cases hbig : 1048576 < z0.length
    · go_enter Try.func3, Try.ntmps3
      go_wp2_with (go_at_call 15; refine (big_yes hbig).mono ?_; rintro e w1 ⟨rfl, rfl⟩)
      go_ret
      exact ⟨rfl, Below.refl _ _⟩
    exact core (code8_of_rd R0 hb0 (by omega)) (by omega)
  refine walked.mono fun e W' ⟨he, hb⟩ => ?_
  exact ⟨_, he, post_true (tb := 4) hW' rfl Try.underlying4 rfl rfl (by kernel_rfl) (by kernel_rfl) hb⟩
noncomputable def laidWorld (os : Os) : World := World.holding Try.prog os ⟨#[], #[], []⟩
theorem laid_met (os : Os) : laidMet Try.prog Rows.fnCipherRow.laid ((laidWorld os).forCall (fun _ _ => 0) ⟨#[], #[Value.slice none 0 0], []⟩).memory :=
  laidMet_of_run' 8 (by kernel_rfl) (by kernel_rfl)
theorem reads (os : Os) {H : Type} (enc : TypeId × Value → H) : ∃ places, DataW.whole enc Try.prog ((laidWorld os).forCall (fun _ _ => 0) ⟨#[], #[Value.slice none 0 0], []⟩).memory Try.f3.params.toList Rows.fnCipherSpec.vars false (#[Value.slice none 0 0]).toList 8 = some ([.nil], [], places) :=
  ⟨[], by kernel_rfl⟩
set_option maxRecDepth 100000 in
theorem lifted (os : Os) (started : os.Started) (H : Type) (enc : TypeId × Value → H) (F : Stop.Interp) :
    ReturnsInHanded {} Try.checked os 3 .any ((OpenSpec.ofChange Rows.fnCipherSpec).preRow enc Try.prog Try.f3 Rows.fnCipherRow.domain false Rows.fnCipherRow.laid) (((OpenSpec.ofChange Rows.fnCipherSpec).at F).post enc Try.prog Try.f3 false true false false) := by
  obtain ⟨places, hx⟩ := reads os enc
  refine returnsInHanded_of_row (C := Try.checked) (s := (OpenSpec.ofChange Rows.fnCipherSpec)) own started (by kernel_rfl) Try.func3
    (witness_row_at (enc := enc) (C := Try.checked) false (laidWorld os) #[Value.slice none 0 0] rfl (by kernel_rfl) (by kernel_rfl) (by kernel_rfl)
      (OpenSpec.preRow_of_cond 8 hx (by kernel_rfl) (fun k hk => by cases hk) (by kernel_rfl) (laid_met os))) ?_
  intro W base args ds gs before hval hW _ hcond hreach hL _ _
  exact contract H enc W base args ds gs before hval hW hL hreach
theorem said : Rows.FnCipherSaid :=
  OpenClaim.holds_of_cond 3 Try.f3 rfl rfl rfl rfl rfl rfl rfl ⟨rfl, rfl, rfl, rfl, rfl⟩ rfl rfl rfl rfl rfl (by kernel_rfl) Try.func3 (by kernel_rfl)
    (of_decide_eq_true (by kernel_rfl)) (by unfold Func.isWrapper; first | (rw [if_pos (by decide +kernel)]; kernel_rfl) | (rw [if_neg (by decide +kernel)]; exact ⟨rfl, rfl⟩))
    (fun os started H enc _ F => by rw [OpenClaim.pre_eq_preRow]; exact lifted os started H enc F)
#print axioms said
end Go.Proofs.Ytmemjapmkoenmaa.fnCipher
