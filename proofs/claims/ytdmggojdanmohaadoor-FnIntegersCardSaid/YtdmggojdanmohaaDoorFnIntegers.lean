/- Proves the given statement of the law 'FnIntegers': at every input that the statement admits, the law returns true and leaves its arguments as they were. Conditions: those of the given row, no other. -/
import Derived.Test.YtdmggojdanmohaaDoorCards
import Derived.Test.YtdmggojdanmohaaDoorTie
import Derived.Stop.LaidErr
import Derived.ChangeMaps5
import Derived.WalkKit
import Derived.ProofKit
import Derived.OpenShut
import Derived.Deep.DeepHandedRow
import Derived.Lib.LaidTab
import Derived.Test.YtdmggojdanmohaaDoorBase
import Derived.Test.YtdmggojdanmohaaDoorIntegers
namespace Go.Proofs.YtdmggojdanmohaaDoor.fnIntegers
open Go.ChangeShapes Go.WideShapes Go.ChangeAt Go.RowKit
set_option linter.unusedVariables false
theorem own : ownKnob Tryd.prog.godebug = none := by kernel_rfl
theorem gTab : Tryd.prog.globalNamed "internal/strconv.uint64pow10" = some 0 := by kernel_rfl
theorem gTabType : (Tryd.prog.globals[0]?).map (·.type) = some 58 := by kernel_rfl
theorem tcells : Tryd.prog.cellsOf 58 = 20 := by kernel_rfl
theorem ecells : Tryd.prog.cellsOf 51 = 1 := by kernel_rfl
theorem table {W : World} (h : laidMetH Tryd.prog Rows.fnIntegersRow.laid W) : Lib.TabIs Tryd.prog W "internal/strconv.uint64pow10" .u64 Lib.pow10Tab := by
  have h0 : laidMet Tryd.prog [("math/bits.deBruijn32tab", Rows.laid_math_bits_deBruijn32tab), ("math/bits.deBruijn64tab", Rows.laid_math_bits_deBruijn64tab), ("internal/strconv.uint64pow10", Rows.laid_internal_strconv_uint64pow10)] W := h
  exact Lib.tabIs_of_head (rest := _) gTab gTabType Tryd.underlying58 Tryd.underlying51 ecells tcells (laidMet.tail (laidMet.tail h0))
theorem ucells : Tryd.prog.cellsOf 5 = 1 := by kernel_rfl
theorem val_dec (u : Nat) : val (Lib.decDigits u) = u ∧ (Lib.decDigits u).all isDig = true := by
  induction u using Nat.strongRecOn with
  | ind u ih =>
    rw [Lib.decDigits]
    split
    · have e : (UInt8.ofNat (48 + u)).toNat = 48 + u := by rw [UInt8.toNat_ofNat']; omega
      simp [val, isDig]; omega
    · have e : (UInt8.ofNat (48 + u % 10)).toNat = 48 + u % 10 := by rw [UInt8.toNat_ofNat']; omega
      obtain ⟨h1, h2⟩ := ih (u / 10) (by omega)
      rw [val_snoc, h1, e, List.all_append, h2]
      simp [isDig]; omega
theorem pv_itoa_yes {m : Int} (h0 : 0 ≤ m) (h1 : m ≤ 1000000000000) : pvb (Lib.itoa m) = true ∧ pvn (Lib.itoa m) = m := by
  obtain ⟨u, rfl⟩ : ∃ u : Nat, m = u := ⟨m.toNat, by omega⟩
  have e : Lib.itoa (u : Int) = Lib.decDigits u := Lib.itoa_nonneg _
  obtain ⟨a, b⟩ := val_dec u
  have hb : pvb (Lib.itoa (u : Int)) = true := by
    rw [e]; simp only [pvb, a, b, e]; simp; omega
  refine ⟨hb, ?_⟩
  rw [pvn_t hb, e, a]
theorem pv_itoa_no {m : Int} (h : m < 0 ∨ 1000000000000 < m) : pvb (Lib.itoa m) = false := by
  rcases h with h | h
  · have : (Lib.itoa m).all isDig = false := by unfold Lib.itoa; rw [if_pos h]; simp [isDig]
    simp [pvb, this]
  · obtain ⟨u, rfl⟩ : ∃ u : Nat, m = u := ⟨m.toNat, by omega⟩
    have e : Lib.itoa (u : Int) = Lib.decDigits u := Lib.itoa_nonneg _
    have h2 : ¬ val (Lib.decDigits u) ≤ 1000000000000 := by rw [(val_dec u).1]; omega
    rw [e]; simp [pvb, h2]
theorem pv_back {l : List UInt8} (h : pvb l = true) : Lib.itoa (pvn l) = l ∧ 0 ≤ pvn l ∧ pvn l ≤ 1000000000000 := by
  rw [pvn_t h]
  simp only [pvb, Bool.and_eq_true, decide_eq_true_eq] at h
  exact ⟨h.2, by omega, by omega⟩
theorem cdiv_no {a b : Int} (h : a < 0 ∨ 1000000000000 < a ∨ b < 1 ∨ 1000000000000 < b) : cdiv a b = 0 := by
  unfold cdiv
  rw [if_neg]
  simp only [inr, Bool.and_eq_true, decide_eq_true_eq]
  omega
theorem cdiv_yes {a b : Int} (h1 : 0 ≤ a) (h2 : a ≤ 1000000000000) (h3 : 1 ≤ b) (h4 : b ≤ 1000000000000) :
    a ≤ cdiv a b * b ∧ cdiv a b * b - a < b ∧ 0 ≤ cdiv a b ∧ cdiv a b ≤ 1000000000000 ∧ cdiv a b * b ≤ 2000000000000 := by
  have e : cdiv a b = (a + b - 1) / b := by
    unfold cdiv
    rw [if_pos]
    simp only [inr, Bool.and_eq_true, decide_eq_true_eq]
    omega
  rw [e]
  have d := Int.mul_ediv_add_emod (a + b - 1) b
  have r0 := Int.emod_nonneg (a + b - 1) (show b ≠ 0 by omega)
  have r1 := Int.emod_lt_of_pos (a + b - 1) (show 0 < b by omega)
  rw [Int.mul_comm] at d
  have q0 : 0 ≤ (a + b - 1) / b := Int.ediv_nonneg (by omega) (by omega)
  have q1 : (a + b - 1) / b ≤ (a + b - 1) / b * b := by
    have := Int.mul_le_mul_of_nonneg_left h3 q0
    omega
  have q2 : (a + b - 1) / b ≤ 1000000000000 := by
    by_cases hb1 : b = 1
    · subst hb1; simp; omega
    · have := Int.mul_le_mul_of_nonneg_left (show 2 ≤ b by omega) q0
      omega
  omega
theorem md_yes {a b : Int} (h3 : 1 ≤ b) (h4 : b ≤ 1000000000000) : 0 ≤ md a b ∧ md a b < b ∧ (a.tmod b - md a b).tmod b = 0 ∧ -b < a.tmod b ∧ a.tmod b < b := by
  have e : md a b = a % b := by
    unfold md
    rw [if_pos (inr_t h3 h4)]
  have r0 := Int.emod_nonneg a (show b ≠ 0 by omega)
  have r1 := Int.emod_lt_of_pos a (show 0 < b by omega)
  obtain ⟨f1, f2⟩ := tmod_fix (p := a) (q := b) (by omega)
  rw [e]
  refine ⟨r0, r1, ?_, Int.lt_tmod_of_pos a (by omega), Int.tmod_lt_of_pos a (by omega)⟩
  by_cases h : a.tmod b < 0
  · have : a.tmod b - a % b = -b := by have := f1 h; omega
    rw [this]; simp
  · have : a.tmod b - a % b = 0 := by have := f2 (by omega); omega
    rw [this]; simp
theorem md_eq {a b : Int} (h3 : 1 ≤ b) (h4 : b ≤ 1000000000000) : md a b = a % b := by
  unfold md
  rw [if_pos (inr_t h3 h4)]
theorem md_no {a b : Int} (h : b < 1 ∨ 1000000000000 < b) : md a b = 0 := by
  unfold md
  rw [inr_f h]; rfl
theorem itoa_max {x : Int} (h : In64 x) : (⟨(Lib.itoa x).toArray⟩ : ByteArray).size ≤ maxLen := by
  show (Lib.itoa x).toArray.size ≤ maxLen
  unfold maxLen Lib.itoa
  have h1 := h.1
  have h2 := h.2
  split
  · have := dd_len x.natAbs (by omega)
    simp; omega
  · have := dd_len x.toNat (by omega)
    simp; omega
set_option maxHeartbeats 8000000 in
theorem walk {w : World} {A : Option Addr} {n c : Nat} (h : Code8 w A n) (htab : Lib.TabIs Tryd.prog w "internal/strconv.uint64pow10" .u64 Lib.pow10Tab) :
    Calls Tryd.prog 3 #[.slice A n c] w fun e w' => e = .returned (.bool true) ∧ Below w.heap.size w w' := by
  by_cases hbig : 1048576 < n
  · go_enter Tryd.func3, Tryd.ntmps3
    go_wp2_with (go_at_call 6; refine (big_yes hbig).mono ?_; rintro e w1 ⟨rfl, rfl⟩)
    go_ret
    exact ⟨rfl, Below.refl _ _⟩
  · go_enter Tryd.func3, Tryd.ntmps3
    go_wp2_with fail
    go_at_call 6
    refine (big_no (by omega)).mono ?_
    rintro e w1 ⟨rfl, rfl⟩
    go_wp2_with fail
    go_at_call 7
    refine (drawParse h).mono ?_
    rintro e w2 ⟨s, hs, rfl, hb2⟩
    have hsm : s.size ≤ maxLen := by unfold maxLen; omega
    go_wp2_with fail
    go_at_call 8
    refine (impl_parse_any s hsm _ (tab_below hb2 htab)).mono ?_
    rintro e w3 ⟨rfl, hb3⟩
    have b3 := below_all hb2 hb2.size hb3
    clear hb2 hb3
    go_wp2_with fail
    go_at_call 9
    refine (drawFormat (h.below b3)).mono ?_
    rintro e w4 ⟨m, hm, rfl, hb4⟩
    have b4 := below_all b3 b3.size hb4
    clear b3 hb4
    go_wp2_with fail
    go_at_call 10
    refine (impl_fmt_any m hm.1 hm.2 _ (tab_below b4 htab)).mono ?_
    rintro e w5 ⟨rfl, hb5⟩
    have b5 := below_all b4 b4.size hb5
    clear b4 hb5
    go_wp2_with fail
    go_at_call 8
    refine (impl_parse_any _ (itoa_max hm) _ (tab_below b5 htab)).mono ?_
    rintro e w6 ⟨rfl, hb6⟩
    have b6 := below_all b5 b5.size hb6
    clear b5 hb6
    go_wp2_with fail
    go_at_call 11
    refine (drawCeil (h.below b6)).mono ?_
    rintro e w7 ⟨a, b, ha, hb, rfl, hb7⟩
    have b7 := below_all b6 b6.size hb7
    clear b6 hb7
    have hm1 := hm.1
    have hm2 := hm.2
    have ha1 := ha.1
    have ha2 := ha.2
    have hb1 := hb.1
    have hb2 := hb.2
    clear hm ha hb hs hsm h
    have T := tab_below b7 htab
    clear htab
    have main : ∀ fine : Bool, ∀ k : Int, pvb (Lib.itoa m) = fine → pvn (Lib.itoa m) = k → True := fun _ _ _ _ => trivial
    clear main
    have ok : (pvb s.data.toList = false) ∨ (pvb s.data.toList = true ∧ (Lib.itoa (pvn s.data.toList) == s.toList) = true ∧ 0 ≤ pvn s.data.toList ∧ pvn s.data.toList ≤ 1000000000000) := by
      cases hp : pvb s.data.toList
      · exact Or.inl rfl
      · have := pv_back hp
        exact Or.inr ⟨rfl, by rw [toList_data]; simpa using this.1, this.2⟩
    have mm : (m < 0 ∧ pvb (Lib.itoa m) = false) ∨ (0 ≤ m ∧ m ≤ 1000000000000 ∧ pvb (Lib.itoa m) = true ∧ pvn (Lib.itoa m) = m) ∨ (1000000000000 < m ∧ pvb (Lib.itoa m) = false) := by
      rcases Int.lt_or_le m 0 with h | h
      · exact Or.inl ⟨h, pv_itoa_no (Or.inl h)⟩
      · rcases Int.lt_or_le 1000000000000 m with h2 | h2
        · exact Or.inr (Or.inr ⟨h2, pv_itoa_no (Or.inr h2)⟩)
        · exact Or.inr (Or.inl ⟨h, h2, pv_itoa_yes h h2⟩)
    have bb : (b < 1 ∧ cdiv a b = 0 ∧ md a b = 0) ∨ (1000000000000 < b ∧ cdiv a b = 0 ∧ md a b = 0) ∨ (1 ≤ b ∧ b ≤ 1000000000000 ∧
        ((a < 0 ∧ cdiv a b = 0 ∧ 0 ≤ md a b ∧ md a b < b ∧ (a.tmod b - md a b).tmod b = 0 ∧ -b < a.tmod b ∧ a.tmod b < b) ∨ (1000000000000 < a ∧ cdiv a b = 0 ∧ md a b = a % b ∧ 0 ≤ a % b ∧ a % b < b) ∨ (md a b = a % b ∧ 0 ≤ a % b ∧ a % b < b ∧ 0 ≤ a ∧ a ≤ 1000000000000 ∧ a ≤ cdiv a b * b ∧ cdiv a b * b - a < b ∧ 0 ≤ cdiv a b ∧ cdiv a b ≤ 1000000000000 ∧ cdiv a b * b ≤ 2000000000000))) := by
      rcases Int.lt_or_le b 1 with h | h
      · exact Or.inl ⟨h, cdiv_no (by omega), md_no (Or.inl h)⟩
      · rcases Int.lt_or_le 1000000000000 b with h2 | h2
        · exact Or.inr (Or.inl ⟨h2, cdiv_no (by omega), md_no (Or.inr h2)⟩)
        · obtain ⟨x1, x2, x3, x4, x5⟩ := md_yes (a := a) h h2
          have e := md_eq (a := a) h h2
          have y1 := x1
          have y2 := x2
          rw [e] at y1 y2
          refine Or.inr (Or.inr ⟨h, h2, ?_⟩)
          rcases Int.lt_or_le a 0 with h3 | h3
          · exact Or.inl ⟨h3, cdiv_no (by omega), x1, x2, x3, x4, x5⟩
          · rcases Int.lt_or_le 1000000000000 a with h4 | h4
            · exact Or.inr (Or.inl ⟨h4, cdiv_no (by omega), e, y1, y2⟩)
            · exact Or.inr (Or.inr ⟨e, y1, y2, h3, h4, cdiv_yes h3 h4 h h2⟩)
    rcases ok with o1 | ⟨o1, o2, o3, o4⟩
    all_goals
      rcases mm with ⟨m1, m2⟩ | ⟨m1, m2, m3, m4⟩ | ⟨m1, m2⟩
      all_goals
        rcases bb with ⟨c1, c2, c3⟩ | ⟨c1, c2, c3⟩ | ⟨c1, c2, ⟨d1, d2, d3, d4, d5, d6, d7⟩ | ⟨d1, d2, d3, d4, d5⟩ | ⟨c3, c4, c5, d1, d2, d3, d4, d5, d6, d7⟩⟩
        all_goals
          go_wp2_with (first | (go_at_call 12; refine (ceilDiv_any _ _ _).mono ?_; rintro e w8 ⟨rfl, rfl⟩) | (go_at_call 13; refine (mod_any _ _ _).mono ?_; rintro e w8 ⟨rfl, rfl⟩) | (go_at_call 10; refine (impl_fmt_any _ (by omega) (by omega) _ T).mono ?_; rintro e w9 ⟨rfl, hb9⟩))
          go_ret
          first | exact ⟨rfl, b7⟩ | exact ⟨rfl, below_all b7 b7.size hb9⟩
theorem contract (H : Type) (enc : TypeId × Value → H) (W : World) (base : Nat) (args : Array Value) (ds gs : List (DataW H)) (before : List MemPlace)
    (hval : ∀ (j : Nat) t v, Tryd.f3.params[j]? = some t → args[j]? = some v → Value.okWide Tryd.prog W .any base t v)
    (hW : DataW.Whole enc Tryd.prog Tryd.f3.params.toList Rows.fnIntegersSpec.vars false W args.toList ds gs before) (hL : laidMetH Tryd.prog Rows.fnIntegersRow.laid W)
    (hreach : (DataW.weightsEach Tryd.prog (Tryd.f3.params.toList ++ (OpenSpec.ofChange Rows.fnIntegersSpec).bare.plain.varTypes Tryd.prog) (ds ++ gs)).all (· ≤ reachBytes) = true) :
    Calls Tryd.prog 3 args W fun e W' => ∃ v, e = .returned v ∧ Rows.fnIntegersSpec.post enc Tryd.prog Tryd.f3 false true false false W args v W' := by
  have hW' := hW
  obtain ⟨p, q, hA0, hV, rfl, hfz, hnd⟩ := hW
  have hA : DataW.TrodAll enc Tryd.prog W 0 (fun _ => true) true Tryd.f3.params.toList args.toList ds p := hA0
  rw [Tryd.params3] at hA hval
  obtain ⟨v0, vs0, d0, ds0, p0, q0, hargs, rfl, rfl, h0, r0⟩ := trodAll_cons hA
  obtain ⟨rfl, rfl, rfl⟩ := trodAll_nil r0
  obtain rfl : args = #[v0] := by cases args; simp_all
  obtain ⟨rfl, rfl⟩ := trodVars_none hV
  have hv0 := hval 0 22 v0 rfl rfl
  clear hA0 hval
  have walked : Calls Tryd.prog 3 #[v0] W fun e W' => e = .returned (.bool true) ∧ Below W.heap.size W W' := by
    obtain ⟨A, n, c, rfl, hcode⟩ := code8_open Tryd.underlying22 Tryd.underlying5 ucells hv0 h0
    exact walk hcode (table hL)
  refine walked.mono fun e W' ⟨he, hb⟩ => ?_
  exact ⟨_, he, post_true (tb := 4) hW' rfl Tryd.underlying4 rfl rfl (by kernel_rfl) (by kernel_rfl) hb⟩
noncomputable def laidWorld (os : Os) : World :=
  { World.holding Tryd.prog os ⟨#[], #[], []⟩ with heap := ((((World.holding Tryd.prog os ⟨#[], #[], []⟩).heap.modify 1 fun
      | .cells _ t frozen => .cells #[.int .u8 0, .int .u8 1, .int .u8 28, .int .u8 2, .int .u8 29, .int .u8 14, .int .u8 24, .int .u8 3, .int .u8 30, .int .u8 22, .int .u8 20, .int .u8 15, .int .u8 25, .int .u8 17, .int .u8 4, .int .u8 8, .int .u8 31, .int .u8 27, .int .u8 13, .int .u8 23, .int .u8 21, .int .u8 19, .int .u8 16, .int .u8 7, .int .u8 26, .int .u8 12, .int .u8 18, .int .u8 6, .int .u8 11, .int .u8 5, .int .u8 10, .int .u8 9] t frozen
      | o => o).modify 2 fun
      | .cells _ t frozen => .cells #[.int .u8 0, .int .u8 1, .int .u8 56, .int .u8 2, .int .u8 57, .int .u8 49, .int .u8 28, .int .u8 3, .int .u8 61, .int .u8 58, .int .u8 42, .int .u8 50, .int .u8 38, .int .u8 29, .int .u8 17, .int .u8 4, .int .u8 62, .int .u8 47, .int .u8 59, .int .u8 36, .int .u8 45, .int .u8 43, .int .u8 51, .int .u8 22, .int .u8 53, .int .u8 39, .int .u8 33, .int .u8 30, .int .u8 24, .int .u8 18, .int .u8 12, .int .u8 5, .int .u8 63, .int .u8 55, .int .u8 48, .int .u8 27, .int .u8 60, .int .u8 41, .int .u8 37, .int .u8 16, .int .u8 46, .int .u8 35, .int .u8 44, .int .u8 21, .int .u8 52, .int .u8 32, .int .u8 23, .int .u8 11, .int .u8 54, .int .u8 26, .int .u8 40, .int .u8 15, .int .u8 34, .int .u8 20, .int .u8 31, .int .u8 10, .int .u8 25, .int .u8 14, .int .u8 19, .int .u8 9, .int .u8 13, .int .u8 8, .int .u8 7, .int .u8 6] t frozen
      | o => o).modify 0 fun
      | .cells _ t frozen => .cells #[.int .u64 1, .int .u64 10, .int .u64 100, .int .u64 1000, .int .u64 10000, .int .u64 100000, .int .u64 1000000, .int .u64 10000000, .int .u64 100000000, .int .u64 1000000000, .int .u64 10000000000, .int .u64 100000000000, .int .u64 1000000000000, .int .u64 10000000000000, .int .u64 100000000000000, .int .u64 1000000000000000, .int .u64 10000000000000000, .int .u64 100000000000000000, .int .u64 1000000000000000000, .int .u64 10000000000000000000] t frozen
      | o => o) }
theorem laid_met (os : Os) : laidMet Tryd.prog Rows.fnIntegersRow.laid ((laidWorld os).forCall (fun _ _ => 0) ⟨#[], #[Value.slice none 0 0], []⟩).memory :=
  laidMet_of_run' 8 (by kernel_rfl) (by kernel_rfl)
theorem reads (os : Os) {H : Type} (enc : TypeId × Value → H) : ∃ places, DataW.whole enc Tryd.prog ((laidWorld os).forCall (fun _ _ => 0) ⟨#[], #[Value.slice none 0 0], []⟩).memory Tryd.f3.params.toList Rows.fnIntegersSpec.vars false (#[Value.slice none 0 0]).toList 8 = some ([.nil], [], places) :=
  ⟨[], by kernel_rfl⟩
set_option maxRecDepth 100000 in
theorem lifted (os : Os) (started : os.Started) (H : Type) (enc : TypeId × Value → H) (F : Stop.Interp) :
    ReturnsInHanded {} Tryd.checked os 3 .any ((OpenSpec.ofChange Rows.fnIntegersSpec).preRow enc Tryd.prog Tryd.f3 Rows.fnIntegersRow.domain false Rows.fnIntegersRow.laid) (((OpenSpec.ofChange Rows.fnIntegersSpec).at F).post enc Tryd.prog Tryd.f3 false true false false) := by
  obtain ⟨places, hx⟩ := reads os enc
  refine returnsInHanded_of_row (C := Tryd.checked) (s := (OpenSpec.ofChange Rows.fnIntegersSpec)) own started (by kernel_rfl) Tryd.func3
    (witness_row_at (enc := enc) (C := Tryd.checked) false (laidWorld os) #[Value.slice none 0 0] rfl (by kernel_rfl) (by kernel_rfl) (by kernel_rfl)
      (OpenSpec.preRow_of_cond 8 hx (by kernel_rfl) (fun k hk => by cases hk) (by kernel_rfl) (laid_met os))) ?_
  intro W base args ds gs before hval hW _ hcond hreach hL _ _
  exact contract H enc W base args ds gs before hval hW hL hreach
theorem said : Rows.FnIntegersSaid :=
  OpenClaim.holds_of_cond 3 Tryd.f3 rfl rfl rfl rfl rfl rfl rfl ⟨rfl, rfl, rfl, rfl, rfl⟩ rfl rfl rfl rfl rfl (by kernel_rfl) Tryd.func3 (by kernel_rfl)
    (of_decide_eq_true (by kernel_rfl)) (by unfold Func.isWrapper; first | (rw [if_pos (by decide +kernel)]; kernel_rfl) | (rw [if_neg (by decide +kernel)]; exact ⟨rfl, rfl⟩))
    (fun os started H enc _ F => by rw [OpenClaim.pre_eq_preRow]; exact lifted os started H enc F)
theorem wants22 : Tryd.prog.wantsStandIn 22 = false := by kernel_rfl
theorem plain (f : FuncId) (fn : Func) (hf : Tryd.pinned.checked.prog.funcNamed "loop.example/g03009/laws.FnIntegers" = some f) (hfn : Tryd.pinned.checked.prog.funcs[f]? = some fn) :
    false = Tryd.pinned.checked.prog.looks [] ∧ ∀ (j : Nat) t, fn.params[j]? = some t → Tryd.pinned.checked.prog.wantsStandIn t = false := by
  obtain rfl : f = 3 := Option.some.inj ((show Tryd.prog.funcNamed "loop.example/g03009/laws.FnIntegers" = some 3 by kernel_rfl).symm.trans hf) |>.symm
  obtain rfl : fn = Tryd.f3 := (Option.some.inj (Tryd.func3.symm.trans hfn)).symm
  refine ⟨by kernel_rfl, fun j t ht => ?_⟩
  rw [Tryd.params3] at ht
  have hm := Array.mem_of_getElem? ht
  simp at hm
  subst hm
  exact wants22
theorem card : Rows.FnIntegersCardSaid :=
  Claim7.holds_tied_plain_at .later [] _ _ _ _ said (fun _ h => by cases h) (by kernel_rfl) (fun _ h => by cases h) fnIntegers_row_tie rfl ⟨rfl, rfl⟩ (by kernel_rfl) rfl plain (by kernel_rfl)
#print axioms card
end Go.Proofs.YtdmggojdanmohaaDoor.fnIntegers
