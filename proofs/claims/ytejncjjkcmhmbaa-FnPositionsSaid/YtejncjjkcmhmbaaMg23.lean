/- Contract of the code's RoundOf. No conditions but that the slices have at most 2^40 elements. -/
import Derived.Test.YtejncjjkcmhmbaaMg22
import Derived.Test.YtejncjjkcmhmbaaMg20
import Derived.Test.YtejncjjkcmhmbaaMg21
import Derived.WideLaws
namespace Go.Proofs.Ytejncjjkcmhmbaa
open Go.ChangeShapes Go.WideShapes Go.ChangeAt Go.RowKit Go.Shelf
attribute [local go_sem] Oper.semAt_some
set_option maxRecDepth 100000
/-- 'has' at a round. -/
def hasR (m : Int) (f : Nat → Nat) (c : Int) (x : Nat) : Bool := inr c 0 9 && (itB m f (x + 1)).testBit c.toNat
end Go.Proofs.Ytejncjjkcmhmbaa

/- Contracts of the code's faultOf, IsFree, IsAdmissible, IsStable, IsComplete. No conditions but that the slices have at most 2^40 elements. -/
namespace Go.Proofs.Ytejncjjkcmhmbaa
open Go.ChangeShapes Go.WideShapes Go.ChangeAt Go.RowKit
set_option maxRecDepth 100000
/-- The first fault of a list. -/
def flt (N : Int) (X : List (List Int)) (S : List Int) : Value :=
  if gB N X then (if setB N X S then (if (hB (rf N X) (bS S) 10 &&& bS S) != 0 then .iface 157 (.int .i64 2) else .nilIface) else .iface 157 (.int .i64 1)) else .iface 157 (.int .i64 0)
theorem and_u16 {a b : Nat} (ha : a < 65536) (hb : b < 65536) : bits .and .u16 (a : Int) (b : Int) = ((a &&& b : Nat) : Int) := u16_and_nat a b ha hb
set_option maxHeartbeats 4000000 in
theorem faultOf_any {w : World} {A A' : Option Addr} {n c n' c' : Nat} {N : Int} {X : List (List Int)} {S : List Int} (hl : Hid (X.length = n)) (hn : n ≤ 1099511627776) (hr : RdSS w w.heap.size A X) (hl' : Hid (S.length = n')) (hn' : n' ≤ 1099511627776) (hr' : Rd w w.heap.size A' (ivs S)) :
    Calls Try.prog 134 #[.agg #[.int .i64 N, .slice A n c], .slice A' n' c'] w (fun e w' => e = .returned (flt N X S) ∧ Below w.heap.size w w') := by
  obtain ⟨W1, hW, bx1, hb1⟩ := one_graph w #[Value.int IntKind.i64 N, Value.slice A n c] 27
  have HR := Lib.hid ((hr.below hb1).more hb1.size)
  have HS := Lib.hid ((hr'.below hb1).more hb1.size)
  have hW' := hW.symm
  obtain ⟨C0, C1⟩ := bx1.two
  clear hW hr hr'
  go_enter Try.func134, Try.ntmps134
  go_wp2_with fail
  clear hW'
  refine (impIsGraph_any (N := N) (X := X) (c := c) hl hn HR.out).mono ?_
  rintro e w3 ⟨rfl, hb3⟩
  have hb4 := hb1.trans (hb3.mono hb1.size)
  by_cases hg : gB N X = true
  case neg =>
    have hg' : gB N X = false := by simpa using hg
    have HB := Lib.hid (show flt N X S = .iface 157 (.int .i64 0) by unfold flt; rw [hg']; rfl)
    rw [hg']
    clear hg hg'
    go_wp2_with fail
    go_ret
    exact ⟨by rw [HB.out]; rfl, hb4⟩
  case pos =>
    obtain ⟨m, rfl, hm, _, _⟩ := gB_ok hg
    have HG := Lib.hid hg
    rw [hg]
    have hS3 := (HS.out.below hb3).more hb3.size
    have hR3 := (HR.out.below hb3).more hb3.size
    have bx3 := bx1.new hb3
    obtain ⟨D0, D1⟩ := bx3.two
    clear hg C0 C1 bx1
    go_wp2_with fail
    go_loopw [14] (fun i wr => ∃ k : Nat, k ≤ n' ∧ i = .int .i64 k ∧ wr = w3 ∧ Hid (SPre m S k)) (fun i _ => n' - (intOf i).toNat)
    case atStart => exact ⟨0, Nat.zero_le _, rfl, rfl, Lib.hid (fun i hi => absurd hi (by omega))⟩
    case round =>
      obtain ⟨k, hk, rfl, rfl, hpre⟩ := hrel
      by_cases hlt : k < n'
      · have hkz : k < S.length := by rw [hl'.out]; exact hlt
        obtain ⟨ad, rfl, hab, hc⟩ := ivs_at hS3 hkz
        have HD := Lib.hid (getD_i hkz)
        obtain ⟨z, hz⟩ : ∃ z, z = S[k] := ⟨_, rfl⟩
        rw [← hz] at hc HD
        have i0 : (0 : Int) ≤ (k : Int) := by omega
        have HBad : okS m S k = false → Hid (flt m X S = .iface 157 (.int .i64 1)) := fun h => by
          show flt m X S = _
          unfold flt; rw [HG.out, setB_bad hkz h]; rfl
        have HBad' := Lib.hid HBad
        clear hz hab HBad
        by_cases i1 : inr z 0 ((m : Int) - 1) = true
        · have I1 := Lib.hid i1
          clear i1
          by_cases hk0 : k = 0
          · have HP := Lib.hid (hpre.out.succ (by unfold okS; rw [HD.out, I1.out, hk0]; rfl))
            have hkn : ¬ (0 < k) := by omega
            have hkn' : ¬ ((0 : Int) < (k : Int)) := by omega
            have dk : decide ((0 : Int) < (k : Int)) = false := decide_eq_false hkn'
            clear hk0
            go_wp2_with (go_at_call 75; refine (isClaim_any (by omega) (by omega)).mono ?_; rintro e w1 ⟨he, rfl⟩; rw [I1.out] at he; subst he)
            go_roundw
            case rel => exact ⟨k + 1, by omega, by go_num, trivial, HP.out⟩
            case measure => simp [intOf]; omega
          · have hkp : 0 < k := by omega
            have hk2 : k - 1 < S.length := by omega
            obtain ⟨ad', e', hab', hc'⟩ := ivs_at hS3 hk2
            injection e' with e'
            subst e'
            have HD' := Lib.hid (getD_i hk2)
            obtain ⟨y, hy⟩ : ∃ y, y = S[k - 1] := ⟨_, rfl⟩
            rw [← hy] at hc' HD'
            clear hy hab'
            by_cases g1 : z ≤ y
            · have HB := HBad'.out (by unfold okS; rw [HD.out, HD'.out]; simp; omega)
              have d1 : decide (z ≤ y) = true := decide_eq_true g1
              go_wp2_with (go_at_call 75; refine (isClaim_any (by omega) (by omega)).mono ?_; rintro e w1 ⟨he, rfl⟩; rw [I1.out] at he; subst he)
              go_ret
              exact ⟨by rw [HB.out]; rfl, hb4⟩
            · have HP := Lib.hid (hpre.out.succ (by unfold okS; rw [HD.out, HD'.out, I1.out]; simp; omega))
              have d1 : decide (z ≤ y) = false := decide_eq_false g1
              go_wp2_with (go_at_call 75; refine (isClaim_any (by omega) (by omega)).mono ?_; rintro e w1 ⟨he, rfl⟩; rw [I1.out] at he; subst he)
              go_roundw
              case rel => exact ⟨k + 1, by omega, by go_num, trivial, HP.out⟩
              case measure => simp [intOf]; omega
        · have i1' : inr z 0 ((m : Int) - 1) = false := by simpa using i1
          have I1 := Lib.hid i1'
          have HB := HBad'.out (by unfold okS; rw [HD.out, i1']; rfl)
          clear i1 i1'
          go_wp2_with (go_at_call 75; refine (isClaim_any (by omega) (by omega)).mono ?_; rintro e w1 ⟨he, rfl⟩; rw [I1.out] at he; subst he)
          go_ret
          exact ⟨by rw [HB.out]; rfl, hb4⟩
      · have e : k = n' := by omega
        subst e
        have HE := Lib.hid (show setB m X S = true by unfold setB; rw [HG.out, decide_eq_true (by rw [hl'.out]; exact hpre.out)]; rfl)
        clear hpre
        have hfl := rf_lt m X
        have hbl : bS S < 65536 := Nat.lt_trans (bS_lt S) (by decide)
        have hhl := hB_lt hfl (bS S) 10
        have HO := Lib.hid (and_u16 hhl hbl)
        go_wp2_with fail
        refine (bitsOf_any hl' hn' hS3).mono ?_
        rintro e w4 ⟨rfl, rfl⟩
        go_wp2_with fail
        refine (rowsOf_any hl hn hR3).mono ?_
        rintro e w4 ⟨rfl, hb5⟩
        have hb6 := hb4.trans (hb5.mono hb4.size)
        go_wp2_with fail
        refine (hitBits_any (n := rn m X) hfl hbl).mono ?_
        rintro e w5 ⟨rfl, hb7⟩
        have hb8 := hb6.trans (hb7.mono hb6.size)
        by_cases hq : (hB (rf m X) (bS S) 10 &&& bS S) = 0
        · have HF := Lib.hid (show flt m X S = .nilIface by unfold flt; rw [HG.out, HE.out, hq]; rfl)
          rw [hq] at HO
          clear hq
          generalize hB (rf m X) (bS S) 10 = x at *
          generalize bS S = y at *
          have HO' := HO.out
          go_wp2_with fail
          go_ret
          exact ⟨by rw [HF.out]; rfl, hb8⟩
        · have HF := Lib.hid (show flt m X S = .iface 157 (.int .i64 2) by unfold flt; rw [HG.out, HE.out, if_pos rfl, if_pos rfl, if_pos (by simpa using hq)])
          generalize hB (rf m X) (bS S) 10 &&& bS S = q at *
          generalize hB (rf m X) (bS S) 10 = x at *
          generalize bS S = y at *
          have HO' := HO.out
          have hq' : ¬ ((q : Int) = 0) := by omega
          go_wp2_with fail
          go_ret
          exact ⟨by rw [HF.out]; rfl, hb8⟩
end Go.Proofs.Ytejncjjkcmhmbaa

/- Contracts of the code's IsFree, IsAdmissible, IsStable, IsComplete. No conditions but that the slices have at most 2^40 elements. -/
namespace Go.Proofs.Ytejncjjkcmhmbaa
open Go.ChangeShapes Go.WideShapes Go.ChangeAt Go.RowKit
set_option maxRecDepth 100000
theorem flt_free {N : Int} {X : List (List Int)} {S : List Int} (h : freeB N X S = true) : flt N X S = .nilIface := by
  have hs := free_set h
  unfold flt
  rw [setB_g hs, hs, if_pos rfl, if_pos rfl, quarrel_code hs]
  unfold freeB at h
  rw [Bool.and_eq_true, Bool.not_eq_true'] at h
  rw [h.1]
  rfl
theorem flt_not {N : Int} {X : List (List Int)} {S : List Int} (h : freeB N X S = false) : ∃ k : Int, flt N X S = .iface 157 (.int .i64 k) ∧ (setB N X S = true ↔ k = 2) := by
  unfold flt
  by_cases hg : gB N X = true
  · rw [if_pos hg]
    by_cases hs : setB N X S = true
    · rw [if_pos hs, quarrel_code hs]
      unfold freeB at h
      rw [hs, Bool.and_true, Bool.not_eq_false'] at h
      rw [h]
      exact ⟨2, rfl, by simp [hs]⟩
    · rw [if_neg hs]
      exact ⟨1, rfl, by simp [hs]⟩
  · rw [if_neg hg]
    have : setB N X S = false := by unfold setB; rw [show gB N X = false by simpa using hg]; rfl
    exact ⟨0, rfl, by rw [this]; simp⟩
theorem cast_beq0 (q : Nat) : ((q : Int) == 0) = (q == 0) := by rw [Bool.eq_iff_iff, beq_iff_eq, beq_iff_eq]; omega
theorem cast_beq (p q : Nat) : ((p : Int) == (q : Int)) = (p == q) := by rw [Bool.eq_iff_iff, beq_iff_eq, beq_iff_eq]; omega
theorem rdSS_new {a b : World} {A : Option Addr} {X : List (List Int)} (h : RdSS a a.heap.size A X) (hb : Below a.heap.size a b) : RdSS b b.heap.size A X := (h.below hb).more hb.size
theorem rd_new {a b : World} {A : Option Addr} {xs : List Value} (h : Rd a a.heap.size A xs) (hb : Below a.heap.size a b) : Rd b b.heap.size A xs := (h.below hb).more hb.size
theorem stab_new {w w' : World} {g gg : Nat} {t tt : TypeId} {n : Int} {f : Nat → Nat} {u v : Value} (hh : Bx w gg tt #[u, v]) (h : Bx w g t (arC n f)) (hb : Below w.heap.size w w') :
    Below w.heap.size w w' ∧ w'.cell? ⟨gg, 0, none⟩ = some u ∧ w'.cell? ⟨gg, 1, none⟩ = some v ∧ w'.cell? ⟨g, 0, none⟩ = some (.int .i64 n) ∧ w'.cell? ⟨g, 1, none⟩ = some (.int .u16 (f 0 : Nat)) ∧ w'.cell? ⟨g, 2, none⟩ = some (.int .u16 (f 1 : Nat)) ∧ w'.cell? ⟨g, 3, none⟩ = some (.int .u16 (f 2 : Nat)) ∧ w'.cell? ⟨g, 4, none⟩ = some (.int .u16 (f 3 : Nat)) ∧ w'.cell? ⟨g, 5, none⟩ = some (.int .u16 (f 4 : Nat)) ∧ w'.cell? ⟨g, 6, none⟩ = some (.int .u16 (f 5 : Nat)) ∧ w'.cell? ⟨g, 7, none⟩ = some (.int .u16 (f 6 : Nat)) ∧ w'.cell? ⟨g, 8, none⟩ = some (.int .u16 (f 7 : Nat)) ∧ w'.cell? ⟨g, 9, none⟩ = some (.int .u16 (f 8 : Nat)) ∧ w'.cell? ⟨g, 10, none⟩ = some (.int .u16 (f 9 : Nat)) :=
  ⟨hb, (hh.new hb).two.1, (hh.new hb).two.2, (h.new hb).eleven⟩
theorem comp_code {N : Int} {X : List (List Int)} {S : List Int} (hf : freeB N X S = true) : (bS S == dB (rn N X) (rf N X) (bS S)) = compB N X S := by
  have hs := free_set hf
  have h := setB_g hs
  unfold compB
  rw [hf, Bool.true_and, dB_bS hs]
  obtain ⟨n, rfl, hn, hp, _⟩ := gB_ok h
  by_cases e : defL n X S = S
  · rw [e, decide_eq_true rfl]; simp
  · rw [decide_eq_false e, beq_eq_false_iff_ne]
    intro e'
    have : lsT (bS S) 10 = lsT (bS (defL n X S)) 10 := by rw [e']
    rw [show lsT (bS S) 10 = S from lsT_bS h hn hs, show lsT (bS (defL n X S)) 10 = defL n X S from lsT_bS h hn (defL_set h hp)] at this
    exact e this.symm
section
variable {w : World} {A A' : Option Addr} {n c n' c' : Nat} {N : Int} {X : List (List Int)} {S : List Int} (hl : Hid (X.length = n)) (hn : n ≤ 1099511627776) (hr : RdSS w w.heap.size A X) (hl' : Hid (S.length = n')) (hn' : n' ≤ 1099511627776) (hr' : Rd w w.heap.size A' (ivs S))
include hl hn hr hl' hn' hr'
theorem impIsFree_any : Calls Try.prog 91 #[.agg #[.int .i64 N, .slice A n c], .slice A' n' c'] w (Tells (freeB N X S) w) := by
  obtain ⟨W1, hW, bx1, hb1⟩ := one_graph w #[Value.int IntKind.i64 N, Value.slice A n c] 27
  have HR := Lib.hid ((hr.below hb1).more hb1.size)
  have HS := Lib.hid ((hr'.below hb1).more hb1.size)
  have hW' := hW.symm
  obtain ⟨C0, C1⟩ := bx1.two
  clear hW hr hr'
  go_enter Try.func91, Try.ntmps91
  go_wp2_with fail
  clear hW'
  refine (faultOf_any (N := N) (X := X) (S := S) (c := c) (c' := c') hl hn HR.out hl' hn' HS.out).mono ?_
  rintro e w3 ⟨rfl, hb3⟩
  have hb4 := hb1.trans (hb3.mono hb1.size)
  by_cases hf : freeB N X S = true
  · have HB := Lib.hid hf
    rw [flt_free hf]
    clear hf
    go_wp2_with fail
    go_ret
    exact ⟨ret_b HB.out.symm, hb4⟩
  · have hf' : freeB N X S = false := by simpa using hf
    have HB := Lib.hid hf'
    obtain ⟨k, hk, _⟩ := flt_not hf'
    rw [hk]
    clear hf hf' hk
    go_wp2_with fail
    go_ret
    exact ⟨ret_b HB.out.symm, hb4⟩
set_option maxHeartbeats 2000000 in
theorem impIsComplete_any : Calls Try.prog 33 #[.agg #[.int .i64 N, .slice A n c], .slice A' n' c'] w (Tells (compB N X S) w) := by
  obtain ⟨W1, hW, bx1, hb1⟩ := one_graph w #[Value.int IntKind.i64 N, Value.slice A n c] 27
  have HR := Lib.hid ((hr.below hb1).more hb1.size)
  have HS := Lib.hid ((hr'.below hb1).more hb1.size)
  have hW' := hW.symm
  obtain ⟨C0, C1⟩ := bx1.two
  clear hW hr hr'
  go_enter Try.func33, Try.ntmps33
  go_wp2_with fail
  clear hW'
  refine (bitsOf_any hl' hn' HS.out).mono ?_
  rintro e w2 ⟨rfl, rfl⟩
  go_wp2_with fail
  refine (impIsFree_any (N := N) (X := X) (S := S) (c := c) (c' := c') hl hn HR.out hl' hn' HS.out).mono ?_
  rintro e w3 ⟨rfl, hb3⟩
  have hb4 := hb1.trans (hb3.mono hb1.size)
  obtain ⟨D0, D1⟩ := (bx1.new hb3).two
  by_cases hf : freeB N X S = true
  · have HA := Lib.hid (comp_code hf)
    have hR3 := (HR.out.below hb3).more hb3.size
    rw [hf]
    have hbl : bS S < 65536 := Nat.lt_trans (bS_lt S) (by decide)
    clear hf C0 C1
    go_wp2_with fail
    refine (rowsOf_any hl hn hR3).mono ?_
    rintro e w4 ⟨rfl, hb5⟩
    have hb6 := hb4.trans (hb5.mono hb4.size)
    go_wp2_with fail
    refine (defBits_any (n := rn N X) (rn_le N X).1 (rn_le N X).2 (rf_lt N X) hbl).mono ?_
    rintro e w5 ⟨rfl, hb7⟩
    have hb8 := hb6.trans (hb7.mono hb6.size)
    generalize dB (rn N X) (rf N X) (bS S) = d at *
    generalize bS S = x at *
    go_wp2_with fail
    go_ret
    refine ⟨ret_b ?_, hb8⟩
    rw [← HA.out, cast_beq]
  · have hf' : freeB N X S = false := by simpa using hf
    have HB := Lib.hid (show compB N X S = false by unfold compB; rw [hf', Bool.false_and])
    rw [hf']
    clear hf hf'
    go_wp2_with fail
    go_ret
    exact ⟨ret_b HB.out.symm, hb4⟩
end
end Go.Proofs.Ytejncjjkcmhmbaa
