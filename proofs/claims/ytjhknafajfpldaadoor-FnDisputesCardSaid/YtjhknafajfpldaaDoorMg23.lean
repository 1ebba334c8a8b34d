/- Contracts of EqualInts, its model and slices.Equal. No conditions but that the slices have at most 2^44 - 512 elements. -/
import Derived.Test.YtjhknafajfpldaaDoorMg1
import Derived.Test.YtjhknafajfpldaaDoorMg22
import Derived.WideLaws
namespace Go.Proofs.YtjhknafajfpldaaDoor
open Go.ChangeShapes Go.WideShapes Go.ChangeAt Go.RowKit
end Go.Proofs.YtjhknafajfpldaaDoor

/- Contracts of the models of chapter 6: Grounded, RoundOf, IsComplete. No conditions but that the slices have at most 2^40 elements. -/
namespace Go.Proofs.YtjhknafajfpldaaDoor
open Go.ChangeShapes Go.WideShapes Go.ChangeAt Go.RowKit
set_option maxRecDepth 100000
def slen : Value → Nat
  | .slice _ n _ => n
  | _ => 0
theorem it_len10 (N : Int) (X : List (List Int)) (k : Nat) : (itS N X k).length ≤ 10 := by
  cases hg : gB N X with
  | true =>
    obtain ⟨n, rfl, hn, _, _⟩ := gB_ok hg
    exact Nat.le_trans (it_len k) hn
  | false => rw [it_none hg]; simp
theorem it_grow' {N : Int} {X : List (List Int)} {k : Nat} (h : itS N X (k + 1) ≠ itS N X k) : (itS N X k).length < (itS N X (k + 1)).length := by
  cases hg : gB N X with
  | true =>
    obtain ⟨n, rfl, hn, hp, _⟩ := gB_ok hg
    exact it_grow hg hp h
  | false => exact absurd (by rw [it_none hg, it_none hg]) h
theorem it_fix' {N : Int} {X : List (List Int)} {k : Nat} (hgrow : ∀ j, j < k → itS N X (j + 1) ≠ itS N X j) (h : itS N X (k + 1) = itS N X k) : itS N X k = grd N X := by
  cases hg : gB N X with
  | true =>
    obtain ⟨n, rfl, _, _, _⟩ := gB_ok hg
    exact it_fix hg hgrow h
  | false => unfold grd; rw [it_none hg, it_none hg]
/-- Whether a set is complete. -/
def compB (N : Int) (X : List (List Int)) (S : List Int) : Bool := freeB N X S && decide (defL N X S = S)
theorem defL_len10 (N : Int) (X : List (List Int)) (S : List Int) : (defL N X S).length ≤ 10 := by
  cases hg : gB N X with
  | true =>
    obtain ⟨n, rfl, hn, _, _⟩ := gB_ok hg
    exact Nat.le_trans defL_len hn
  | false => rw [defL_none _ hg]; simp
end Go.Proofs.YtjhknafajfpldaaDoor

/- Contracts of the code's faultOf, IsFree, IsAdmissible, IsStable, IsComplete. No conditions but that the slices have at most 2^40 elements. -/
namespace Go.Proofs.YtjhknafajfpldaaDoor
open Go.ChangeShapes Go.WideShapes Go.ChangeAt Go.RowKit
set_option maxRecDepth 100000
/-- The first fault of a list. -/
def flt (N : Int) (X : List (List Int)) (S : List Int) : Value :=
  if gB N X then (if setB N X S then (if (hB (rf N X) (bS S) 10 &&& bS S) != 0 then .iface 75 (.int .i64 2) else .nilIface) else .iface 75 (.int .i64 1)) else .iface 75 (.int .i64 0)
theorem and_u16 {a b : Nat} (ha : a < 65536) (hb : b < 65536) : bits .and .u16 (a : Int) (b : Int) = ((a &&& b : Nat) : Int) := u16_and_nat a b ha hb
set_option maxHeartbeats 4000000 in
theorem faultOf_any {w : World} {A A' : Option Addr} {n c n' c' : Nat} {N : Int} {X : List (List Int)} {S : List Int} (hl : Hid (X.length = n)) (hn : n ≤ 1099511627776) (hr : RdSS w w.heap.size A X) (hl' : Hid (S.length = n')) (hn' : n' ≤ 1099511627776) (hr' : Rd w w.heap.size A' (ivs S)) :
    Calls Tryd.prog 49 #[.agg #[.int .i64 N, .slice A n c], .slice A' n' c'] w (fun e w' => e = .returned (flt N X S) ∧ Below w.heap.size w w') := by
  obtain ⟨W1, hW, bx1, hb1⟩ := one_graph w #[Value.int IntKind.i64 N, Value.slice A n c] 26
  have HR := Lib.hid ((hr.below hb1).more hb1.size)
  have HS := Lib.hid ((hr'.below hb1).more hb1.size)
  have hW' := hW.symm
  obtain ⟨C0, C1⟩ := bx1.two
  clear hW hr hr'
  go_enter Tryd.func49, Tryd.ntmps49
  go_wp2_with fail
  clear hW'
  refine (impIsGraph_any (N := N) (X := X) (c := c) hl hn HR.out).mono ?_
  rintro e w3 ⟨rfl, hb3⟩
  have hb4 := hb1.trans (hb3.mono hb1.size)
  by_cases hg : gB N X = true
  case neg =>
    have hg' : gB N X = false := by simpa using hg
    have HB := Lib.hid (show flt N X S = .iface 75 (.int .i64 0) by unfold flt; rw [hg']; rfl)
    rw [hg']
    clear hg hg'
    go_wp2_with fail
    go_ret
    exact ⟨by rw [HB.out]; rfl, hb4⟩
  case pos =>
    obtain ⟨m, rfl, hm, _, _⟩ := gB_ok hg
    have HG := Lib.hid hg
    rw [hg]
    have hS3 := (HS.out.below hb3).more hb3.size
    have hR3 := (HR.out.below hb3).more hb3.size
    have bx3 := bx1.new hb3
    obtain ⟨D0, D1⟩ := bx3.two
    clear hg C0 C1 bx1
    go_wp2_with fail
    go_loopw [14] (fun i wr => ∃ k : Nat, k ≤ n' ∧ i = .int .i64 k ∧ wr = w3 ∧ Hid (SPre m S k)) (fun i _ => n' - (intOf i).toNat)
    case atStart => exact ⟨0, Nat.zero_le _, rfl, rfl, Lib.hid (fun i hi => absurd hi (by omega))⟩
    case round =>
      obtain ⟨k, hk, rfl, rfl, hpre⟩ := hrel
      by_cases hlt : k < n'
      · have hkz : k < S.length := by rw [hl'.out]; exact hlt
        obtain ⟨ad, rfl, hab, hc⟩ := ivs_at hS3 hkz
        have HD := Lib.hid (getD_i hkz)
        obtain ⟨z, hz⟩ : ∃ z, z = S[k] := ⟨_, rfl⟩
        rw [← hz] at hc HD
        have i0 : (0 : Int) ≤ (k : Int) := by omega
        have HBad : okS m S k = false → Hid (flt m X S = .iface 75 (.int .i64 1)) := fun h => by
          show flt m X S = _
          unfold flt; rw [HG.out, setB_bad hkz h]; rfl
        have HBad' := Lib.hid HBad
        clear hz hab HBad
        by_cases i1 : inr z 0 ((m : Int) - 1) = true
        · have I1 := Lib.hid i1
          clear i1
          by_cases hk0 : k = 0
          · have HP := Lib.hid (hpre.out.succ (by unfold okS; rw [HD.out, I1.out, hk0]; rfl))
            have hkn : ¬ (0 < k) := by omega
            have hkn' : ¬ ((0 : Int) < (k : Int)) := by omega
            have dk : decide ((0 : Int) < (k : Int)) = false := decide_eq_false hkn'
            clear hk0
            go_wp2_with (go_at_call 30; refine (isClaim_any (by omega) (by omega)).mono ?_; rintro e w1 ⟨he, rfl⟩; rw [I1.out] at he; subst he)
            go_roundw
            case rel => exact ⟨k + 1, by omega, by go_num, trivial, HP.out⟩
            case measure => simp [intOf]; omega
          · have hkp : 0 < k := by omega
            have hk2 : k - 1 < S.length := by omega
            obtain ⟨ad', e', hab', hc'⟩ := ivs_at hS3 hk2
            injection e' with e'
            subst e'
            have HD' := Lib.hid (getD_i hk2)
            obtain ⟨y, hy⟩ : ∃ y, y = S[k - 1] := ⟨_, rfl⟩
            rw [← hy] at hc' HD'
            clear hy hab'
            by_cases g1 : z ≤ y
            · have HB := HBad'.out (by unfold okS; rw [HD.out, HD'.out]; simp; omega)
              have d1 : decide (z ≤ y) = true := decide_eq_true g1
              go_wp2_with (go_at_call 30; refine (isClaim_any (by omega) (by omega)).mono ?_; rintro e w1 ⟨he, rfl⟩; rw [I1.out] at he; subst he)
              go_ret
              exact ⟨by rw [HB.out]; rfl, hb4⟩
            · have HP := Lib.hid (hpre.out.succ (by unfold okS; rw [HD.out, HD'.out, I1.out]; simp; omega))
              have d1 : decide (z ≤ y) = false := decide_eq_false g1
              go_wp2_with (go_at_call 30; refine (isClaim_any (by omega) (by omega)).mono ?_; rintro e w1 ⟨he, rfl⟩; rw [I1.out] at he; subst he)
              go_roundw
              case rel => exact ⟨k + 1, by omega, by go_num, trivial, HP.out⟩
              case measure => simp [intOf]; omega
        · have i1' : inr z 0 ((m : Int) - 1) = false := by simpa using i1
          have I1 := Lib.hid i1'
          have HB := HBad'.out (by unfold okS; rw [HD.out, i1']; rfl)
          clear i1 i1'
          go_wp2_with (go_at_call 30; refine (isClaim_any (by omega) (by omega)).mono ?_; rintro e w1 ⟨he, rfl⟩; rw [I1.out] at he; subst he)
          go_ret
          exact ⟨by rw [HB.out]; rfl, hb4⟩
      · have e : k = n' := by omega
        subst e
        have HE := Lib.hid (show setB m X S = true by unfold setB; rw [HG.out, decide_eq_true (by rw [hl'.out]; exact hpre.out)]; rfl)
        clear hpre
        have hfl := rf_lt m X
        have hbl : bS S < 65536 := Nat.lt_trans (bS_lt S) (by decide)
        have hhl := hB_lt hfl (bS S) 10
        have HO := Lib.hid (and_u16 hhl hbl)
        go_wp2_with fail
        refine (bitsOf_any hl' hn' hS3).mono ?_
        rintro e w4 ⟨rfl, rfl⟩
        go_wp2_with fail
        refine (rowsOf_any hl hn hR3).mono ?_
        rintro e w4 ⟨rfl, hb5⟩
        have hb6 := hb4.trans (hb5.mono hb4.size)
        go_wp2_with fail
        refine (hitBits_any (n := rn m X) hfl hbl).mono ?_
        rintro e w5 ⟨rfl, hb7⟩
        have hb8 := hb6.trans (hb7.mono hb6.size)
        by_cases hq : (hB (rf m X) (bS S) 10 &&& bS S) = 0
        · have HF := Lib.hid (show flt m X S = .nilIface by unfold flt; rw [HG.out, HE.out, hq]; rfl)
          rw [hq] at HO
          clear hq
          generalize hB (rf m X) (bS S) 10 = x at *
          generalize bS S = y at *
          have HO' := HO.out
          go_wp2_with fail
          go_ret
          exact ⟨by rw [HF.out]; rfl, hb8⟩
        · have HF := Lib.hid (show flt m X S = .iface 75 (.int .i64 2) by unfold flt; rw [HG.out, HE.out, if_pos rfl, if_pos rfl, if_pos (by simpa using hq)])
          generalize hB (rf m X) (bS S) 10 &&& bS S = q at *
          generalize hB (rf m X) (bS S) 10 = x at *
          generalize bS S = y at *
          have HO' := HO.out
          have hq' : ¬ ((q : Int) = 0) := by omega
          go_wp2_with fail
          go_ret
          exact ⟨by rw [HF.out]; rfl, hb8⟩
end Go.Proofs.YtjhknafajfpldaaDoor
