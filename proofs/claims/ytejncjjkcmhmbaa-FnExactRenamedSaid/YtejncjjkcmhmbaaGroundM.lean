/- Contracts of the models of chapter 6: Grounded, RoundOf, IsComplete. No conditions but that the slices have at most 2^40 elements. -/
import Derived.Test.YtejncjjkcmhmbaaFreeMath
import Derived.Test.YtejncjjkcmhmbaaEqI
namespace Go.Proofs.Ytejncjjkcmhmbaa
open Go.ChangeShapes Go.WideShapes Go.ChangeAt Go.RowKit
set_option maxRecDepth 100000
def slen : Value → Nat
  | .slice _ n _ => n
  | _ => 0
theorem it_len10 (N : Int) (X : List (List Int)) (k : Nat) : (itS N X k).length ≤ 10 := by
  cases hg : gB N X with
  | true =>
    obtain ⟨n, rfl, hn, _, _⟩ := gB_ok hg
    exact Nat.le_trans (it_len k) hn
  | false => rw [it_none hg]; simp
theorem it_grow' {N : Int} {X : List (List Int)} {k : Nat} (h : itS N X (k + 1) ≠ itS N X k) : (itS N X k).length < (itS N X (k + 1)).length := by
  cases hg : gB N X with
  | true =>
    obtain ⟨n, rfl, hn, hp, _⟩ := gB_ok hg
    exact it_grow hg hp h
  | false => exact absurd (by rw [it_none hg, it_none hg]) h
theorem it_fix' {N : Int} {X : List (List Int)} {k : Nat} (hgrow : ∀ j, j < k → itS N X (j + 1) ≠ itS N X j) (h : itS N X (k + 1) = itS N X k) : itS N X k = grd N X := by
  cases hg : gB N X with
  | true =>
    obtain ⟨n, rfl, _, _, _⟩ := gB_ok hg
    exact it_fix hg hgrow h
  | false => unfold grd; rw [it_none hg, it_none hg]
/-- Whether a set is complete. -/
def compB (N : Int) (X : List (List Int)) (S : List Int) : Bool := freeB N X S && decide (defL N X S = S)
theorem defL_len10 (N : Int) (X : List (List Int)) (S : List Int) : (defL N X S).length ≤ 10 := by
  cases hg : gB N X with
  | true =>
    obtain ⟨n, rfl, hn, _, _⟩ := gB_ok hg
    exact Nat.le_trans defL_len hn
  | false => rw [defL_none _ hg]; simp
set_option maxHeartbeats 4000000 in
theorem specIsComplete_any {w : World} {A A' : Option Addr} {n c n' c' : Nat} {N : Int} {X : List (List Int)} {S : List Int} (hl : Hid (X.length = n)) (hn : n ≤ 1099511627776) (hr : RdSS w w.heap.size A X) (hl' : Hid (S.length = n')) (hn' : n' ≤ 1099511627776) (hr' : Rd w w.heap.size A' (ivs S)) :
    Calls Try.prog 86 #[.agg #[.int .i64 N, .slice A n c], .slice A' n' c'] w (Tells (compB N X S) w) := by
  obtain ⟨W1, hW, bx1, hb1⟩ := one_graph w #[Value.int IntKind.i64 N, Value.slice A n c] 27
  have HR := Lib.hid ((hr.below hb1).more hb1.size)
  have HS := Lib.hid ((hr'.below hb1).more hb1.size)
  have hW' := hW.symm
  obtain ⟨C0, C1⟩ := bx1.two
  clear hW hr hr'
  go_enter Try.func86, Try.ntmps86
  go_wp2_with fail
  clear hW'
  refine (specIsFree_any (N := N) (X := X) (S := S) hl hn HR.out hl' hn' HS.out).mono ?_
  rintro e w3 ⟨rfl, hb3⟩
  have hb4 := hb1.trans (hb3.mono hb1.size)
  obtain ⟨D0, D1⟩ := (bx1.new hb3).two
  have hR3 := (HR.out.below hb3).more hb3.size
  have hS3 := (HS.out.below hb3).more hb3.size
  clear C0 C1
  by_cases hf : freeB N X S = true
  · have HF := Lib.hid (show compB N X S = decide (defL N X S = S) by unfold compB; rw [hf]; rfl)
    rw [hf]
    clear hf
    have HDL := Lib.hid (defL_len10 N X S)
    go_wp2_with fail
    refine (specDefendedBy_any (N := N) (X := X) (S := S) hl hn hR3 hl' hn' hS3).mono ?_
    rintro e w5 ⟨v, rfl, hrow, hb5⟩
    obtain ⟨Av, cv, rfl, hrdv, _, _⟩ := hrow.rd (n := (defL N X S).length) (ivs_len _)
    have hb6 := hb4.trans (hb5.mono hb4.size)
    have hS5 := (hS3.below hb5).more hb5.size
    clear D0 D1 hrow
    go_wp2_with fail
    refine (specEqualInts_any (zs := defL N X S) (ys := S) (Lib.hid rfl) hl' (by have := HDL.out; omega) (by omega) hrdv hS5).mono ?_
    rintro e w7 ⟨rfl, hb7⟩
    go_wp2_with fail
    go_ret
    exact ⟨ret_b HF.out.symm, hb6.trans (hb7.mono hb6.size)⟩
  · have hf' : freeB N X S = false := by simpa using hf
    have HF := Lib.hid (show compB N X S = false by unfold compB; rw [hf']; rfl)
    rw [hf']
    clear hf hf'
    go_wp2_with fail
    go_ret
    exact ⟨ret_b HF.out.symm, hb4⟩
end Go.Proofs.Ytejncjjkcmhmbaa
