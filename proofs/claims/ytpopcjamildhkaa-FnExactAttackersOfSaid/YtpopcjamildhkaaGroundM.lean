/- Contracts of the models of chapter 6: Grounded, RoundOf, IsComplete. No conditions but that the slices have at most 2^40 elements. -/
import Derived.Test.YtpopcjamildhkaaFreeMath
import Derived.Test.YtpopcjamildhkaaEqI
namespace Go.Proofs.Ytpopcjamildhkaa
open Go.ChangeShapes Go.WideShapes Go.ChangeAt Go.RowKit
set_option maxRecDepth 100000
def slen : Value → Nat
  | .slice _ n _ => n
  | _ => 0
theorem it_len10 (N : Int) (X : List (List Int)) (k : Nat) : (itS N X k).length ≤ 10 := by
  cases hg : gB N X with
  | true =>
    obtain ⟨n, rfl, hn, _, _⟩ := gB_ok hg
    exact Nat.le_trans (it_len k) hn
  | false => rw [it_none hg]; simp
theorem it_grow' {N : Int} {X : List (List Int)} {k : Nat} (h : itS N X (k + 1) ≠ itS N X k) : (itS N X k).length < (itS N X (k + 1)).length := by
  cases hg : gB N X with
  | true =>
    obtain ⟨n, rfl, hn, hp, _⟩ := gB_ok hg
    exact it_grow hg hp h
  | false => exact absurd (by rw [it_none hg, it_none hg]) h
theorem it_fix' {N : Int} {X : List (List Int)} {k : Nat} (hgrow : ∀ j, j < k → itS N X (j + 1) ≠ itS N X j) (h : itS N X (k + 1) = itS N X k) : itS N X k = grd N X := by
  cases hg : gB N X with
  | true =>
    obtain ⟨n, rfl, _, _, _⟩ := gB_ok hg
    exact it_fix hg hgrow h
  | false => unfold grd; rw [it_none hg, it_none hg]
set_option maxHeartbeats 4000000 in
theorem specGrounded_any {w : World} {A : Option Addr} {n c : Nat} {N : Int} {X : List (List Int)} (hl : Hid (X.length = n)) (hn : n ≤ 1099511627776) (hr : RdSS w w.heap.size A X) :
    Calls Try.prog 103 #[.agg #[.int .i64 N, .slice A n c]] w (Fresh 3 (ivs (grd N X)) w) := by
  obtain ⟨Wa, hWa, bx0, hb1⟩ := one_graph w #[Value.int IntKind.i64 N, Value.slice A n c] 26
  have hsa : Wa.heap.size = w.heap.size + 1 := by rw [hWa]; simp
  have hb2 : Below w.heap.size w (Wa.alloc (Obj.cells #[] 3)) := hb1.alloc hb1.size _
  have hrow0 := (Row.made (w := Wa) (w.heap.size + 1) #[] 0 3 (by omega) rfl (Nat.zero_le _)).wide (hi' := (Wa.alloc (Obj.cells #[] 3)).heap.size) (Nat.le_refl _) (by simp)
  have bx1 := bx0.new ((Below.refl Wa.heap.size Wa).alloc (Nat.le_refl _) (Obj.cells #[] 3))
  obtain ⟨W1, hW⟩ : ∃ u : World, u = Wa.alloc (Obj.cells #[] 3) := ⟨_, rfl⟩
  have hsw : W1.heap.size = w.heap.size + 2 := by rw [hW]; simp [hsa]
  rw [← hW] at hb2 hrow0 bx1
  rw [hsa] at hrow0
  have hWf : (w.alloc (Obj.cells #[Value.int IntKind.i64 N, Value.slice A n c] 26)).alloc (Obj.cells #[] 3) = W1 := by rw [hW, hWa]
  have HR := Lib.hid (hr.below hb2)
  have HZ := Lib.hid hsw
  clear hW hWa hr bx0 hb1 hsa hsw
  go_enter Try.func103, Try.ntmps103
  go_wp2_with fail
  try rw [hWf]
  clear hWf
  go_loopw [3] (fun b wr => ∃ (k : Nat) (Ab : Option Addr) (cb : Nat), b = .slice Ab (itS N X k).length cb ∧ Rd wr wr.heap.size Ab (ivs (itS N X k)) ∧ Below w.heap.size w wr ∧ Bx wr w.heap.size 26 #[Value.int IntKind.i64 N, Value.slice A n c] ∧ RdSS wr w.heap.size A X ∧ w.heap.size + 1 ≤ wr.heap.size ∧ Hid (∀ j, j < k → itS N X (j + 1) ≠ itS N X j)) (fun b _ => 11 - slen b)
  case atStart =>
    obtain ⟨Ab, cb, e, hrd, _, _⟩ := hrow0.rd (n := 0) rfl
    exact ⟨0, Ab, cb, e, hrd, hb2, bx1, HR.out, by have := HZ.out; omega, Lib.hid (fun j hj => absurd hj (by omega))⟩
  case round =>
    obtain ⟨k, Ab, cb, rfl, hrd, hbw, bxk, hrk, hzk, hgr⟩ := hrel
    obtain ⟨C0, C1⟩ := bxk.two
    have HL := Lib.hid (it_len10 N X k)
    have HL1 := Lib.hid (it_len10 N X (k + 1))
    have hsz := hbw.size
    go_wp2_with fail
    refine (specDefendedBy_any (N := N) (X := X) (S := itS N X k) hl hn (hrk.more hsz) (Lib.hid rfl) (by have := HL.out; omega) hrd).mono ?_
    rintro e w3 ⟨v, rfl, hrow, hb3⟩
    have hrow' : Row w3 wr.heap.size w3.heap.size 3 v (ivs (itS N X (k + 1))) := hrow
    obtain ⟨Av, cv, rfl, hrdv, _, _⟩ := hrow'.rd (n := (itS N X (k + 1)).length) (ivs_len _)
    have hb5 := hbw.trans (hb3.mono hsz)
    have bx3 := bxk.new hb3
    have hr3 := hrk.below (hb3.mono hsz)
    have hrd3 := (hrd.below hb3).more hb3.size
    have hz3 := hb3.size
    clear C0 C1 hrow
    go_wp2_with fail
    refine (specEqualInts_any (zs := itS N X (k + 1)) (ys := itS N X k) (Lib.hid rfl) (Lib.hid rfl) (by have := HL1.out; omega) (by have := HL.out; omega) hrdv hrd3).mono ?_
    rintro e w4 ⟨rfl, hb4⟩
    have hb6 := hb5.trans (hb4.mono hb5.size)
    by_cases he : itS N X (k + 1) = itS N X k
    · have HF := Lib.hid (it_fix' hgr.out he)
      have HE := Lib.hid he
      have hd := Lib.hid (decide_eq_true he)
      rw [hd.out]
      clear he hd
      go_wp2_with fail
      go_ret
      exact ⟨_, rfl, by rw [← HF.out, ← HE.out]; exact (hrow'.new hb4).wide hsz hb4.size, hb6⟩
    · have HG : Hid (∀ j, j < k + 1 → itS N X (j + 1) ≠ itS N X j) := Lib.hid (fun j hj => by
        rcases Nat.lt_succ_iff_lt_or_eq.1 hj with h' | rfl
        · exact hgr.out j h'
        · exact he)
      have HW := Lib.hid (it_grow' he)
      have hd := Lib.hid (decide_eq_false he)
      rw [hd.out]
      clear he hd
      go_wp2_with fail
      go_roundw
      case rel => exact ⟨k + 1, Av, cv, rfl, (hrdv.below hb4).more hb4.size, hb6, bx3.new hb4, hr3.below (hb4.mono hb5.size), by have := hb4.size; omega, HG⟩
      case measure => have h1 := HW.out; have h2 := HL1.out; simp [slen]; omega
/-- Whether a set is complete. -/
def compB (N : Int) (X : List (List Int)) (S : List Int) : Bool := freeB N X S && decide (defL N X S = S)
theorem defL_len10 (N : Int) (X : List (List Int)) (S : List Int) : (defL N X S).length ≤ 10 := by
  cases hg : gB N X with
  | true =>
    obtain ⟨n, rfl, hn, _, _⟩ := gB_ok hg
    exact Nat.le_trans defL_len hn
  | false => rw [defL_none _ hg]; simp
set_option maxHeartbeats 4000000 in
theorem specIsComplete_any {w : World} {A A' : Option Addr} {n c n' c' : Nat} {N : Int} {X : List (List Int)} {S : List Int} (hl : Hid (X.length = n)) (hn : n ≤ 1099511627776) (hr : RdSS w w.heap.size A X) (hl' : Hid (S.length = n')) (hn' : n' ≤ 1099511627776) (hr' : Rd w w.heap.size A' (ivs S)) :
    Calls Try.prog 106 #[.agg #[.int .i64 N, .slice A n c], .slice A' n' c'] w (Tells (compB N X S) w) := by
  obtain ⟨W1, hW, bx1, hb1⟩ := one_graph w #[Value.int IntKind.i64 N, Value.slice A n c] 26
  have HR := Lib.hid ((hr.below hb1).more hb1.size)
  have HS := Lib.hid ((hr'.below hb1).more hb1.size)
  have hW' := hW.symm
  obtain ⟨C0, C1⟩ := bx1.two
  clear hW hr hr'
  go_enter Try.func106, Try.ntmps106
  go_wp2_with fail
  clear hW'
  refine (specIsFree_any (N := N) (X := X) (S := S) hl hn HR.out hl' hn' HS.out).mono ?_
  rintro e w3 ⟨rfl, hb3⟩
  have hb4 := hb1.trans (hb3.mono hb1.size)
  obtain ⟨D0, D1⟩ := (bx1.new hb3).two
  have hR3 := (HR.out.below hb3).more hb3.size
  have hS3 := (HS.out.below hb3).more hb3.size
  clear C0 C1
  by_cases hf : freeB N X S = true
  · have HF := Lib.hid (show compB N X S = decide (defL N X S = S) by unfold compB; rw [hf]; rfl)
    rw [hf]
    clear hf
    have HDL := Lib.hid (defL_len10 N X S)
    go_wp2_with fail
    refine (specDefendedBy_any (N := N) (X := X) (S := S) hl hn hR3 hl' hn' hS3).mono ?_
    rintro e w5 ⟨v, rfl, hrow, hb5⟩
    obtain ⟨Av, cv, rfl, hrdv, _, _⟩ := hrow.rd (n := (defL N X S).length) (ivs_len _)
    have hb6 := hb4.trans (hb5.mono hb4.size)
    have hS5 := (hS3.below hb5).more hb5.size
    clear D0 D1 hrow
    go_wp2_with fail
    refine (specEqualInts_any (zs := defL N X S) (ys := S) (Lib.hid rfl) hl' (by have := HDL.out; omega) (by omega) hrdv hS5).mono ?_
    rintro e w7 ⟨rfl, hb7⟩
    go_wp2_with fail
    go_ret
    exact ⟨ret_b HF.out.symm, hb6.trans (hb7.mono hb6.size)⟩
  · have hf' : freeB N X S = false := by simpa using hf
    have HF := Lib.hid (show compB N X S = false by unfold compB; rw [hf']; rfl)
    rw [hf']
    clear hf hf'
    go_wp2_with fail
    go_ret
    exact ⟨ret_b HF.out.symm, hb4⟩
end Go.Proofs.Ytpopcjamildhkaa
