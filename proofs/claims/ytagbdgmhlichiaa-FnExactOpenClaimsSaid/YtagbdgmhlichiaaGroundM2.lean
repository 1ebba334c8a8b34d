/- Contract of the model of RoundOf. No conditions but that the slices have at most 2^40 elements. -/
import Derived.Test.YtagbdgmhlichiaaGroundM
namespace Go.Proofs.Ytagbdgmhlichiaa
open Go.ChangeShapes Go.WideShapes Go.ChangeAt Go.RowKit
set_option maxRecDepth 100000
def rndT (N : Int) (X : List (List Int)) (c : Int) : Nat → Nat → Int
  | 0, _ => -1
  | f + 1, k => if (itS N X (k + 1)).contains c then ((k + 1 : Nat) : Int) else rndT N X c f (k + 1)
/-- The step at which a claim stands; -1 if none. -/
def rnd (N : Int) (X : List (List Int)) (c : Int) : Int := if gB N X then rndT N X c N.toNat 0 else -1
set_option maxHeartbeats 4000000 in
theorem specRoundOf_any {w : World} {A : Option Addr} {n c : Nat} {N a : Int} {X : List (List Int)} (hl : Hid (X.length = n)) (hn : n ≤ 1099511627776) (hr : RdSS w w.heap.size A X) :
    Calls Try.prog 43 #[.agg #[.int .i64 N, .slice A n c], .int .i64 a] w (fun e w' => e = .returned (.int .i64 (rnd N X a)) ∧ Below w.heap.size w w') := by
  obtain ⟨Wa, hWa, bx0, hb1⟩ := one_graph w #[Value.int IntKind.i64 N, Value.slice A n c] 26
  have hsa : Wa.heap.size = w.heap.size + 1 := by rw [hWa]; simp
  have hb2 : Below w.heap.size w (Wa.alloc (Obj.cells #[] 3)) := hb1.alloc hb1.size _
  have hrow0 := (Row.made (w := Wa) (w.heap.size + 1) #[] 0 3 (by omega) rfl (Nat.zero_le _)).wide (hi' := (Wa.alloc (Obj.cells #[] 3)).heap.size) (Nat.le_refl _) (by simp)
  have bx1 := bx0.new ((Below.refl Wa.heap.size Wa).alloc (Nat.le_refl _) (Obj.cells #[] 3))
  obtain ⟨W1, hW⟩ : ∃ u : World, u = Wa.alloc (Obj.cells #[] 3) := ⟨_, rfl⟩
  rw [← hW] at hb2 hrow0 bx1
  rw [hsa] at hrow0
  have hWf : (w.alloc (Obj.cells #[Value.int IntKind.i64 N, Value.slice A n c] 26)).alloc (Obj.cells #[] 3) = W1 := by rw [hW, hWa]
  have HR := Lib.hid (hr.below hb2)
  clear hW hWa hr bx0 hb1 hsa
  go_enter Try.func43, Try.ntmps43
  go_wp2_with fail
  try rw [hWf]
  clear hWf
  go_loopw [5, 6] (fun b i wr => ∃ (k : Nat) (Ab : Option Addr) (cb : Nat), k ≤ 10 ∧ i = .int .i64 ((k + 1 : Nat) : Int) ∧ b = .slice Ab (itS N X k).length cb ∧ Rd wr wr.heap.size Ab (ivs (itS N X k)) ∧ Below w.heap.size w wr ∧ Bx wr w.heap.size 26 #[Value.int IntKind.i64 N, Value.slice A n c] ∧ RdSS wr w.heap.size A X ∧ Hid (gB N X = true → rnd N X a = rndT N X a (N.toNat - k) k) ∧ Hid (k = 0 ∨ (k : Int) ≤ N)) (fun _ i _ => 12 - (intOf i).toNat)
  case atStart =>
    obtain ⟨Ab, cb, e, hrd, _, _⟩ := hrow0.rd (n := 0) rfl
    exact ⟨0, Ab, cb, by omega, rfl, e, hrd, hb2, bx1, HR.out, Lib.hid (fun hg => by unfold rnd; rw [if_pos hg]; rfl), Lib.hid (.inl rfl)⟩
  case round =>
    obtain ⟨k, Ab, cb, hk, rfl, rfl, hrd, hbw, bxk, hrk, hrn, hkN⟩ := hrel
    obtain ⟨C0, C1⟩ := bxk.two
    have hsz := hbw.size
    have HL := Lib.hid (it_len10 N X k)
    have HL1 := Lib.hid (it_len10 N X (k + 1))
    by_cases hkM : ((k + 1 : Nat) : Int) ≤ N
    · have hkM' : (k : Int) + 1 ≤ N := by omega
      go_wp2_with fail
      refine (specIsGraph_any (N := N) (X := X) (c := c) hl hn (hrk.more hsz)).mono ?_
      rintro e w3 ⟨rfl, hb3⟩
      have hb5 := hbw.trans (hb3.mono hsz)
      have bx3 := bxk.new hb3
      have hr3 := hrk.below (hb3.mono hsz)
      have hrd3 := (hrd.below hb3).more hb3.size
      have hz3 := hb5.size
      obtain ⟨D0, D1⟩ := bx3.two
      clear C0 C1
      by_cases hg : gB N X = true
      · have HK := Lib.hid (show k + 1 = 0 ∨ ((k + 1 : Nat) : Int) ≤ N from .inr hkM)
        have h10 : k + 1 ≤ 10 := by obtain ⟨m, rfl, hm, _, _⟩ := gB_ok hg; omega
        have hfu : N.toNat - k = (N.toNat - (k + 1)) + 1 := by omega
        have hrn' := hrn.out hg
        rw [hfu] at hrn'
        unfold rndT at hrn'
        have HN := Lib.hid hrn'
        rw [hg]
        clear hrn' hfu
        have HGT := Lib.hid hg
        clear hg
        go_wp2_with fail
        refine (specDefendedBy_any (N := N) (X := X) (S := itS N X k) hl hn (hr3.more hz3) (Lib.hid rfl) (by have := HL.out; omega) hrd3).mono ?_
        rintro e w4 ⟨v, rfl, hrow, hb4⟩
        have hrow' : Row w4 w3.heap.size w4.heap.size 3 v (ivs (itS N X (k + 1))) := hrow
        obtain ⟨Av, cv, rfl, hrdv, _, _⟩ := hrow'.rd (n := (itS N X (k + 1)).length) (ivs_len _)
        have hb6 := hb5.trans (hb4.mono hz3)
        have bx4 := bx3.new hb4
        have hr4 := hr3.below (hb4.mono hz3)
        clear D0 D1 hrow hrow'
        by_cases h1 : (itS N X (k + 1)).contains a = true
        · have HY := Lib.hid (HN.out.trans (by rw [if_pos h1]))
          have H1 := Lib.hid h1
          clear h1
          go_wp2_with fail
          refine (l4Has_any (S := itS N X (k + 1)) (a := a) (Lib.hid rfl) (by have := HL1.out; omega) hrdv).mono ?_
          rintro e w5 ⟨rfl, rfl⟩
          rw [H1.out]
          go_wp2_with fail
          go_ret
          exact ⟨by rw [HY.out]; simp, hb6⟩
        · have h1' : (itS N X (k + 1)).contains a = false := by simpa using h1
          have HY := Lib.hid (HN.out.trans (by rw [if_neg h1]))
          have H1 := Lib.hid h1'
          clear h1 h1'
          go_wp2_with fail
          refine (l4Has_any (S := itS N X (k + 1)) (a := a) (Lib.hid rfl) (by have := HL1.out; omega) hrdv).mono ?_
          rintro e w5 ⟨rfl, rfl⟩
          rw [H1.out]
          go_wp2_with fail
          go_roundw
          case rel => exact ⟨k + 1, Av, cv, h10, by go_num, rfl, hrdv, hb6, bx4, hr4, Lib.hid (fun _ => HY.out), HK⟩
          case measure => simp [intOf]; omega
      · have hg' : gB N X = false := by simpa using hg
        have HF := Lib.hid (show rnd N X a = -1 by unfold rnd; rw [if_neg hg])
        rw [hg']
        clear hg hg'
        go_wp2_with fail
        go_ret
        exact ⟨by rw [HF.out]; rfl, hb5⟩
    · have hkM' : ¬ ((k : Int) + 1 ≤ N) := by omega
      have HF := Lib.hid (show rnd N X a = -1 by
        by_cases hg : gB N X = true
        · rw [hrn.out hg, show N.toNat - k = 0 by omega]
          rfl
        · unfold rnd; rw [if_neg hg])
      go_wp2_with fail
      go_ret
      exact ⟨by rw [HF.out]; rfl, hbw⟩
end Go.Proofs.Ytagbdgmhlichiaa
