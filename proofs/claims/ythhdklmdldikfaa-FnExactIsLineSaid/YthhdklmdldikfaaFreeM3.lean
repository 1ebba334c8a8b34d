/- Contract of the model of IsStable. No conditions but that the slices have at most 2^40 elements. -/
import Derived.Test.YthhdklmdldikfaaFreeM2
namespace Go.Proofs.Ythhdklmdldikfaa
open Go.ChangeShapes Go.WideShapes Go.ChangeAt Go.RowKit
set_option maxRecDepth 100000
def outP (N : Int) (X : List (List Int)) (S : List Int) (k : Nat) : Bool := !(S.contains (k : Int)) && !((hit N X S).contains (k : Int))
/-- Whether a set is stable. -/
def stabB (N : Int) (X : List (List Int)) (S : List Int) : Bool := !(setB N X S && (List.range N.toNat).any (outP N X S)) && freeB N X S
theorem range_any {f : Nat → Bool} {k : Nat} : (List.range (k + 1)).any f = ((List.range k).any f || f k) := by
  rw [List.range_succ, List.any_append]; simp
set_option maxHeartbeats 4000000 in
theorem specIsStable_any {w : World} {A A' : Option Addr} {n c n' c' : Nat} {N : Int} {X : List (List Int)} {S : List Int} (hl : Hid (X.length = n)) (hn : n ≤ 1099511627776) (hr : RdSS w w.heap.size A X) (hl' : Hid (S.length = n')) (hn' : n' ≤ 1099511627776) (hr' : Rd w w.heap.size A' (ivs S)) :
    Calls Try.prog 97 #[.agg #[.int .i64 N, .slice A n c], .slice A' n' c'] w (Tells (stabB N X S) w) := by
  obtain ⟨W1, hW, bx1, hb1⟩ := one_graph w #[Value.int IntKind.i64 N, Value.slice A n c] 26
  have HR := Lib.hid ((hr.below hb1).more hb1.size)
  have HS := Lib.hid ((hr'.below hb1).more hb1.size)
  have hW' := hW.symm
  obtain ⟨C0, C1⟩ := bx1.two
  clear hW hr hr'
  go_enter Try.func97, Try.ntmps97
  go_wp2_with fail
  clear hW'
  refine (specHitBy_any (N := N) (X := X) (S := S) hl hn HR.out hl' hn' HS.out).mono ?_
  rintro e w3 ⟨hv, rfl, hrh, hb3⟩
  obtain ⟨Ah, ch, rfl, hrd, _, _⟩ := hrh.rd (n := (hit N X S).length) (ivs_len _)
  have HHL := Lib.hid (hit_len N X S)
  have hb4 := hb1.trans (hb3.mono hb1.size)
  have hS3 := (HS.out.below hb3).more hb3.size
  have hR3 := (HR.out.below hb3).more hb3.size
  have bx3 := bx1.new hb3
  clear C0 C1 bx1 hrh
  go_wp2_with fail
  go_loopw [6] (fun i wr => ∃ k : Nat, k ≤ 10 ∧ i = .int .i64 k ∧ Below w3.heap.size w3 wr ∧ Hid (setB N X S = true → (List.range k).any (outP N X S) = false) ∧ Hid (k = 0 ∨ (k : Int) ≤ N)) (fun i _ => 10 - (intOf i).toNat)
  case atStart => exact ⟨0, by omega, rfl, Below.refl _ _, Lib.hid (fun _ => rfl), Lib.hid (.inl rfl)⟩
  case round =>
    obtain ⟨k, hk, rfl, hbw, hno, hkN⟩ := hrel
    have hb5 := hb4.trans (hbw.mono hb4.size)
    have bxk := bx3.new hbw
    have hRk := (hR3.below hbw).more hbw.size
    have hSk := (hS3.below hbw).more hbw.size
    have hHk := (hrd.below hbw).more hbw.size
    obtain ⟨D0, D1⟩ := bxk.two
    by_cases hkM : (k : Int) < N
    · go_wp2_with fail
      refine (specIsSet_any (N := N) (X := X) (S := S) hl hn hRk hl' hn' hSk).mono ?_
      rintro e w6 ⟨rfl, hb6⟩
      have hb7 := hb5.trans (hb6.mono hb5.size)
      have hbw6 := hbw.trans (hb6.mono hbw.size)
      have hR6 := (hRk.below hb6).more hb6.size
      have hS6 := (hSk.below hb6).more hb6.size
      have hH6 := (hHk.below hb6).more hb6.size
      obtain ⟨E0, E1⟩ := (bxk.new hb6).two
      clear D0 D1
      by_cases hset : setB N X S = true
      · obtain ⟨m, rfl, hm, _, _⟩ := gB_ok (setB_g hset)
        have hkm : k < 10 := by omega
        have HK := Lib.hid (show k + 1 = 0 ∨ ((k + 1 : Nat) : Int) ≤ m from .inr (by omega))
        have HO := Lib.hid (hno.out hset)
        have HSB := Lib.hid hset
        rw [hset]
        clear hset
        by_cases h1 : S.contains (k : Int) = true
        · have HN : Hid (setB m X S = true → (List.range (k + 1)).any (outP m X S) = false) := Lib.hid (fun _ => by rw [range_any, HO.out]; unfold outP; rw [h1]; rfl)
          have H1 := Lib.hid h1
          clear h1
          go_wp2_with fail
          refine (l4Has_any (S := S) (a := k) hl' hn' hS6).mono ?_
          rintro e w8 ⟨rfl, rfl⟩
          rw [H1.out]
          go_wp2_with fail
          go_roundw
          case rel => exact ⟨k + 1, by omega, by go_num, hbw6, HN, HK⟩
          case measure => simp [intOf]; omega
        · have h1' : S.contains (k : Int) = false := by simpa using h1
          have H1 := Lib.hid h1'
          by_cases h2 : (hit m X S).contains (k : Int) = true
          · have HN : Hid (setB m X S = true → (List.range (k + 1)).any (outP m X S) = false) := Lib.hid (fun _ => by rw [range_any, HO.out]; unfold outP; rw [h2]; simp)
            have H2 := Lib.hid h2
            clear h1 h1' h2
            go_wp2_with fail
            refine (l4Has_any (S := S) (a := k) hl' hn' hS6).mono ?_
            rintro e w8 ⟨rfl, rfl⟩
            rw [H1.out]
            go_wp2_with fail
            refine (l4Has_any (S := hit m X S) (a := k) (Lib.hid rfl) (by have := HHL.out; omega) hH6).mono ?_
            rintro e w8 ⟨rfl, rfl⟩
            rw [H2.out]
            go_wp2_with fail
            go_roundw
            case rel => exact ⟨k + 1, by omega, by go_num, hbw6, HN, HK⟩
            case measure => simp [intOf]; omega
          · have h2' : (hit m X S).contains (k : Int) = false := by simpa using h2
            have HB := Lib.hid (show stabB m X S = false by
              unfold stabB
              rw [HSB.out, show (List.range (m : Int).toNat).any (outP m X S) = true from List.any_eq_true.2 ⟨k, List.mem_range.2 (by omega), by unfold outP; rw [h1', h2']; rfl⟩]
              rfl)
            have H2 := Lib.hid h2'
            clear h1 h1' h2 h2'
            go_wp2_with fail
            refine (l4Has_any (S := S) (a := k) hl' hn' hS6).mono ?_
            rintro e w8 ⟨rfl, rfl⟩
            rw [H1.out]
            go_wp2_with fail
            refine (l4Has_any (S := hit m X S) (a := k) (Lib.hid rfl) (by have := HHL.out; omega) hH6).mono ?_
            rintro e w8 ⟨rfl, rfl⟩
            rw [H2.out]
            go_wp2_with fail
            go_ret
            exact ⟨ret_b HB.out.symm, hb7⟩
      · have hset' : setB N X S = false := by simpa using hset
        have HF := Lib.hid (show stabB N X S = freeB N X S by unfold stabB; rw [hset']; rfl)
        rw [hset']
        clear hset hset'
        go_wp2_with fail
        refine (specIsFree_any (N := N) (X := X) (S := S) hl hn hR6 hl' hn' hS6).mono ?_
        rintro e w8 ⟨rfl, hb8⟩
        go_wp2_with fail
        go_ret
        exact ⟨ret_b HF.out.symm, hb7.trans (hb8.mono hb7.size)⟩
    · have HF := Lib.hid (show stabB N X S = freeB N X S by
        unfold stabB
        by_cases hset : setB N X S = true
        · obtain ⟨m, rfl, _, _, _⟩ := gB_ok (setB_g hset)
          have hh := hkN.out
          have e : (m : Int).toNat = k := by rcases hh with h | h <;> omega
          rw [e, hno.out hset, Bool.and_false]
          rfl
        · have hset' : setB N X S = false := by simpa using hset
          rw [hset']
          rfl)
      go_wp2_with fail
      refine (specIsFree_any (N := N) (X := X) (S := S) hl hn hRk hl' hn' hSk).mono ?_
      rintro e w8 ⟨rfl, hb8⟩
      go_wp2_with fail
      go_ret
      exact ⟨ret_b HF.out.symm, hb5.trans (hb8.mono hb5.size)⟩
end Go.Proofs.Ythhdklmdldikfaa
