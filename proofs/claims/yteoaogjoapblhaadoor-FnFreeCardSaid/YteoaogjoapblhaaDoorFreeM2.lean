/- Contracts of the models of chapter 5: DefendedBy, IsAdmissible, IsStable. No conditions but that the slices have at most 2^40 elements. -/
import Derived.Test.YteoaogjoapblhaaDoorFreeM
import Derived.Test.YteoaogjoapblhaaDoorMg3
namespace Go.Proofs.YteoaogjoapblhaaDoor
open Go.ChangeShapes Go.WideShapes Go.ChangeAt Go.RowKit
set_option maxRecDepth 100000
def defT (N : Int) (X : List (List Int)) (S : List Int) (k : Nat) : List Int := ((List.range k).filter fun (j : Nat) => defB N X S j).map fun (j : Nat) => (j : Int)
/-- What a set defends. -/
def defL (N : Int) (X : List (List Int)) (S : List Int) : List Int := if setB N X S then defT N X S N.toNat else []
theorem defT_yes {N : Int} {X : List (List Int)} {S : List Int} {k : Nat} (h : defB N X S k = true) : defT N X S (k + 1) = defT N X S k ++ [(k : Int)] := by simp [defT, List.range_succ, h]
theorem defT_no {N : Int} {X : List (List Int)} {S : List Int} {k : Nat} (h : defB N X S k = false) : defT N X S (k + 1) = defT N X S k := by simp [defT, List.range_succ, h]
theorem defT_len (N : Int) (X : List (List Int)) (S : List Int) (k : Nat) : (defT N X S k).length ≤ k := by
  unfold defT
  rw [List.length_map]
  exact Nat.le_trans (List.length_filter_le _ _) (by simp)
theorem setB_g {N : Int} {X : List (List Int)} {S : List Int} (h : setB N X S = true) : gB N X = true := by
  unfold setB at h; rw [Bool.and_eq_true] at h; exact h.1
/-- Whether a set is admissible. -/
def admB (N : Int) (X : List (List Int)) (S : List Int) : Bool := !(S.any fun z => !(defB N X S z)) && freeB N X S
set_option maxHeartbeats 4000000 in
theorem specIsAdmissible_any {w : World} {A A' : Option Addr} {n c n' c' : Nat} {N : Int} {X : List (List Int)} {S : List Int} (hl : Hid (X.length = n)) (hn : n ≤ 1099511627776) (hr : RdSS w w.heap.size A X) (hl' : Hid (S.length = n')) (hn' : n' ≤ 1099511627776) (hr' : Rd w w.heap.size A' (ivs S)) :
    Calls Tryd.prog 7 #[.agg #[.int .i64 N, .slice A n c], .slice A' n' c'] w (Tells (admB N X S) w) := by
  obtain ⟨W1, hW, bx1, hb1⟩ := one_graph w #[Value.int IntKind.i64 N, Value.slice A n c] 26
  have HR := Lib.hid (hr.below hb1)
  have HS := Lib.hid (hr'.below hb1)
  have hW' := hW.symm
  clear hW hr hr'
  go_enter Tryd.func7, Tryd.ntmps7
  go_wp2_with fail
  try rw [hW']
  clear hW'
  go_loopw [5] (fun i wr => ∃ k : Nat, k ≤ n' ∧ i = .int .i64 k ∧ Below W1.heap.size W1 wr ∧ Hid ((S.take k).any (fun z => !(defB N X S z)) = false)) (fun i _ => n' - (intOf i).toNat)
  case atStart => exact ⟨0, Nat.zero_le _, rfl, Below.refl _ _, Lib.hid rfl⟩
  case round =>
    obtain ⟨k, hk, rfl, hbw, hno⟩ := hrel
    have hb4 := hb1.trans (hbw.mono hb1.size)
    have bxk := bx1.new hbw
    have hrk := HR.out.below (hbw.mono hb1.size)
    have hsk := HS.out.below (hbw.mono hb1.size)
    have hsz := hb4.size
    obtain ⟨D0, D1⟩ := bxk.two
    by_cases hlt : k < n'
    · have hkz : k < S.length := by rw [hl'.out]; exact hlt
      obtain ⟨ad, rfl, hab, hc⟩ := ivs_at hsk hkz
      have HA := Lib.hid (any_takeF (f := fun z => !(defB N X S z)) hkz)
      rw [hno.out, Bool.false_or] at HA
      obtain ⟨z, hz⟩ : ∃ z, z = S[k] := ⟨_, rfl⟩
      rw [← hz] at hc HA
      have i0 : (0 : Int) ≤ (k : Int) := by omega
      have HRK := Lib.hid (hrk.more hsz)
      have HSK := Lib.hid (hsk.more hsz)
      have hRd : RdSS wr.drew wr.drew.heap.size A X := HRK.out
      have hSd : Rd wr.drew wr.drew.heap.size (some ad) (ivs S) := HSK.out
      have HRD := Lib.hid hRd
      have HSD := Lib.hid hSd
      clear hRd hSd hrk hsk
      by_cases h1 : defB N X S z = true
      · have HN := Lib.hid (HA.out.trans (by rw [h1]))
        have H1 := Lib.hid h1
        clear hz h1
        go_wp2_with fail
        go_region_law (first | (go_simp; go_at_call 20; refine (specDefends_any (N := N) (X := X) (S := S) (a := z) hl hn (by with_reducible exact HRD.out) hl' hn' (by with_reducible exact HSD.out)).mono ?_; rintro e w5 ⟨rfl, hb5⟩; rw [H1.out]))
        all_goals
          have hb6 := hbw.drew.trans (hb5.mono (show W1.heap.size ≤ _ from hbw.size))
          go_wp2
          go_roundw
          case rel => exact ⟨k + 1, by omega, by go_num, hb6, HN⟩
          case measure => simp [intOf]; omega
      · have h1' : defB N X S z = false := by simpa using h1
        have HB := Lib.hid (show admB N X S = false by
          unfold admB
          rw [show (S.any fun z => !(defB N X S z)) = true from List.any_eq_true.2 ⟨z, hz ▸ List.getElem_mem hkz, by rw [h1']; rfl⟩]
          rfl)
        have H1 := Lib.hid h1'
        clear hz h1 h1'
        go_wp2_with fail
        go_region_law (first | (go_simp; go_at_call 20; refine (specDefends_any (N := N) (X := X) (S := S) (a := z) hl hn (by with_reducible exact HRD.out) hl' hn' (by with_reducible exact HSD.out)).mono ?_; rintro e w5 ⟨rfl, hb5⟩; rw [H1.out]))
        all_goals
          have hb6 := hb4.drew.trans (hb5.mono (show w.heap.size ≤ _ from hsz))
          go_wp2
          go_ret
          exact ⟨ret_b HB.out.symm, hb6⟩
    · have e : k = n' := by omega
      subst e
      have HF := Lib.hid (show admB N X S = freeB N X S by
        have h := hno.out
        rw [List.take_of_length_le (by rw [hl'.out]; exact Nat.le_refl _)] at h
        unfold admB
        rw [h]
        rfl)
      go_wp2_with fail
      refine (specIsFree_any (N := N) (X := X) (S := S) hl hn (hrk.more hsz) hl' hn' (hsk.more hsz)).mono ?_
      rintro e w5 ⟨rfl, hb5⟩
      go_wp2_with fail
      go_ret
      exact ⟨ret_b HF.out.symm, hb4.trans (hb5.mono hb4.size)⟩
end Go.Proofs.YteoaogjoapblhaaDoor
