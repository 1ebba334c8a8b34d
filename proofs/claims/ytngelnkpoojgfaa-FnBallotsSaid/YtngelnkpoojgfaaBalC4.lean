/- Contract of the code's Decision and of cmp.Or. Condition: the slice has at most 2^40 elements. -/
import Derived.Test.YtngelnkpoojgfaaBalC3
namespace Go.Proofs.Ytngelnkpoojgfaa
open Go.ChangeShapes Go.WideShapes Go.ChangeAt Go.RowKit
set_option maxRecDepth 100000
/-- The first that is not zero. -/
def orL : List Int → Int
  | [] => 0
  | x :: l => if x = 0 then orL l else x
theorem orL_cons (x : Int) (l : List Int) : orL (x :: l) = if x = 0 then orL l else x := rfl
theorem mor_1 {p q : Int} (h : q < p) : morN p q = 1 := if_pos h
theorem mor_2 {p q : Int} (h : p < q) : morN p q = 2 := by unfold morN; rw [if_neg (by omega), if_pos h]
theorem mor_0 {p q : Int} (h : ¬ q < p) (h2 : ¬ p < q) : morN p q = 0 := by unfold morN; rw [if_neg h, if_neg h2]
set_option maxHeartbeats 2000000 in
theorem or_any {w : World} {A : Option Addr} {n c : Nat} {X : List Int} (hl : Hid (X.length = n)) (hn : n ≤ 1099511627776) (hr : Rd w w.heap.size A (ivs X)) :
    Calls Try.prog 75 #[.slice A n c] w (fun e w' => e = .returned (.int .i64 (orL X)) ∧ w = w') := by
  go_enter Try.func75, Try.ntmps75
  go_wp2_with fail
  go_loopw [8] (fun i wr => ∃ k : Nat, k ≤ n ∧ i = .int .i64 k ∧ Hid (orL X = orL (X.drop k)) ∧ wr = w) (fun i _ => n - (intOf i).toNat)
  case atStart => exact ⟨0, Nat.zero_le _, rfl, Lib.hid (by rw [List.drop_zero]), rfl⟩
  case round =>
    obtain ⟨k, hk, rfl, ho, rfl⟩ := hrel
    by_cases hlt : k < n
    · have hkz : k < X.length := by rw [hl.out]; exact hlt
      obtain ⟨ad, rfl, hab, hc⟩ := ivs_at hr hkz
      have HD := Lib.hid (List.drop_eq_getElem_cons hkz)
      obtain ⟨x, hx⟩ : ∃ x, x = X[k] := ⟨_, rfl⟩
      rw [← hx] at hc HD
      have i0 : (0 : Int) ≤ (k : Int) := by omega
      have i1 : (k : Int) < (n : Int) := by omega
      clear hx
      by_cases hz : x = 0
      · have HV := Lib.hid (show orL X = orL (X.drop (k + 1)) by rw [ho.out, HD.out, orL_cons, if_pos hz])
        subst hz
        go_wp2_with fail
        go_roundw
        case rel => exact ⟨k + 1, by omega, by go_num, HV, trivial⟩
        case measure => simp [intOf]; omega
      · have HV := Lib.hid (show orL X = x by rw [ho.out, HD.out, orL_cons, if_neg hz])
        have hz' : (x != 0) = true := by simpa using hz
        go_wp2_with fail
        go_ret
        exact ⟨ret_i HV.out.symm, rfl⟩
    · have e : k = n := by omega
      subst e
      have HV := Lib.hid (show orL X = 0 by rw [ho.out, List.drop_of_length_le (by rw [hl.out]; exact Nat.le_refl _)]; rfl)
      go_wp2_with fail
      go_ret
      exact ⟨ret_i HV.out.symm, rfl⟩
theorem dec_or {X : List T3} (h0 : X.length ≠ 0) (h : bsB X = true) : decN X = orL [morN (votN X 1) (votN X 2), morN (sumN X 1) (sumN X 2), ofB (X.getD 0 (0, 0, 0))] := by
  rw [dec_of h0 h]
  unfold decD
  obtain ⟨V1, hV1⟩ : ∃ V, votN X 1 = V := ⟨_, rfl⟩
  obtain ⟨V2, hV2⟩ : ∃ V, votN X 2 = V := ⟨_, rfl⟩
  obtain ⟨S1, hS1⟩ : ∃ V, sumN X 1 = V := ⟨_, rfl⟩
  obtain ⟨S2, hS2⟩ : ∃ V, sumN X 2 = V := ⟨_, rfl⟩
  have ho := of_two (X.getD 0 (0, 0, 0))
  unfold sgnD
  rw [hV1, hV2, hS1, hS2]
  obtain ⟨O, hO⟩ : ∃ V, ofB (X.getD 0 (0, 0, 0)) = V := ⟨_, rfl⟩
  rw [hO] at ho ⊢
  clear hV1 hV2 hS1 hS2 hO h0 h
  by_cases a1 : V2 < V1
  · rw [if_neg (show ¬ V1 - V2 = 0 by omega), if_pos (show 0 < V1 - V2 by omega), mor_1 a1, orL_cons, if_neg (by omega)]
  · by_cases a2 : V1 < V2
    · rw [if_neg (show ¬ V1 - V2 = 0 by omega), if_neg (show ¬ 0 < V1 - V2 by omega), if_pos (show V1 - V2 < 0 by omega), mor_2 a2, orL_cons, if_neg (by omega)]
    · rw [if_pos (show V1 - V2 = 0 by omega), mor_0 a1 a2, orL_cons, if_pos rfl]
      by_cases b1 : S2 < S1
      · rw [if_pos (show 0 < S1 - S2 by omega), mor_1 b1, orL_cons, if_neg (by omega)]
      · by_cases b2 : S1 < S2
        · rw [if_neg (show ¬ 0 < S1 - S2 by omega), if_pos (show S1 - S2 < 0 by omega), mor_2 b2, orL_cons, if_neg (by omega)]
        · rw [if_neg (show ¬ 0 < S1 - S2 by omega), if_neg (show ¬ S1 - S2 < 0 by omega), mor_0 b1 b2, orL_cons, if_pos rfl, orL_cons, if_neg (show ¬ O = 0 by omega)]
set_option maxHeartbeats 8000000 in
theorem impDecision_any {w : World} {A : Option Addr} {n c : Nat} {X : List T3} (hl : Hid (X.length = n)) (hn : n ≤ 1099511627776) (hr : Rd w w.heap.size A (t3s X)) :
    Calls Try.prog 48 #[.slice A n c] w (fun e w' => e = .returned (.int .i64 (decN X)) ∧ Below w.heap.size w w') := by
  by_cases h0 : n = 0
  · have HV := Lib.hid (show decN X = 0 by unfold decN; rw [if_pos (hl.out.trans h0)])
    subst h0
    go_enter Try.func48, Try.ntmps48
    go_wp2_with fail
    go_ret
    exact ⟨ret_i HV.out.symm, Below.refl _ _⟩
  have hxl : X.length ≠ 0 := by rw [hl.out]; exact h0
  have hX0 : 0 < X.length := by omega
  have hn0 : 0 < n := by omega
  have i1 : (0 : Int) < (n : Int) := by omega
  have hz0 : ((n : Int) == 0) = false := by simp; omega
  by_cases hB : bsB X = true
  · have HD := Lib.hid (dec_or hxl hB)
    have HB := Lib.hid hB
    have HBL := Lib.hid (show blB X[0] = true from bs_mem hB X[0] (List.getElem_mem _))
    have HR := Lib.hid hr
    clear hr hB hxl
    obtain ⟨V1, hV1⟩ : ∃ V, votN X 1 = V := ⟨_, rfl⟩
    obtain ⟨V2, hV2⟩ : ∃ V, votN X 2 = V := ⟨_, rfl⟩
    obtain ⟨S1, hS1⟩ : ∃ V, sumN X 1 = V := ⟨_, rfl⟩
    obtain ⟨S2, hS2⟩ : ∃ V, sumN X 2 = V := ⟨_, rfl⟩
    rw [hV1, hV2, hS1, hS2, getT hX0] at HD
    have HV := Lib.hid (And.intro hV1 (And.intro hV2 (And.intro hS1 hS2)))
    clear hV1 hV2 hS1 hS2
    go_enter Try.func48, Try.ntmps48
    go_wp2_with fail
    refine (impAreBallots_any hl hn HR.out).mono ?_
    rintro e w1 ⟨rfl, b1⟩
    rw [HB.out]
    go_wp2_with fail
    refine (sumsOf_any hl hn ((HR.out.below b1).more b1.size)).mono ?_
    rintro e w2 ⟨rfl, r⟩
    rw [HV.out.1, HV.out.2.1, HV.out.2.2.1, HV.out.2.2.2]
    have b2 := b1.trans (r.mono b1.size)
    obtain ⟨W3, hW3, bx3, b3, hz3⟩ := box4 w2 80 (.int .i64 V1) (.int .i64 V2) (.int .i64 S1) (.int .i64 S2)
    have HW3 := Lib.hid hW3
    have b4 := b2.trans (b3.mono b2.size)
    obtain ⟨ad, p, rfl, hp, hab, g0, g1, g2⟩ := t3_cells ((HR.out.below b4).more b4.size) hX0
    rw [Nat.zero_mul] at hp
    rw [show ad.add 0 = ad by simp [Addr.add]] at hp
    subst hp
    obtain ⟨x, hx⟩ : ∃ x, x = X[0] := ⟨_, rfl⟩
    rw [← hx] at g0 g1 g2 HD HBL
    have hbc := (bl_parts HBL.out).2.2
    obtain ⟨M1, hM1⟩ : ∃ V, morN V1 V2 = V := ⟨_, rfl⟩
    obtain ⟨M2, hM2⟩ : ∃ V, morN S1 S2 = V := ⟨_, rfl⟩
    obtain ⟨O, hO⟩ : ∃ V, ofB x = V := ⟨_, rfl⟩
    rw [hM1, hM2, hO] at HD
    have HM1 := Lib.hid hM1
    have HM2 := Lib.hid hM2
    have HO := Lib.hid (show ofB (x.1, x.2.1, x.2.2) = O from hO)
    have KE := fun (u : World) (q : Below W3.heap.size W3 u) => show Below W3.heap.size W3 u ∧ u.cell? ⟨w2.heap.size, 0, none⟩ = some (.int .i64 V1) ∧ u.cell? ⟨w2.heap.size, 1, none⟩ = some (.int .i64 V2) ∧ u.cell? ⟨w2.heap.size, 2, none⟩ = some (.int .i64 S1) ∧ u.cell? ⟨w2.heap.size, 3, none⟩ = some (.int .i64 S2) ∧ u.cell? ad = some (.int .i64 x.1) ∧ u.cell? ⟨ad.block, ad.off + 1, none⟩ = some (.int .i64 x.2.1) ∧ u.cell? ⟨ad.block, ad.off + 2, none⟩ = some (.int .i64 x.2.2) from ⟨q, (bx3.cells4 q).1, (bx3.cells4 q).2.1, (bx3.cells4 q).2.2.1, (bx3.cells4 q).2.2.2, cell_nw q g0, cell_nw q g1, cell_nw q g2⟩
    obtain ⟨_, n0, n1, n2, n3, _, _, _⟩ := KE W3 (Below.refl _ _)
    clear hx hW3 hz3 b1 r b2 b3 hM1 hM2 hO HBL
    go_wp2_with fail
    rw [HW3.out]
    go_region_held3 (fun u => Below W3.heap.size W3 u ∧ u.cell? ⟨w2.heap.size, 0, none⟩ = some (.int .i64 V1) ∧ u.cell? ⟨w2.heap.size, 1, none⟩ = some (.int .i64 V2) ∧ u.cell? ⟨w2.heap.size, 2, none⟩ = some (.int .i64 S1) ∧ u.cell? ⟨w2.heap.size, 3, none⟩ = some (.int .i64 S2) ∧ u.cell? ad = some (.int .i64 x.1) ∧ u.cell? ⟨ad.block, ad.off + 1, none⟩ = some (.int .i64 x.2.1) ∧ u.cell? ⟨ad.block, ad.off + 2, none⟩ = some (.int .i64 x.2.2)) (first | assumption | exact KE _ (Below.refl W3.heap.size W3) | exact KE _ (Below.refl W3.heap.size W3).drew | exact KE _ k9 | exact KE _ k9.drew | exact KE _ ka | exact KE _ (((‹Below W3.heap.size W3 _ ∧ _›).1).alloc ((‹Below W3.heap.size W3 _ ∧ _›).1).size _))
      (first
        | (go_at_call_of 76 (Value.agg #[Value.int IntKind.i64 V1, Value.int IntKind.i64 V2]); refine (teamMore_any).mono ?_; rintro e u9 ⟨he, hb9⟩; rw [HM1.out] at he; subst he; have k9 := trans_new (‹Below W3.heap.size W3 _ ∧ _›).1 hb9)
        | (go_at_call_of 76 (Value.agg #[Value.int IntKind.i64 S1, Value.int IntKind.i64 S2]); refine (teamMore_any).mono ?_; rintro e u9 ⟨he, hb9⟩; rw [HM2.out] at he; subst he; have k9 := trans_new (‹Below W3.heap.size W3 _ ∧ _›).1 hb9)
        | (go_at_call 77; refine (choiceOf_any hbc).mono ?_; rintro e u9 ⟨he, hb9⟩; rw [HO.out] at he; subst he; have k9 := trans_new (‹Below W3.heap.size W3 _ ∧ _›).1 hb9)
        | (go_at_call 75; refine (or_any (X := [M1, M2, O]) (Lib.hid rfl) (by simp) (by refine Rd.more (show Rd _ _ _ (ivs [M1, M2, O]) from Rd.made _ #[.int .i64 M1, .int .i64 M2, .int .i64 O] _) ?_; simp)).mono ?_; rintro e u9 ⟨rfl, rfl⟩; have ka := (‹Below W3.heap.size W3 _ ∧ _›).1))
    go_wp2_with fail
    go_ret
    exact ⟨ret_i HD.out.symm, b4.trans (ka.mono b4.size)⟩
  · have hB : bsB X = false := by simpa using hB
    have HV := Lib.hid (show decN X = 0 by unfold decN; rw [if_neg hxl, hB]; rfl)
    have HB := Lib.hid hB
    clear hB
    go_enter Try.func48, Try.ntmps48
    go_wp2_with fail
    refine (impAreBallots_any hl hn hr).mono ?_
    rintro e w1 ⟨rfl, b1⟩
    rw [HB.out]
    go_wp2_with fail
    go_ret
    exact ⟨ret_i HV.out.symm, b1⟩
end Go.Proofs.Ytngelnkpoojgfaa
