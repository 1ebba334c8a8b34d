/- Contracts of the code's DoesAttack, VictimsOf, AttackersOf, HitBy. No conditions but that the slices have at most 2^40 elements. -/
import Derived.Test.YteoaogjoapblhaaMg6
import Derived.Test.YteoaogjoapblhaaMg1
namespace Go.Proofs.Yteoaogjoapblhaa
open Go.ChangeShapes Go.WideShapes Go.ChangeAt Go.RowKit
set_option maxRecDepth 100000
theorem impDoesAttack_any {w : World} {A : Option Addr} {n c : Nat} {N a b : Int} {X : List (List Int)} (hl : Hid (X.length = n)) (hn : n ≤ 1099511627776) (hr : RdSS w w.heap.size A X) :
    Calls Try.prog 9 #[.agg #[.int .i64 N, .slice A n c], .int .i64 a, .int .i64 b] w (Tells (dA N X a b) w) := by
  have hb1 : Below w.heap.size w (w.alloc (Obj.cells #[Value.int IntKind.i64 N, Value.slice A n c] 26)) := (Below.refl _ _).alloc (Nat.le_refl _) _
  have HR := Lib.hid hr
  clear hr
  go_enter Try.func9, Try.ntmps9
  go_wp2_with fail
  obtain ⟨W1, hW⟩ : ∃ u : World, u = w.alloc (Obj.cells #[Value.int IntKind.i64 N, Value.slice A n c] 26) := ⟨_, rfl⟩
  rw [← hW] at hb1 ⊢
  clear hW
  refine (rowsOf_any hl hn ((HR.out.below hb1).more hb1.size)).mono ?_
  rintro e w2 ⟨rfl, hb2⟩
  have hb3 := hb1.trans (hb2.mono hb1.size)
  go_wp2_with fail
  refine (victims_any (rn_le N X).1 (rn_le N X).2).mono ?_
  rintro e w3 ⟨rfl, hb4⟩
  have hb5 := hb3.trans (hb4.mono hb3.size)
  go_wp2_with fail
  refine (has_any (vic_lt N X a)).mono ?_
  rintro e w4 ⟨rfl, rfl⟩
  go_wp2_with fail
  go_ret
  exact ⟨ret_b (dA_code N X a b), hb5⟩
theorem impVictimsOf_any {w : World} {A : Option Addr} {n c : Nat} {N a : Int} {X : List (List Int)} (hl : Hid (X.length = n)) (hn : n ≤ 1099511627776) (hr : RdSS w w.heap.size A X) :
    Calls Try.prog 12 #[.agg #[.int .i64 N, .slice A n c], .int .i64 a] w (Fresh 3 (ivs (vct N X a)) w) := by
  have hb1 : Below w.heap.size w (w.alloc (Obj.cells #[Value.int IntKind.i64 N, Value.slice A n c] 26)) := (Below.refl _ _).alloc (Nat.le_refl _) _
  have HR := Lib.hid hr
  clear hr
  go_enter Try.func12, Try.ntmps12
  go_wp2_with fail
  obtain ⟨W1, hW⟩ : ∃ u : World, u = w.alloc (Obj.cells #[Value.int IntKind.i64 N, Value.slice A n c] 26) := ⟨_, rfl⟩
  rw [← hW] at hb1 ⊢
  clear hW
  refine (rowsOf_any hl hn ((HR.out.below hb1).more hb1.size)).mono ?_
  rintro e w2 ⟨rfl, hb2⟩
  have hb3 := hb1.trans (hb2.mono hb1.size)
  go_wp2_with fail
  refine (victims_any (rn_le N X).1 (rn_le N X).2).mono ?_
  rintro e w3 ⟨rfl, hb4⟩
  have hb5 := hb3.trans (hb4.mono hb3.size)
  go_wp2_with fail
  refine (list_any (vic_lt N X a)).mono ?_
  rintro e w4 ⟨v, rfl, hrow, hb6⟩
  go_wp2_with fail
  go_ret
  exact ⟨v, rfl, by rw [← vct_code]; exact hrow.wide hb5.size (Nat.le_refl _), hb5.trans (hb6.mono hb5.size)⟩
theorem lsA_yes {f : Nat → Nat} {c : Int} {k : Nat} (h : (inr c 0 9 && (f k).testBit c.toNat) = true) : lsA f c (k + 1) = lsA f c k ++ [(k : Int)] := by
  unfold lsA
  rw [List.range_succ, List.filter_append, List.filter_cons, if_pos h]
  simp
theorem lsA_no {f : Nat → Nat} {c : Int} {k : Nat} (h : (inr c 0 9 && (f k).testBit c.toNat) = false) : lsA f c (k + 1) = lsA f c k := by
  unfold lsA
  rw [List.range_succ, List.filter_append, List.filter_cons, if_neg (by rw [h]; simp)]
  simp
theorem lsA_len (f : Nat → Nat) (c : Int) (k : Nat) : (lsA f c k).length ≤ k := by
  unfold lsA
  rw [List.length_map]
  exact Nat.le_trans (List.length_filter_le _ _) (by simp)
set_option maxHeartbeats 4000000 in
theorem impAttackersOf_any {w : World} {A : Option Addr} {n c : Nat} {N a : Int} {X : List (List Int)} (hl : Hid (X.length = n)) (hn : n ≤ 1099511627776) (hr : RdSS w w.heap.size A X) :
    Calls Try.prog 11 #[.agg #[.int .i64 N, .slice A n c], .int .i64 a] w (Fresh 3 (ivs (atk N X a)) w) := by
  obtain ⟨ti, hti, hz0, hz1, hz2⟩ := info_parts IntS_info
  have hb1 : Below w.heap.size w (w.alloc (Obj.cells #[Value.int IntKind.i64 N, Value.slice A n c] 26)) := (Below.refl _ _).alloc (Nat.le_refl _) _
  have HR := Lib.hid hr
  clear hr
  go_enter Try.func11, Try.ntmps11
  go_wp2_with fail
  obtain ⟨W1, hW⟩ : ∃ u : World, u = w.alloc (Obj.cells #[Value.int IntKind.i64 N, Value.slice A n c] 26) := ⟨_, rfl⟩
  rw [← hW] at hb1 ⊢
  clear hW
  refine (rowsOf_any hl hn ((HR.out.below hb1).more hb1.size)).mono ?_
  rintro e w2 ⟨rfl, hb2⟩
  have hb3 := hb1.trans (hb2.mono hb1.size)
  have HQ := Lib.hid (atk_code N X a)
  obtain ⟨r0, r1⟩ := rn_le N X
  have hfl := rf_lt N X
  generalize rf N X = f at hfl HQ ⊢
  obtain ⟨m, hm⟩ := Int.eq_ofNat_of_zero_le r0
  rw [hm, Int.toNat_natCast] at HQ
  rw [hm] at r1 ⊢
  clear hm r0
  have hb4 : Below w.heap.size w (w2.alloc (Obj.cells (arC 0 fun _ => 0) 51)) := hb3.alloc hb3.size _
  have bx4 := Bx.made w2 51 (arC 0 fun _ => 0)
  obtain ⟨W4, hW4⟩ : ∃ u : World, u = w2.alloc (Obj.cells (arC 0 fun _ => 0) 51) := ⟨_, rfl⟩
  have hs4 : W4.heap.size = w2.heap.size + 1 := by rw [hW4]; simp
  rw [← hW4] at hb4 bx4
  rw [← arC_lit 0] at hW4
  have hW4' := hW4.symm
  have o5 := setRow_out W4 w2.heap.size (arC m f) (Nat.le_refl _) (Nat.lt_succ_self _)
  have hb5 : Below w.heap.size w _ := hb4.trans (o5.below (by have := hb3.size; omega) (by have := hb4.size; omega))
  have bx5 := bx4.setRow (arC m f)
  obtain ⟨W5, hW5⟩ : ∃ u : World, u = W4.setRow w2.heap.size (arC m f) := ⟨_, rfl⟩
  rw [← hW5] at o5 hb5 bx5
  have HX := Lib.hid hW5.symm
  have hs5 := o5.size
  have hrow0 := Row.made (w := W5) (w2.heap.size + 1) #[] 0 3 (by omega) rfl (Nat.zero_le _)
  have hsw := hb3.size
  have bx6 := bx5.new ((Below.refl W5.heap.size W5).alloc (Nat.le_refl _) (Obj.cells #[] 3))
  have hb6 : Below w.heap.size w (W5.alloc (Obj.cells #[] 3)) := hb5.alloc hb5.size _
  have hrow6 := (hrow0.wide (hi' := (W5.alloc (Obj.cells #[] 3)).heap.size) (Nat.le_refl _) (by simp))
  obtain ⟨W6, hW6⟩ : ∃ u : World, u = W5.alloc (Obj.cells #[] 3) := ⟨_, rfl⟩
  rw [← hW6] at bx6 hb6 hrow6
  have hW6' := hW6.symm
  have E0 := bx6.at_ (k := 0) (v := .int .i64 m) rfl
  clear hW4 hW5 o5 hW6 hrow0
  go_wp2_with (first | (refine stAR (n := m) (f := f) rfl (.tmp 5) (.tmp 9) rfl bx4 rfl rfl rfl ?_; rw [HX.out]))
  generalize w2.heap.size = g at *
  clear E0 bx5 hb5 bx4 hb4 hW4' hW6'
  go_loopw [6, 13] (fun b i wr => ∃ k : Nat, k ≤ m ∧ i = .int .i64 k ∧ Row wr (g + 1) wr.heap.size 3 b (ivs (lsA f a k)) ∧ Below w.heap.size w wr ∧ Bx wr g 51 (arC m f)) (fun _ i _ => m - (intOf i).toNat)
  case atStart => exact ⟨0, Nat.zero_le _, rfl, hrow6, hb6, bx6⟩
  case round =>
    obtain ⟨k, hk, rfl, hrow, hbw, bxk⟩ := hrel
    have hsz := hbw.size
    clear hrow6 hb6 bx6
    by_cases hlt : k < m
    · have ck := bxk.at_ (arC_at m f (a := k) (by omega))
      have hfk := hfl k
      have hgk := bxk.lt
      obtain ⟨ys, hys⟩ : ∃ ys, ys = lsA f a k := ⟨_, rfl⟩
      have hyl : ys.length ≤ k := by rw [hys]; exact lsA_len f a k
      have i1 : (0 : Int) ≤ (k : Int) := by omega
      have i2 : (k : Int) < 10 := by omega
      by_cases hb : (inr a 0 9 && (f k).testBit a.toNat) = true
      · have HT := Lib.hid (lsA_yes hb)
        have HB := Lib.hid hb
        rw [← hys] at hrow HT
        have hbl : Below wr.heap.size wr (wr.alloc (Obj.cells #[Value.int .i64 k] 3)) := (Below.refl _ _).alloc (Nat.le_refl _) _
        have hrow2 := hrow.new hbl
        have hmade := Rd.made wr #[Value.int .i64 k] 3
        have L : (ivs ys).length + 1 ≤ maxLen ∧ ((ivs ys).length + 1) * 8 ≤ 140737488355328 := by rw [ivs_len]; unfold maxLen; omega
        have L1 := Lib.hid L
        clear L hys hb
        go_wp2_with (first
          | (go_at_call 34; refine (has_any hfk).mono ?_; rintro e w1 ⟨he, rfl⟩; rw [HB.out] at he; subst he)
          | (at_builtin; refine wpList_app rfl (.tmp 22) (.tmp 24) 34 rfl 3 ti _ 8 Try.underlying34 hti hz0 hz1 hz2 rfl rfl rfl hrow2 rfl hmade (by simp [Value.oneCell']) L1.out.1 L1.out.2 (by simp; omega) ?_; intro v1 w1 hrow1 ho1))
        go_roundw
        case rel => exact ⟨k + 1, by omega, by go_num, by rw [HT.out, ← ivs_snoc_l]; exact hrow1, hbw.trans ((hbl.mono hsz).trans (ho1.below (by omega) (by simp; omega))), (bxk.new hbl).out ho1 (by first | exact .inl (by omega) | exact .inr (by omega))⟩
        case measure => simp [intOf]; omega
      · have hb' : (inr a 0 9 && (f k).testBit a.toNat) = false := by simpa using hb
        have HT := Lib.hid (lsA_no hb')
        have HB := Lib.hid hb'
        rw [← hys] at hrow HT
        clear hys hb hb'
        go_wp2_with (go_at_call 34; refine (has_any hfk).mono ?_; rintro e w1 ⟨he, rfl⟩; rw [HB.out] at he; subst he)
        go_roundw
        case rel => exact ⟨k + 1, by omega, by go_num, by rw [HT.out]; exact hrow, hbw, bxk⟩
        case measure => simp [intOf]; omega
    · have e : k = m := by omega
      subst e
      go_wp2
      go_ret
      exact ⟨_, rfl, by rw [← HQ.out]; exact hrow.wide (by omega) (Nat.le_refl _), hbw⟩
end Go.Proofs.Yteoaogjoapblhaa
