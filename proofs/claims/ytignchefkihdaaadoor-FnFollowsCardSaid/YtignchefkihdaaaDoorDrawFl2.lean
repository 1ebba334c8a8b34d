/- The draws of chapter 11: DrawFollows, DrawIsAlways, DrawAreAlike; and the laws' 'with'. -/
import Derived.Test.YtignchefkihdaaaDoorDrawFl
import Derived.Test.YtignchefkihdaaaDoorTabC3
namespace Go.Proofs.YtignchefkihdaaaDoor
open Go.ChangeShapes Go.WideShapes Go.ChangeAt Go.RowKit
set_option maxRecDepth 100000
/-- A list and a formula were drawn. -/
def DrewLQ (w : World) (e : Ending) (w' : World) : Prop :=
  ∃ (X : List (List Int)) (f : List Int) (A A' : Option Addr) (c c' : Nat), ShF 3 X ∧ f.length ≤ 15 ∧ e = .returned (.tuple #[.slice A X.length c, .slice A' f.length c']) ∧ (X.length ≤ c ∧ c ≤ maxLen) ∧ (f.length ≤ c' ∧ c' ≤ maxLen) ∧ RdSS w' w'.heap.size A X ∧ Rd w' w'.heap.size A' (ivs f) ∧ Below w.heap.size w w'
set_option maxHeartbeats 4000000 in
theorem drawFol {w : World} {A : Option Addr} {n c : Nat} (h : Code8 w A n) : Calls Tryd.prog 5 #[.slice A n c] w (DrewLQ w) := by
  go_enter Tryd.func5, Tryd.ntmps5
  go_wp2_with fail
  refine (new_any h).mono ?_
  rintro e w1 ⟨rfl, hb1, cur1⟩
  have hlt := cur1.lt
  clear h
  go_wp2_with fail
  refine (l11List_any cur1).mono ?_
  rintro e w2 ⟨v, X, rfl, hset, hX, hg2, cur2⟩
  have hs2 := hg2.size
  clear cur1
  go_wp2_with fail
  refine (any10_any cur2).mono ?_
  rintro e w3 ⟨f, u, hf, rfl, hrf, hg3, cur3⟩
  have set3 := hset.only hg3 hlt
  obtain ⟨Ax, cx, rfl, qx, mx, rx⟩ := set3.rd hg3.size
  obtain ⟨Au, cu, rfl, qu, mu, ru⟩ := hrf.rd (Nat.le_refl _)
  have b3 := cur_below hb1 (only_trans hg2 hg3) (Nat.le_refl _)
  clear hset set3 hrf cur2 cur3 hg2 hg3
  go_wp2_with fail
  refine bodyPost_ret (v := .tuple #[.slice Ax X.length cx, .slice Au f.length cu]) (by simp [results, Tryd.results5, go_sem]) rfl ?_
  exact ⟨X, f, Ax, Au, cx, cu, hX, hf, rfl, ⟨qx, mx⟩, ⟨qu, mu⟩, rx, ru, b3⟩
theorem notL_le (f : List Int) : (notL f).length ≤ f.length + 1 := by
  unfold notL
  split
  · simp
  · simp
theorem joinL_le (a b : List Int) (x : Int) : (joinL a b x).length ≤ a.length + b.length + 1 := by
  unfold joinL
  split
  · simp; omega
  · simp
/-- A formula was drawn. -/
def DrewA (w : World) (e : Ending) (w' : World) : Prop :=
  ∃ (f : List Int) (A : Option Addr) (c : Nat), f.length ≤ 40 ∧ e = .returned (.slice A f.length c) ∧ (f.length ≤ c ∧ c ≤ maxLen) ∧ Rd w' w'.heap.size A (ivs f) ∧ Below w.heap.size w w'
set_option maxHeartbeats 4000000 in
theorem drawAlw {w : World} {A : Option Addr} {n c : Nat} (h : Code8 w A n) : Calls Tryd.prog 11 #[.slice A n c] w (DrewA w) := by
  go_enter Tryd.func11, Tryd.ntmps11
  go_wp2_with fail
  refine (new_any h).mono ?_
  rintro e w1 ⟨rfl, hb1, cur1⟩
  have hlt := cur1.lt
  clear h
  go_wp2_with fail
  refine (any10_any cur1).mono ?_
  rintro e w2 ⟨f, u, hf, rfl, hrf, hg2, cur2⟩
  go_wp2_with fail
  refine (once_any cur2 3 (by omega)).mono ?_
  rintro e w3 ⟨b, rfl, hg3, cur3⟩
  have rf3 := hrf.only hg3 hlt
  obtain ⟨Af, cf, rfl, qf, mf, rf⟩ := rf3.rd hg3.size
  have b3 := cur_below hb1 (only_trans hg2 hg3) (Nat.le_refl _)
  clear hrf rf3 hg2 hg3 cur1 cur2 cur3
  cases b with
  | false =>
    go_wp2_with fail
    go_ret
    exact ⟨f, Af, cf, by omega, rfl, ⟨qf, mf⟩, rf, b3⟩
  | true =>
    go_wp2_with fail
    refine (specNotOf_any (f := f) (Lib.hid rfl) (by omega) rf).mono ?_
    rintro e w4 ⟨v, rfl, hrow, r⟩
    have hl4 := notL_le f
    obtain ⟨A4, c4, rfl, r4, _, _⟩ := hrow.rd (n := (notL f).length) (ivs_len _)
    have rf4 := rd_nwF rf r
    have b4 := trans_nwF b3 r
    clear r hrow rf
    go_wp2_with fail
    refine (specJoin_any (a := f) (b := notL f) (Lib.hid rfl) (by omega) rf4 (Lib.hid rfl) (by omega) r4).mono ?_
    rintro e w5 ⟨v, rfl, hrow, r⟩
    have hl5 := joinL_le f (notL f) (-3)
    obtain ⟨A5, c5, rfl, r5, q5, m5⟩ := hrow.rd (n := (joinL f (notL f) (-3)).length) (ivs_len _)
    have b5 := trans_nwF b4 r
    clear r hrow rf4 r4
    go_wp2_with fail
    go_ret
    exact ⟨joinL f (notL f) (-3), A5, c5, by omega, rfl, ⟨q5, m5⟩, r5, b5⟩
/-- Two formulas were drawn. -/
def DrewAA (w : World) (e : Ending) (w' : World) : Prop :=
  ∃ (a b : List Int) (A A' : Option Addr) (c c' : Nat), a.length ≤ 40 ∧ b.length ≤ 40 ∧ e = .returned (.tuple #[.slice A a.length c, .slice A' b.length c']) ∧ (a.length ≤ c ∧ c ≤ maxLen) ∧ (b.length ≤ c' ∧ c' ≤ maxLen) ∧ Rd w' w'.heap.size A (ivs a) ∧ Rd w' w'.heap.size A' (ivs b) ∧ Below w.heap.size w w'
set_option maxHeartbeats 4000000 in
theorem drawAlk {w : World} {A : Option Addr} {n c : Nat} (h : Code8 w A n) : Calls Tryd.prog 15 #[.slice A n c] w (DrewAA w) := by
  go_enter Tryd.func15, Tryd.ntmps15
  go_wp2_with fail
  refine (new_any h).mono ?_
  rintro e w1 ⟨rfl, hb1, cur1⟩
  have hlt := cur1.lt
  clear h
  go_wp2_with fail
  refine (any10_any cur1).mono ?_
  rintro e w2 ⟨f, u, hf, rfl, hrf, hg2, cur2⟩
  have hs2 := hg2.size
  go_wp2_with fail
  refine (once_any cur2 2 (by omega)).mono ?_
  rintro e w3 ⟨b, rfl, hg3, cur3⟩
  have rf3 := hrf.only hg3 hlt
  have hs3 := hg3.size
  have g3 := only_trans hg2 hg3
  have b3 := cur_below hb1 g3 (Nat.le_refl _)
  clear hrf hg2 hg3 cur1 cur2
  cases b with
  | true =>
    obtain ⟨Af, cf, rfl, qf, mf, rf⟩ := rf3.rd hs3
    go_wp2_with fail
    refine (specNotOf_any (f := f) (Lib.hid rfl) (by omega) rf).mono ?_
    rintro e w4 ⟨v, rfl, hrow, r⟩
    have hl4 := notL_le f
    obtain ⟨A4, c4, rfl, r4, _, _⟩ := hrow.rd (n := (notL f).length) (ivs_len _)
    have rf4 := rd_nwF rf r
    have b4 := trans_nwF b3 r
    clear r hrow rf
    go_wp2_with fail
    refine (specNotOf_any (f := notL f) (Lib.hid rfl) (by omega) r4).mono ?_
    rintro e w5 ⟨v, rfl, hrow, r⟩
    have hl5 := notL_le (notL f)
    obtain ⟨A5, c5, rfl, r5, q5, m5⟩ := hrow.rd (n := (notL (notL f)).length) (ivs_len _)
    have rf5 := rd_nwF rf4 r
    have b5 := trans_nwF b4 r
    clear r hrow rf4 r4
    go_wp2_with fail
    refine bodyPost_ret (v := .tuple #[.slice Af f.length cf, .slice A5 (notL (notL f)).length c5]) (by simp [results, Tryd.results15, go_sem]) rfl ?_
    exact ⟨f, notL (notL f), Af, A5, cf, c5, by omega, by omega, rfl, ⟨qf, mf⟩, ⟨q5, m5⟩, rf5, r5, b5⟩
  | false =>
    go_wp2_with fail
    refine (any10_any cur3).mono ?_
    rintro e w4 ⟨g, v, hg, rfl, hrg, hg4, cur4⟩
    have rf4 := rf3.only hg4 hlt
    obtain ⟨Af, cf, rfl, qf, mf, rf⟩ := rf4.rd (by have := hg4.size; omega)
    obtain ⟨Ag, cg, rfl, qg, mg, rg⟩ := hrg.rd (Nat.le_refl _)
    have b4 := cur_below hb1 (only_trans g3 hg4) (Nat.le_refl _)
    clear rf3 rf4 hrg hg4 cur3 cur4 g3
    go_wp2_with fail
    refine bodyPost_ret (v := .tuple #[.slice Af f.length cf, .slice Ag g.length cg]) (by simp [results, Tryd.results15, go_sem]) rfl ?_
    exact ⟨f, g, Af, Ag, cf, cg, by omega, by omega, rfl, ⟨qf, mf⟩, ⟨qg, mg⟩, rf, rg, b4⟩
set_option maxHeartbeats 4000000 in
theorem withF_any {w : World} {A A' : Option Addr} {n n' c c' : Nat} {X : List (List Int)} {f : List Int} (hl : Hid (X.length = n)) (hn : n ≤ 1000000) (hr : RdSS w w.heap.size A X) (hl' : Hid (f.length = n')) (hc' : n' ≤ c') (hm' : c' ≤ maxLen) (hr' : Rd w w.heap.size A' (ivs f)) :
    Calls Tryd.prog 10 #[.slice A n c, .slice A' n' c'] w (fun e w' => ∃ (A2 : Option Addr) (c2 : Nat), e = .returned (.slice A2 (n + 1) c2) ∧ RdSS w' w'.heap.size A2 (X ++ [f]) ∧ Below w.heap.size w w') := by
  obtain ⟨i0, hi, hz0, hz1, hz2⟩ := info_parts FS_infoF
  obtain ⟨cs, hcel, hrd⟩ := rdSS_cel hr
  have hrow0 := Row.made (w := w) w.heap.size #[] 0 25 (Nat.le_refl _) rfl (Nat.zero_le _)
  have q1 : Below w.heap.size w (w.alloc (Obj.cells #[] 25)) := (Below.refl _ _).alloc (Nat.le_refl _) _
  have hcn : cs.length = n := hcel.1.trans hl.out
  have L := Lib.hid (show ([] : List Value).length + n ≤ maxLen ∧ (([] : List Value).length + n) * 24 ≤ 140737488355328 by unfold maxLen; simp; omega)
  have L2 := Lib.hid (show (([] : List Value) ++ cs).length + 1 ≤ maxLen ∧ ((([] : List Value) ++ cs).length + 1) * 24 ≤ 140737488355328 by unfold maxLen; simp; omega)
  have HCN := Lib.hid hcn
  have hrd1 := (hrd.below q1).more (Nat.le_refl _)
  have HONE := Lib.hid hcel.ones
  have HCEL := Lib.hid hcel
  clear hr hcn hcel
  go_enter Tryd.func10, Tryd.ntmps10
  go_wp2_with (first
    | (at_builtin; refine wpList_app rfl (.tmp 5) (.tmp 6) 24 rfl 25 i0 _ 24 Tryd.underlying24 hi hz0 hz1 hz2 rfl rfl rfl hrow0 HCN.out hrd1 HONE.out L.out.1 L.out.2 (by simp) ?_; intro v1 w3 hrow1 ho1; have r1 : Below w.heap.size w w3 := q1.trans (ho1.below (Nat.le_refl _) (by simp)); have hs1 := r1.size; have q2 : Below w3.heap.size w3 (w3.alloc (Obj.cells #[.slice A' n' c'] 25)) := (Below.refl _ _).alloc (Nat.le_refl _) _; have hrow2 := hrow1.new q2; have hmade := Rd.made w3 #[.slice A' n' c'] 25; have r2 := r1.trans (q2.mono hs1))
    | (at_builtin; refine wpList_app rfl (.tmp 7) (.tmp 9) 24 rfl 25 i0 _ 24 Tryd.underlying24 hi hz0 hz1 hz2 rfl rfl rfl hrow2 rfl hmade (by simp [Value.oneCell']) L2.out.1 L2.out.2 (by simp; omega) ?_; intro v9 w9 hrow9 ho9; have r9 := r2.trans (ho9.below (Nat.le_refl _) (by simp; omega)); obtain ⟨A9, c9, rfl, rd9, _, _⟩ := hrow9.rd (n := n + 1) (by simp [HCN.out])))
  go_ret
  refine ⟨A9, ⟨c9, rfl⟩, ?_, r9⟩
  have hc9 : Cel w9 w9.heap.size (([] ++ cs) ++ [.slice A' n' c']) (X ++ [f]) := by
    rw [List.nil_append]
    have one : Cel w w.heap.size [.slice A' f.length c'] [f] := Cel.one hr' (by rw [hl'.out]; exact hc') hm'
    rw [hl'.out] at one
    exact (HCEL.out.app one).new r9
  exact hc9.rd rd9
end Go.Proofs.YtignchefkihdaaaDoor
