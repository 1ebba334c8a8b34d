/- The draws of chapter 12: DrawSay, DrawTakeBack; and the laws' 'with'. -/
import Derived.Test.YtignchefkihdaaaDrawSt
import Derived.Test.YtignchefkihdaaaTabC3
namespace Go.Proofs.Ytignchefkihdaaa
open Go.ChangeShapes Go.WideShapes Go.ChangeAt Go.RowKit
set_option maxRecDepth 100000
/-- A list and a formula were drawn. -/
def DrewLF (w : World) (e : Ending) (w' : World) : Prop :=
  ∃ (X : List (List Int)) (f : List Int) (A A' : Option Addr) (c c' : Nat), Shr 5 X ∧ f.length ≤ 15 ∧ e = .returned (.tuple #[.slice A X.length c, .slice A' f.length c']) ∧ (X.length ≤ c ∧ c ≤ maxLen) ∧ (f.length ≤ c' ∧ c' ≤ maxLen) ∧ RdSS w' w'.heap.size A X ∧ Rd w' w'.heap.size A' (ivs f) ∧ Below w.heap.size w w'
set_option maxHeartbeats 4000000 in
theorem drawSay {w : World} {A : Option Addr} {n c : Nat} (h : Code8 w A n) : Calls Try.prog 14 #[.slice A n c] w (DrewLF w) := by
  go_enter Try.func14, Try.ntmps14
  go_wp2_with fail
  refine (new_any h).mono ?_
  rintro e w1 ⟨rfl, hb1, cur1⟩
  have hlt := cur1.lt
  clear h
  go_wp2_with fail
  refine (l12Any_any cur1).mono ?_
  rintro e w2 ⟨v, X, rfl, hset, hX, hg2, cur2⟩
  have hs2 := hg2.size
  clear cur1
  go_wp2_with fail
  refine (any10_any cur2).mono ?_
  rintro e w3 ⟨f, u, hf, rfl, hrf, hg3, cur3⟩
  have set3 := hset.only hg3 hlt
  obtain ⟨Ax, cx, rfl, qx, mx, rx⟩ := set3.rd hg3.size
  obtain ⟨Au, cu, rfl, qu, mu, ru⟩ := hrf.rd (Nat.le_refl _)
  have b3 := cur_below hb1 (only_trans hg2 hg3) (Nat.le_refl _)
  clear hset set3 hrf cur2 cur3 hg2 hg3
  go_wp2_with fail
  refine bodyPost_ret (v := .tuple #[.slice Ax X.length cx, .slice Au f.length cu]) (by simp [results, Try.results14, go_sem]) rfl ?_
  exact ⟨X, f, Ax, Au, cx, cu, hX, hf, rfl, ⟨qx, mx⟩, ⟨qu, mu⟩, rx, ru, b3⟩
theorem rdSS_nwS {w w' : World} {A : Option Addr} {X : List (List Int)} (h : RdSS w w.heap.size A X) (r : Below w.heap.size w w') : RdSS w' w'.heap.size A X := (h.below r).more r.size
theorem rd_nwS {w w' : World} {A : Option Addr} {xs : List Value} (h : Rd w w.heap.size A xs) (r : Below w.heap.size w w') : Rd w' w'.heap.size A xs := (h.below r).more r.size
theorem trans_nwS {a b c : World} (h : Below a.heap.size a b) (r : Below b.heap.size b c) : Below a.heap.size a c := h.trans (r.mono h.size)
set_option maxHeartbeats 4000000 in
theorem drawTb {w : World} {A : Option Addr} {n c : Nat} (h : Code8 w A n) : Calls Try.prog 24 #[.slice A n c] w (DrewLF w) := by
  obtain ⟨i0, hi, hz0, hz1, hz2⟩ := info_parts IntS_info
  go_enter Try.func24, Try.ntmps24
  go_wp2_with fail
  refine (drawSay h).mono ?_
  rintro e w1 ⟨X, f, Ax, Au, cx, cu, hX, hf, rfl, ⟨qx, mx⟩, ⟨qu, mu⟩, rx, ru, b1⟩
  have h1 := h.below b1
  clear h
  go_wp2_with fail
  refine (new_any h1).mono ?_
  rintro e w2 ⟨rfl, hb2, cur2⟩
  have HX := Lib.hid hX
  have hxl := hX.1
  clear h1 hX
  by_cases h0 : (0 : Int) < (X.length : Int)
  · have h0' : 0 < X.length := by omega
    go_wp2_with fail
    refine (once_any cur2 3 (by omega)).mono ?_
    rintro e w3 ⟨b, rfl, hg3, cur3⟩
    have b3 : Below w1.heap.size w1 w3 := cur_below hb2 hg3 (Nat.le_refl _)
    clear cur2
    cases b with
    | true =>
      go_wp2_with fail
      refine bodyPost_ret (v := .tuple #[.slice Ax X.length cx, .slice Au f.length cu]) (by simp [results, Try.results24, go_sem]) rfl ?_
      exact ⟨X, f, Ax, Au, cx, cu, HX.out, hf, rfl, ⟨qx, mx⟩, ⟨qu, mu⟩, rdSS_nwS rx b3, rd_nwS ru b3, trans_nwS b1 b3⟩
    | false =>
      have rx3 := rdSS_nwS rx b3
      have hrow0 := Row.made (w := w3) w3.heap.size #[] 0 3 (Nat.le_refl _) rfl (Nat.zero_le _)
      have q4 : Below w3.heap.size w3 (w3.alloc (Obj.cells #[] 3)) := (Below.refl _ _).alloc (Nat.le_refl _) _
      have cur4 := cur3.below q4
      obtain ⟨W4, hW4⟩ : ∃ u : World, w3.alloc (Obj.cells #[] 3) = u := ⟨_, rfl⟩
      have hs4 : W4.heap.size = w3.heap.size + 1 := by rw [← hW4]; simp
      rw [hW4] at hrow0 q4 cur4
      have HW4 := Lib.hid hW4
      have rx4 := rdSS_nwS rx3 q4
      have hl4 := cur3.lt
      clear hW4 cur3 rx3
      go_wp2_with fail
      rw [HW4.out]
      refine (below_any cur4 X.length (by omega)).mono ?_
      rintro e w5 ⟨k', ⟨k0, k1⟩, rfl, hg5, cur5⟩
      obtain ⟨k, rfl⟩ := Int.eq_ofNat_of_zero_le k0
      have hk : k < X.length := by omega
      have b5 : Below w1.heap.size w1 w5 := cur_below (trans_nwS b3 q4) hg5 (Nat.le_refl _)
      have row5 := (hrow0.out (Out.of_only hg5) (.inr (by omega)))
      have rx5 := rdSS_nwS rx b5
      obtain ⟨ad, Aj, cj, rfl, hab, hc, hcj, hmj, hrj⟩ := rx5.at_ hk
      have hxk := HX.out.2 X[k] (List.getElem_mem _)
      obtain ⟨x, hx⟩ : ∃ x, X[k] = x := ⟨_, rfl⟩
      rw [hx] at hc hcj hrj hxk
      have L := Lib.hid (show ([] : List Value).length + x.length ≤ maxLen ∧ (([] : List Value).length + x.length) * 8 ≤ 140737488355328 by unfold maxLen; simp; omega)
      have hs5 := hg5.size
      clear cur4 cur5 hg5 hrow0 rx4 hx
      go_wp2_with (at_builtin; refine wpList_app rfl (.tmp 22) (.tmp 29) 25 rfl 3 i0 _ 8 Try.underlying25 hi hz0 hz1 hz2 rfl rfl rfl row5 (ivs_len x) hrj int_one L.out.1 L.out.2 (by omega) ?_; intro v6 w6 hrow6 ho6; obtain ⟨A6, c6, rfl, r6, q6, m6⟩ := hrow6.rd (n := x.length) (by simp [ivs_len]))
      have b6 : Below w1.heap.size w5 w6 := ho6.below (by have := b3.size; omega) b5.size
      refine bodyPost_ret (v := .tuple #[.slice (some ad) X.length cx, .slice A6 x.length c6]) (by simp [results, Try.results24, go_sem]) rfl ?_
      exact ⟨X, x, some ad, A6, cx, c6, HX.out, hxk, rfl, ⟨qx, mx⟩, ⟨q6, m6⟩, rdSS_nwS rx (b5.trans b6), by simpa using r6, trans_nwS b1 (b5.trans b6)⟩
  · go_wp2_with fail
    refine bodyPost_ret (v := .tuple #[.slice Ax X.length cx, .slice Au f.length cu]) (by simp [results, Try.results24, go_sem]) rfl ?_
    exact ⟨X, f, Ax, Au, cx, cu, HX.out, hf, rfl, ⟨qx, mx⟩, ⟨qu, mu⟩, rdSS_nwS rx hb2, rd_nwS ru hb2, trans_nwS b1 hb2⟩
set_option maxHeartbeats 4000000 in
theorem with_any {w : World} {A A' : Option Addr} {n n' c c' : Nat} {X : List (List Int)} {f : List Int} (hl : Hid (X.length = n)) (hn : n ≤ 1000000) (hr : RdSS w w.heap.size A X) (hl' : Hid (f.length = n')) (hc' : n' ≤ c') (hm' : c' ≤ maxLen) (hr' : Rd w w.heap.size A' (ivs f)) :
    Calls Try.prog 22 #[.slice A n c, .slice A' n' c'] w (fun e w' => ∃ (A2 : Option Addr) (c2 : Nat), e = .returned (.slice A2 (n + 1) c2) ∧ RdSS w' w'.heap.size A2 (X ++ [f]) ∧ Below w.heap.size w w') := by
  obtain ⟨i0, hi, hz0, hz1, hz2⟩ := info_parts FS_info
  obtain ⟨cs, hcel, hrd⟩ := rdSS_cel hr
  have hrow0 := Row.made (w := w) w.heap.size #[] 0 25 (Nat.le_refl _) rfl (Nat.zero_le _)
  have q1 : Below w.heap.size w (w.alloc (Obj.cells #[] 25)) := (Below.refl _ _).alloc (Nat.le_refl _) _
  have hcn : cs.length = n := hcel.1.trans hl.out
  have L := Lib.hid (show ([] : List Value).length + n ≤ maxLen ∧ (([] : List Value).length + n) * 24 ≤ 140737488355328 by unfold maxLen; simp; omega)
  have L2 := Lib.hid (show (([] : List Value) ++ cs).length + 1 ≤ maxLen ∧ ((([] : List Value) ++ cs).length + 1) * 24 ≤ 140737488355328 by unfold maxLen; simp; omega)
  have HCN := Lib.hid hcn
  have hrd1 := (hrd.below q1).more (Nat.le_refl _)
  have HONE := Lib.hid hcel.ones
  have HCEL := Lib.hid hcel
  clear hr hcn hcel
  go_enter Try.func22, Try.ntmps22
  go_wp2_with (first
    | (at_builtin; refine wpList_app rfl (.tmp 5) (.tmp 6) 24 rfl 25 i0 _ 24 Try.underlying24 hi hz0 hz1 hz2 rfl rfl rfl hrow0 HCN.out hrd1 HONE.out L.out.1 L.out.2 (by simp) ?_; intro v1 w3 hrow1 ho1; have r1 : Below w.heap.size w w3 := q1.trans (ho1.below (Nat.le_refl _) (by simp)); have hs1 := r1.size; have q2 : Below w3.heap.size w3 (w3.alloc (Obj.cells #[.slice A' n' c'] 25)) := (Below.refl _ _).alloc (Nat.le_refl _) _; have hrow2 := hrow1.new q2; have hmade := Rd.made w3 #[.slice A' n' c'] 25; have r2 := r1.trans (q2.mono hs1))
    | (at_builtin; refine wpList_app rfl (.tmp 7) (.tmp 9) 24 rfl 25 i0 _ 24 Try.underlying24 hi hz0 hz1 hz2 rfl rfl rfl hrow2 rfl hmade (by simp [Value.oneCell']) L2.out.1 L2.out.2 (by simp; omega) ?_; intro v9 w9 hrow9 ho9; have r9 := r2.trans (ho9.below (Nat.le_refl _) (by simp; omega)); obtain ⟨A9, c9, rfl, rd9, _, _⟩ := hrow9.rd (n := n + 1) (by simp [HCN.out])))
  go_ret
  refine ⟨A9, ⟨c9, rfl⟩, ?_, r9⟩
  have hc9 : Cel w9 w9.heap.size (([] ++ cs) ++ [.slice A' n' c']) (X ++ [f]) := by
    rw [List.nil_append]
    have one : Cel w w.heap.size [.slice A' f.length c'] [f] := Cel.one hr' (by rw [hl'.out]; exact hc') hm'
    rw [hl'.out] at one
    exact (HCEL.out.app one).new r9
  exact hc9.rd rd9
end Go.Proofs.Ytignchefkihdaaa
