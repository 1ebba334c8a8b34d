/- Contracts of the models Say, TakeBack. Condition: the slices have fewer than 2^40 elements. -/
import Derived.Test.YtignchefkihdaaaFndM
import Derived.Test.YtignchefkihdaaaCopyL
import Derived.Test.YtignchefkihdaaaAppMany
namespace Go.Proofs.Ytignchefkihdaaa
open Go.ChangeShapes Go.WideShapes Go.ChangeAt Go.RowKit
set_option maxRecDepth 100000
section
variable {w : World} {A A' : Option Addr} {n c n' c' : Nat} {X : List (List Int)} {f : List Int}
theorem rdSSd (h : RdSS w w.heap.size A X) : RdSS w.drew w.drew.heap.size A X := h
theorem rdSS_drop {B k : Nat} (h : RdSS w B A X) (j : Nat) (hc : X.length ≤ k) : RdSS w B (tlA A j k) (X.drop j) := fun i x hx => by
  rw [List.getElem?_drop] at hx
  obtain ⟨ad, Aj, cj, e, hb, hcell, rest⟩ := h _ x hx
  subst e
  have hlt : j + i < X.length := (List.getElem?_eq_some_iff.1 hx).1
  refine ⟨ad.add j, Aj, cj, ?_, by rw [add_blk]; exact hb, ?_, rest⟩
  · unfold tlA
    rw [if_neg (by omega)]
    rfl
  · have e1 : (ad.add j).add i = ad.add (j + i) := by
      unfold Addr.add
      by_cases hi : j = 0 <;> by_cases hj : i = 0 <;> simp [hi, hj, Nat.add_assoc]
    rw [e1]
    exact hcell
set_option maxHeartbeats 4000000 in
theorem specSay_any (hl : Hid (X.length = n)) (hn : n ≤ 1000000000000) (hs : Hid (∀ x ∈ X, x.length ≤ 1099511627776)) (hr : RdSS w w.heap.size A X) (hl' : Hid (f.length = n')) (hn' : n' ≤ 1099511627776) (hr' : Rd w w.heap.size A' (ivs f)) :
    Calls Try.prog 148 #[.slice A n c, .slice A' n' c'] w (fun e w' => ∃ v, e = .returned (.tuple #[v, .bool (storeB (X ++ [f]))]) ∧ OwnSS w' w.heap.size w'.heap.size v (sayX X f) ∧ Below w.heap.size w w') := by
  obtain ⟨i0, hi, hz0, hz1, hz2⟩ := info_parts IntS_info
  have HR := Lib.hid hr
  have HR' := Lib.hid hr'
  clear hr hr'
  go_enter Try.func148, Try.ntmps148
  go_wp2_with fail
  refine (specCopy12_any hl (by omega) hs HR.out).mono ?_
  rintro e w1 ⟨v, rfl, ho, r⟩
  obtain ⟨A1, c1, rfl, _, _, _⟩ := ho.rd hl.out
  have hk0 := alloc_new w1 (Obj.cells #[] 3)
  have hrow0 := Row.made (w := w1) w1.heap.size #[] 0 3 (Nat.le_refl _) rfl (Nat.zero_le _)
  have HRD := Lib.hid (((HR'.out.below r).more r.size).below hk0)
  have HOV := Lib.hid (ho.new hk0)
  have hz1' := r.size
  have L1 := Lib.hid (show ([] : List Value).length + n' ≤ maxLen ∧ (([] : List Value).length + n') * 8 ≤ 140737488355328 by unfold maxLen; simp; omega)
  have HIL := Lib.hid (show (ivs f).length = n' by rw [ivs_len, hl'.out])
  have HXL := Lib.hid (show X.length + 1 ≤ 1099511627777 by rw [hl.out]; omega)
  clear ho
  go_wp2_with (first
    | (at_builtin; refine wpList_app rfl (.tmp 9) (.tmp 10) 25 rfl 3 i0 _ 8 Try.underlying25 hi hz0 hz1 hz2 rfl rfl rfl hrow0 HIL.out HRD.out int_one L1.out.1 L1.out.2 (by simp) ?_; intro v1 w3 hrow1 ho1; obtain ⟨A9, c9, rfl, _, _, _⟩ := hrow1.rd (n := n') (by simp [HIL.out]); have r1 : Below w1.heap.size w1 w3 := hk0.trans (ho1.below (Nat.le_refl _) (by simp)); have hba := alloc_new w3 (Obj.cells #[Value.slice A9 n' c9] 25); have HO := Lib.hid ((HOV.out.out ho1 (.inl (Nat.le_refl _))).new hba); have HRW := Lib.hid (hrow1.new hba); have HM := Lib.hid (Rd.made w3 #[Value.slice A9 n' c9] 25); have q1 := r.trans (r1.mono hz1'); have hq1 := q1.size; have hq2 := q1.trans (hba.mono hq1))
    | (at_builtin; refine wpList_appSS rfl (.tmp 8) (.tmp 12) rfl rfl rfl HO.out HRW.out HM.out (Nat.le_refl _) (by omega) HXL.out (by simp; omega) ?_; intro v9 w9 hown9 hb9; obtain ⟨A8, c8, rfl, _, hc8, _⟩ := hown9.rd (n := n + 1) (by rw [List.length_append, hl.out]; rfl); have q9 := hq2.trans hb9; have HO9 := Lib.hid hown9))
  have HSL := Lib.hid (show ∀ x ∈ X ++ [f], x.length ≤ 1099511627776 from fun x hx => by
    rcases List.mem_append.1 hx with hx | hx
    · exact hs.out x hx
    · rw [List.mem_singleton.1 hx, hl'.out]; exact hn')
  refine (specIsStore_any (X := X ++ [f]) (n := n + 1) (Lib.hid (by rw [List.length_append, hl.out]; rfl)) (by omega) hc8 HSL HO9.out.rd').mono ?_
  rintro e w10 ⟨rfl, r10⟩
  obtain ⟨b, hb⟩ : ∃ b, b = storeB (X ++ [f]) := ⟨_, rfl⟩
  rw [← hb]
  have HB := Lib.hid hb
  have HS := Lib.hid (show sayX X f = if b then X ++ [f] else X by rw [HB.out]; rfl)
  have q10 := q9.trans (r10.mono q9.size)
  have HO10 := Lib.hid (HO9.out.new r10)
  clear hb
  cases b with
  | false =>
    have HS2 := Lib.hid (show sayX X f = X by rw [HS.out]; rfl)
    go_wp2_with fail
    refine (specCopy12_any hl (by omega) hs ((HR.out.below q10).more q10.size)).mono ?_
    rintro e w11 ⟨v, rfl, ho, r11⟩
    obtain ⟨A11, c11, rfl, _, _, _⟩ := ho.rd hl.out
    have HO11 := Lib.hid ho
    clear ho
    go_wp2_with fail
    go_ret2
    refine ⟨_, by rw [← HB.out]; rfl, ?_, q10.trans (r11.mono q10.size)⟩
    rw [HS2.out]
    exact HO11.out.wide q10.size (Nat.le_refl _)
  | true =>
    have HS2 := Lib.hid (show sayX X f = X ++ [f] by rw [HS.out]; rfl)
    go_wp2_with fail
    go_ret2
    refine ⟨_, by rw [← HB.out]; rfl, ?_, q10⟩
    rw [HS2.out]
    exact HO10.out.wide (Nat.le_refl _) r10.size
end
end Go.Proofs.Ytignchefkihdaaa
