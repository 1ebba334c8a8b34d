/- Contracts of the code's copyOfLists and of the model's l12Copy. Condition: the slices have at most 2^40 elements. -/
import Derived.Test.YtignchefkihdaaaMg11
import Derived.Test.YtignchefkihdaaaClone
import Derived.Test.YtignchefkihdaaaMg6
namespace Go.Proofs.Ytignchefkihdaaa
open Go.ChangeShapes Go.WideShapes Go.ChangeAt Go.RowKit
set_option maxRecDepth 100000
theorem OwnSS.made0 (w : World) : OwnSS (w.alloc (Obj.cells #[] 25)) w.heap.size (w.alloc (Obj.cells #[] 25)).heap.size (.slice (some ⟨w.heap.size, 0, none⟩) 0 0) [] := by
  have h := Row.made (w := w) w.heap.size #[] 0 25 (Nat.le_refl _) rfl (Nat.zero_le _)
  have h1 := h.1
  refine ⟨[w.heap.size], ⟨.slice (some ⟨w.heap.size, 0, none⟩) 0 0, [], rfl, rfl, ⟨h1.1, ?_⟩, rfl, by simp, by simp, by simp⟩, by simp, by simp⟩
  rcases h1.2 with hn | ⟨g, cap, cur, e, hb, rest⟩
  · exact .inl hn
  · exact .inr ⟨g, cap, cur, e, Nat.zero_le _, rest⟩
set_option maxHeartbeats 4000000 in
theorem copyLists_any {w : World} {A : Option Addr} {n c : Nat} {X : List (List Int)} (hl : Hid (X.length = n)) (hn : n ≤ 1099511627776) (hs : Hid (∀ x ∈ X, x.length ≤ 1099511627776)) (hr : RdSS w w.heap.size A X) :
    Calls Try.prog 85 #[.slice A n c] w (fun e w' => ∃ v, e = .returned v ∧ OwnSS w' w.heap.size w'.heap.size v X ∧ Below w.heap.size w w') := by
  have ho0 := OwnSS.made0 w
  have hb0 := alloc_new w (Obj.cells #[] 25)
  have HR := Lib.hid hr
  clear hr
  go_enter Try.func85, Try.ntmps85
  go_wp2_with fail
  go_loopw [3, 9] (fun v i wr => ∃ k : Nat, k ≤ n ∧ i = .int .i64 k ∧ OwnSS wr w.heap.size wr.heap.size v (X.take k) ∧ Below w.heap.size w wr) (fun _ i _ => n - (intOf i).toNat)
  case atStart => exact ⟨0, Nat.zero_le _, rfl, ho0, hb0⟩
  case round =>
    obtain ⟨k, hk, rfl, hov, hbw⟩ := hrel
    have hsz := hbw.size
    clear ho0 hb0
    by_cases hlt : k < n
    · have hkz : k < X.length := by rw [hl.out]; exact hlt
      obtain ⟨ad, Aj, cj, rfl, hab, hc, _, _, hrd⟩ := ((HR.out.below hbw).more hsz).at_ hkz
      have hxl := hs.out X[k] (List.getElem_mem _)
      have HT := Lib.hid (List.take_succ_eq_append_getElem hkz)
      obtain ⟨x, hx⟩ : ∃ x, x = X[k] := ⟨_, rfl⟩
      obtain ⟨Y, hY⟩ : ∃ Y, Y = X.take k := ⟨_, rfl⟩
      have hYl : Y.length ≤ k := by rw [hY]; simp; omega
      rw [← hx] at hc hrd hxl HT
      rw [← hY] at hov HT
      have i0' : (0 : Int) ≤ (k : Int) := by omega
      clear hx hY
      go_wp2_with fail
      refine (clone_any (xs := x) (Lib.hid rfl) hxl hrd).mono ?_
      rintro e w1 ⟨u, rfl, hrow, r⟩
      obtain ⟨A9, c9, rfl, _, _, _⟩ := hrow.rd (n := x.length) (by simp [ivs])
      have ho1 := hov.new r
      have q1 := hbw.trans (r.mono hsz)
      have hq1 := q1.size
      have hba := alloc_new w1 (Obj.cells #[Value.slice A9 x.length c9] 25)
      have HO := Lib.hid (ho1.new hba)
      have HRW := Lib.hid (hrow.new hba)
      have HM := Lib.hid (Rd.made w1 #[Value.slice A9 x.length c9] 25)
      have hq2 := q1.trans (hba.mono hq1)
      have hlw := r.size
      clear hov ho1 hrow hrd
      go_wp2_with (at_builtin; refine wpList_appSS rfl (.tmp 13) (.tmp 16) rfl rfl rfl HO.out HRW.out HM.out (by omega) (by omega) (by omega) (by simp; omega) ?_; intro v9 w9 hown9 hb9)
      go_roundw
      case rel => exact ⟨k + 1, by omega, by go_num, by rw [HT.out]; exact hown9, hq2.trans hb9⟩
      case measure => simp [intOf]; omega
    · have e : k = n := by omega
      subst e
      have HO := Lib.hid hov
      clear hov
      go_wp2_with fail
      go_ret
      have h := HO.out
      rw [List.take_of_length_le (by rw [hl.out]; exact Nat.le_refl _)] at h
      exact ⟨_, rfl, h, hbw⟩
set_option maxHeartbeats 4000000 in
theorem specCopy12_any {w : World} {A : Option Addr} {n c : Nat} {X : List (List Int)} (hl : Hid (X.length = n)) (hn : n ≤ 1099511627776) (hs : Hid (∀ x ∈ X, x.length ≤ 1099511627776)) (hr : RdSS w w.heap.size A X) :
    Calls Try.prog 155 #[.slice A n c] w (fun e w' => ∃ v, e = .returned v ∧ OwnSS w' w.heap.size w'.heap.size v X ∧ Below w.heap.size w w') := by
  obtain ⟨i0, hi, hz0, hz1, hz2⟩ := info_parts IntS_info
  have ho0 := OwnSS.made0 w
  have hb0 := alloc_new w (Obj.cells #[] 25)
  have HR := Lib.hid hr
  clear hr
  go_enter Try.func155, Try.ntmps155
  go_wp2_with fail
  go_loopw [3, 4] (fun v i wr => ∃ k : Nat, k ≤ n ∧ i = .int .i64 k ∧ OwnSS wr w.heap.size wr.heap.size v (X.take k) ∧ Below w.heap.size w wr) (fun _ i _ => n - (intOf i).toNat)
  case atStart => exact ⟨0, Nat.zero_le _, rfl, ho0, hb0⟩
  case round =>
    obtain ⟨k, hk, rfl, hov, hbw⟩ := hrel
    have hsz := hbw.size
    clear ho0 hb0
    by_cases hlt : k < n
    · have hkz : k < X.length := by rw [hl.out]; exact hlt
      obtain ⟨ad, Aj, cj, rfl, hab, hc, _, _, hrd⟩ := ((HR.out.below hbw).more hsz).at_ hkz
      have hxl := hs.out X[k] (List.getElem_mem _)
      have HT := Lib.hid (List.take_succ_eq_append_getElem hkz)
      obtain ⟨x, hx⟩ : ∃ x, x = X[k] := ⟨_, rfl⟩
      obtain ⟨Y, hY⟩ : ∃ Y, Y = X.take k := ⟨_, rfl⟩
      have hYl : Y.length ≤ k := by rw [hY]; simp; omega
      rw [← hx] at hc hrd hxl HT
      rw [← hY] at hov HT
      have i0' : (0 : Int) ≤ (k : Int) := by omega
      clear hx hY
      have hk0 := alloc_new wr (Obj.cells #[] 3)
      have hc0 := (hk0.cell (p := ad.add k) (cell_lt hc)).trans hc
      have hrow0 := Row.made (w := wr) wr.heap.size #[] 0 3 (Nat.le_refl _) rfl (Nat.zero_le _)
      have HRD := Lib.hid (hrd.below hk0)
      have HOV := Lib.hid (hov.new hk0)
      have L1 := Lib.hid (show ([] : List Value).length + x.length ≤ maxLen ∧ (([] : List Value).length + x.length) * 8 ≤ 140737488355328 by unfold maxLen; simp; omega)
      have HIL := Lib.hid (ivs_len x)
      clear hc hov hrd
      go_wp2_with (first
        | (at_builtin; refine wpList_app rfl (.tmp 13) (.tmp 17) 25 rfl 3 i0 _ 8 Try.underlying25 hi hz0 hz1 hz2 rfl rfl rfl hrow0 HIL.out HRD.out int_one L1.out.1 L1.out.2 (by simp) ?_; intro v1 w1 hrow1 ho1; obtain ⟨A9, c9, rfl, _, _, _⟩ := hrow1.rd (n := x.length) (by simp [ivs]); have r1 : Below wr.heap.size wr w1 := hk0.trans (ho1.below (Nat.le_refl _) (by simp)); have hba := alloc_new w1 (Obj.cells #[Value.slice A9 x.length c9] 25); have HO := Lib.hid ((HOV.out.out ho1 (.inl (Nat.le_refl _))).new hba); have HRW := Lib.hid (hrow1.new hba); have HM := Lib.hid (Rd.made w1 #[Value.slice A9 x.length c9] 25); have q1 := hbw.trans (r1.mono hsz); have hq1 := q1.size; have hq2 := q1.trans (hba.mono hq1))
        | (at_builtin; refine wpList_appSS rfl (.tmp 12) (.tmp 19) rfl rfl rfl HO.out HRW.out HM.out (by omega) (by omega) (by omega) (by simp; omega) ?_; intro v9 w9 hown9 hb9))
      go_roundw
      case rel => exact ⟨k + 1, by omega, by go_num, by rw [HT.out]; exact hown9, hq2.trans hb9⟩
      case measure => simp [intOf]; omega
    · have e : k = n := by omega
      subst e
      have HO := Lib.hid hov
      clear hov
      go_wp2_with fail
      go_ret
      have h := HO.out
      rw [List.take_of_length_le (by rw [hl.out]; exact Nat.le_refl _)] at h
      exact ⟨_, rfl, h, hbw⟩
end Go.Proofs.Ytignchefkihdaaa
