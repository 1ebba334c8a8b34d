/- Contracts of the models MustSpeak and IsSettled (chapter 13). Condition: the points have at most 2^40 elements. -/
import Derived.Test.YtignchefkihdaaaDueMath
import Derived.Test.YtignchefkihdaaaPntM
import Derived.Test.YtignchefkihdaaaGrow
namespace Go.Proofs.Ytignchefkihdaaa
open Go.ChangeShapes Go.WideShapes Go.ChangeAt Go.RowKit
set_option maxRecDepth 100000
def msP (side : Int) (L : List T3) : List Int := (L.filter (mstP side)).map (·.1)
theorem msP_snoc (side : Int) (X : List T3) {k : Nat} (hk : k < X.length) : msP side (X.take (k + 1)) = if mstP side X[k] then msP side (X.take k) ++ [X[k].1] else msP side (X.take k) := by
  unfold msP
  rw [List.take_succ_eq_append_getElem hk, List.filter_append, List.map_append]
  cases h : mstP side X[k] <;> simp [h]
theorem msP_len (side : Int) (X : List T3) (k : Nat) : (msP side (X.take k)).length ≤ k := by
  unfold msP
  rw [List.length_map]
  have := List.length_filter_le (mstP side) (X.take k)
  rw [List.length_take] at this
  omega
theorem mst_yes {X : List T3} {side : Int} (h1 : ptB X = true) (h2 : inr side 1 2 = true) : mstL X side = msP side X := by unfold mstL; rw [h1, h2]; rfl
theorem mst_no1 {X : List T3} {side : Int} (h1 : ptB X = false) : mstL X side = [] := by unfold mstL; rw [h1]; rfl
theorem mst_no2 {X : List T3} {side : Int} (h2 : inr side 1 2 = false) : mstL X side = [] := by unfold mstL; rw [h2, Bool.and_false]; rfl
theorem mst_nil (side : Int) : mstL [] side = [] := by unfold mstL; split <;> rfl
theorem mst_len (X : List T3) (side : Int) : (mstL X side).length ≤ 30 := by
  unfold mstL
  split
  · rename_i h
    rw [Bool.and_eq_true] at h
    have h3 := (ptB_iff.1 h.1).2.2
    rw [List.length_map]
    have := List.length_filter_le (mstP side) X
    omega
  · simp
theorem fresh_nl {w w1 : World} (hb : Below w.heap.size w w1) : Fresh 3 (ivs []) w (.returned (.slice (some ⟨w1.heap.size, 0, none⟩) 0 0)) (w1.alloc (Obj.cells #[] 3)) :=
  ⟨_, rfl, (Row.made (w := w1) w.heap.size #[] 0 3 hb.size rfl (Nat.zero_le _)).wide (Nat.le_refl _) (by simp), hb.trans ((alloc_new _ _).mono hb.size)⟩
set_option maxHeartbeats 8000000 in
theorem specMustSpeak_any {w : World} {A : Option Addr} {n c : Nat} {s : Int} {X : List T3} (hl : Hid (X.length = n)) (hn : n ≤ 1099511627776) (hr : Rd w w.heap.size A (t3s X)) :
    Calls Try.prog 61 #[.slice A n c, .int .i64 s] w (Fresh 3 (ivs (mstL X s)) w) := by
  obtain ⟨i0, hi, hz0, hz1, hz2⟩ := info_parts IntS_info
  have hb0 := alloc_new' w (Obj.cells #[] 3)
  have hrow0 : Row (w.alloc (Obj.cells #[] 3)) w.heap.size (w.alloc (Obj.cells #[] 3)).heap.size 3 (.slice (some ⟨w.heap.size, 0, none⟩) 0 0) (ivs (msP s (X.take 0))) := (Row.made (w := w) w.heap.size #[] 0 3 (Nat.le_refl _) rfl (Nat.zero_le _)).wide (Nat.le_refl _) (by simp)
  have HR := Lib.hid hr
  clear hr
  go_enter Try.func61, Try.ntmps61
  go_wp2_with fail
  go_loopw [5, 6] (fun t i wr => ∃ k : Nat, k ≤ n ∧ i = .int .i64 k ∧ Row wr w.heap.size wr.heap.size 3 t (ivs (msP s (X.take k))) ∧ Below w.heap.size w wr ∧ (k = 0 ∨ (ptB X = true ∧ inr s 1 2 = true))) (fun _ i _ => n - (intOf i).toNat)
  case atStart => exact ⟨0, Nat.zero_le _, rfl, hrow0, hb0, .inl rfl⟩
  case round =>
    obtain ⟨k, hk, rfl, hrow, hb, hor⟩ := hrel
    clear hrow0 hb0
    have hsz := hb.size
    by_cases hlt : k < n
    · have hkz : k < X.length := by rw [hl.out]; exact hlt
      have i0' : (0 : Int) ≤ (k : Int) := by omega
      have i1 : (k : Int) < (n : Int) := by omega
      have HRR := Lib.hid ((HR.out.below hb).more hsz)
      have HROW := Lib.hid hrow
      have HB := Lib.hid hb
      have HOR := Lib.hid hor
      clear hrow hb hor
      cases hp : ptB X with
      | false =>
        have HP := Lib.hid hp
        have hk0 : k = 0 := by rcases HOR.out with h | h; exact h; rw [hp] at h; exact absurd h.1 (by simp)
        have HV := Lib.hid (show mstL X s = msP s (X.take k) by rw [mst_no1 hp, hk0]; rfl)
        clear hp hk0
        go_wp2_with fail
        refine (specArePoints_any (X := X) hl hn HRR.out).mono ?_
        rintro e u ⟨rfl, r⟩
        rw [HP.out]
        go_wp2_with fail
        go_ret
        exact ⟨_, rfl, by rw [HV.out]; exact (HROW.out.new r).wide (Nat.le_refl _) r.size, HB.out.trans (r.mono hsz)⟩
      | true =>
        have HP := Lib.hid hp
        clear hp
        cases hs : inr s 1 2 with
        | false =>
          have HS := Lib.hid hs
          have hk0 : k = 0 := by rcases HOR.out with h | h; exact h; rw [hs] at h; exact absurd h.2 (by simp)
          have HV := Lib.hid (show mstL X s = msP s (X.take k) by rw [mst_no2 hs, hk0]; rfl)
          clear hs hk0
          go_wp2_with fail
          refine (specArePoints_any (X := X) hl hn HRR.out).mono ?_
          rintro e u ⟨rfl, r⟩
          rw [HP.out]
          go_wp2_with fail
          refine (l1In_any _ _ _ _).mono ?_
          rintro e u2 ⟨rfl, rfl⟩
          rw [HS.out]
          go_wp2_with fail
          go_ret
          exact ⟨_, rfl, by rw [HV.out]; exact (HROW.out.new r).wide (Nat.le_refl _) r.size, HB.out.trans (r.mono hsz)⟩
        | true =>
          have HS := Lib.hid hs
          clear hs
          have HMS := Lib.hid (msP_snoc s X hkz)
          have hln := msP_len s X k
          obtain ⟨P, hP⟩ : ∃ P, msP s (X.take k) = P := ⟨_, rfl⟩
          have HROWP := Lib.hid (show Row _ _ _ _ _ (ivs P) from hP ▸ HROW.out)
          rw [hP] at HMS hln
          have L1 := Lib.hid (show (ivs P).length + 1 ≤ maxLen ∧ ((ivs P).length + 1) * 8 ≤ 140737488355328 by rw [ivs_len]; unfold maxLen; omega)
          clear hP HROW
          go_wp2_with fail
          refine (specArePoints_any (X := X) hl hn HRR.out).mono ?_
          rintro e u ⟨rfl, r⟩
          rw [HP.out]
          have hbu := HB.out.trans (r.mono hsz)
          have HBU := Lib.hid hbu
          have hsu := hbu.size
          have HROWU := Lib.hid ((HROWP.out.new r).wide (Nat.le_refl _) r.size)
          obtain ⟨ad, p, eA, hp, hab, c0, c1, c2⟩ := t3_cells ((HR.out.below hbu).more hsu) hkz
          obtain ⟨x, hx⟩ : ∃ x, x = X[k] := ⟨_, rfl⟩
          rw [← hx] at c0 c1 c2 HMS
          subst eA
          clear hx hbu r hln
          go_wp2_with fail
          refine (l1In_any _ _ _ _).mono ?_
          rintro e u2 ⟨rfl, rfl⟩
          rw [HS.out]
          by_cases s0 : x.2.2 = 0
          · have e0 : (x.2.2 == 0) = true := by simpa using s0
            have e2 : (x.2.2 == 2) = false := by rw [s0]; rfl
            by_cases q : x.2.1 = s
            · have e1 : (x.2.1 != s) = false := by simpa using q
              have e3 : (x.2.1 == s) = true := by simpa using q
              have HM := Lib.hid (show mstP s x = false by unfold mstP; rw [e0, e1, e2]; rfl)
              rw [HM.out] at HMS
              have HMV := Lib.hid (show msP s (X.take (k + 1)) = P from HMS.out)
              clear HMS s0 q
              go_wp2_with fail
              go_roundw
              case rel => exact ⟨k + 1, by omega, by go_num, by rw [HMV.out]; exact HROWU.out, HBU.out, by first | exact .inr ⟨HP.out, HS.out⟩ | exact .inr ⟨trivial, HS.out⟩ | exact .inr ⟨trivial, trivial⟩⟩
              case measure => simp [intOf]; omega
            · have e1 : (x.2.1 != s) = true := by simpa using q
              have e3 : (x.2.1 == s) = false := by simpa using q
              have HM := Lib.hid (show mstP s x = true by unfold mstP; rw [e0, e1]; rfl)
              rw [HM.out] at HMS
              have HMV := Lib.hid (show msP s (X.take (k + 1)) = P ++ [x.1] from HMS.out)
              have b3 := alloc_new' u (Obj.cells #[.int .i64 x.1] 3)
              have HROW3 := Lib.hid ((HROWU.out.new b3).wide (Nat.le_refl _) b3.size)
              have HMADE := Lib.hid (show Rd _ _ _ [.int .i64 x.1] from Rd.made u #[.int .i64 x.1] 3)
              clear HMS b3 s0 q
              go_wp2_with (at_builtin; refine wpList_app rfl (.tmp 54) (.tmp 60) 25 rfl 3 i0 _ 8 Try.underlying25 hi hz0 hz1 hz2 rfl rfl rfl HROW3.out rfl HMADE.out (by simp [Value.oneCell']) L1.out.1 L1.out.2 (by simp; omega) ?_; intro v9 w9 hrow9 ho9)
              have hb9 : Below w.heap.size w w9 := HBU.out.trans (((alloc_new' u _).mono hsu).trans (ho9.below (Nat.le_refl _) (by simp; omega)))
              go_roundw
              case rel => exact ⟨k + 1, by omega, by go_num, by rw [HMV.out, show ivs (P ++ [x.1]) = ivs P ++ [.int .i64 x.1] by simp [ivs]]; exact hrow9, hb9, by first | exact .inr ⟨HP.out, HS.out⟩ | exact .inr ⟨trivial, HS.out⟩ | exact .inr ⟨trivial, trivial⟩⟩
              case measure => simp [intOf]; omega
          · have e0 : (x.2.2 == 0) = false := by simpa using s0
            by_cases s2 : x.2.2 = 2
            · have e2 : (x.2.2 == 2) = true := by simpa using s2
              by_cases q : x.2.1 = s
              · have e1 : (x.2.1 != s) = false := by simpa using q
                have e3 : (x.2.1 == s) = true := by simpa using q
                have HM := Lib.hid (show mstP s x = true by unfold mstP; rw [e0, e2, e3]; simp)
                rw [HM.out] at HMS
                have HMV := Lib.hid (show msP s (X.take (k + 1)) = P ++ [x.1] from HMS.out)
                have b3 := alloc_new' u (Obj.cells #[.int .i64 x.1] 3)
                have HROW3 := Lib.hid ((HROWU.out.new b3).wide (Nat.le_refl _) b3.size)
                have HMADE := Lib.hid (show Rd _ _ _ [.int .i64 x.1] from Rd.made u #[.int .i64 x.1] 3)
                clear HMS b3 s0 s2 q
                go_wp2_with (at_builtin; refine wpList_app rfl (.tmp 54) (.tmp 60) 25 rfl 3 i0 _ 8 Try.underlying25 hi hz0 hz1 hz2 rfl rfl rfl HROW3.out rfl HMADE.out (by simp [Value.oneCell']) L1.out.1 L1.out.2 (by simp; omega) ?_; intro v9 w9 hrow9 ho9)
                have hb9 : Below w.heap.size w w9 := HBU.out.trans (((alloc_new' u _).mono hsu).trans (ho9.below (Nat.le_refl _) (by simp; omega)))
                go_roundw
                case rel => exact ⟨k + 1, by omega, by go_num, by rw [HMV.out, show ivs (P ++ [x.1]) = ivs P ++ [.int .i64 x.1] by simp [ivs]]; exact hrow9, hb9, by first | exact .inr ⟨HP.out, HS.out⟩ | exact .inr ⟨trivial, HS.out⟩ | exact .inr ⟨trivial, trivial⟩⟩
                case measure => simp [intOf]; omega
              · have e1 : (x.2.1 != s) = true := by simpa using q
                have e3 : (x.2.1 == s) = false := by simpa using q
                have HM := Lib.hid (show mstP s x = false by unfold mstP; rw [e0, e2, e3]; simp)
                rw [HM.out] at HMS
                have HMV := Lib.hid (show msP s (X.take (k + 1)) = P from HMS.out)
                clear HMS s0 s2 q
                go_wp2_with fail
                go_roundw
                case rel => exact ⟨k + 1, by omega, by go_num, by rw [HMV.out]; exact HROWU.out, HBU.out, by first | exact .inr ⟨HP.out, HS.out⟩ | exact .inr ⟨trivial, HS.out⟩ | exact .inr ⟨trivial, trivial⟩⟩
                case measure => simp [intOf]; omega
            · have e2 : (x.2.2 == 2) = false := by simpa using s2
              have HM := Lib.hid (show mstP s x = false by unfold mstP; rw [e0, e2]; simp)
              rw [HM.out] at HMS
              have HMV := Lib.hid (show msP s (X.take (k + 1)) = P from HMS.out)
              clear HMS s0 s2
              go_wp2_with fail
              go_roundw
              case rel => exact ⟨k + 1, by omega, by go_num, by rw [HMV.out]; exact HROWU.out, HBU.out, by first | exact .inr ⟨HP.out, HS.out⟩ | exact .inr ⟨trivial, HS.out⟩ | exact .inr ⟨trivial, trivial⟩⟩
              case measure => simp [intOf]; omega
    · have e : k = n := by omega
      subst e
      have HV := Lib.hid (show mstL X s = msP s (X.take k) by
        rcases hor with h | h
        · subst h
          have : X = [] := List.eq_nil_of_length_eq_zero hl.out
          subst this
          rw [mst_nil]
          rfl
        · rw [mst_yes h.1 h.2, List.take_of_length_le (by rw [hl.out]; exact Nat.le_refl _)])
      go_wp2_with fail
      go_ret
      exact ⟨_, rfl, by rw [HV.out]; exact hrow, hb⟩
set_option maxHeartbeats 4000000 in
theorem specIsSettled_any {w : World} {A : Option Addr} {n c : Nat} {X : List T3} (hl : Hid (X.length = n)) (hn : n ≤ 1099511627776) (hr : Rd w w.heap.size A (t3s X)) :
    Calls Try.prog 65 #[.slice A n c] w (Tells (setP X) w) := by
  have HR := Lib.hid hr
  clear hr
  cases hp : ptB X with
  | false =>
    have HP := Lib.hid hp
    have HV := Lib.hid (show setP X = false by unfold setP; rw [hp]; rfl)
    clear hp
    go_enter Try.func65, Try.ntmps65
    go_wp2_with fail
    refine (specArePoints_any (X := X) hl hn HR.out).mono ?_
    rintro e u ⟨rfl, r⟩
    rw [HP.out]
    go_wp2_with fail
    go_ret
    exact ⟨ret_b HV.out.symm, r⟩
  | true =>
    have HP := Lib.hid hp
    have HL1 := Lib.hid (mst_len X 1)
    have HL2 := Lib.hid (mst_len X 2)
    obtain ⟨a, ha⟩ : ∃ a, (mstL X 1).length = a := ⟨_, rfl⟩
    obtain ⟨b, hb⟩ : ∃ a, (mstL X 2).length = a := ⟨_, rfl⟩
    have HA := Lib.hid ha
    have HBB := Lib.hid hb
    have HV := Lib.hid (show setP X = (decide (a = 0) && decide (b = 0)) by unfold setP; rw [hp, ha, hb, Bool.true_and])
    clear hp ha hb
    by_cases h1 : a = 0
    · subst h1
      by_cases h2 : b = 0
      · subst h2
        go_enter Try.func65, Try.ntmps65
        go_wp2_with fail
        refine (specArePoints_any (X := X) hl hn HR.out).mono ?_
        rintro e u ⟨rfl, r⟩
        rw [HP.out]
        have HR1 := Lib.hid ((HR.out.below r).more r.size)
        go_wp2_with fail
        refine (specMustSpeak_any (s := 1) (X := X) hl hn HR1.out).mono ?_
        rintro e u2 ⟨v, rfl, hrow, r2⟩
        obtain ⟨Av, cv, rfl, _, _, _⟩ := hrow.rd (n := 0) (by rw [ivs_len, HA.out])
        have q2 := r.trans (r2.mono r.size)
        have HR2 := Lib.hid ((HR.out.below q2).more q2.size)
        clear hrow
        go_wp2_with fail
        refine (specMustSpeak_any (s := 2) (X := X) hl hn HR2.out).mono ?_
        rintro e u3 ⟨v, rfl, hrow, r3⟩
        obtain ⟨Av, cv, rfl, _, _, _⟩ := hrow.rd (n := 0) (by rw [ivs_len, HBB.out])
        have q3 := q2.trans (r3.mono q2.size)
        clear hrow
        go_wp2_with fail
        go_ret
        exact ⟨ret_b (by rw [HV.out]; rfl), q3⟩
      · have e2 : ((b : Int) == 0) = false := by simpa using (show ¬ (b : Int) = 0 by omega)
        have HV2 := Lib.hid (show setP X = false by rw [HV.out, decide_eq_false h2, Bool.and_false])
        clear h2 HV
        go_enter Try.func65, Try.ntmps65
        go_wp2_with fail
        refine (specArePoints_any (X := X) hl hn HR.out).mono ?_
        rintro e u ⟨rfl, r⟩
        rw [HP.out]
        have HR1 := Lib.hid ((HR.out.below r).more r.size)
        go_wp2_with fail
        refine (specMustSpeak_any (s := 1) (X := X) hl hn HR1.out).mono ?_
        rintro e u2 ⟨v, rfl, hrow, r2⟩
        obtain ⟨Av, cv, rfl, _, _, _⟩ := hrow.rd (n := 0) (by rw [ivs_len, HA.out])
        have q2 := r.trans (r2.mono r.size)
        have HR2 := Lib.hid ((HR.out.below q2).more q2.size)
        clear hrow
        go_wp2_with fail
        refine (specMustSpeak_any (s := 2) (X := X) hl hn HR2.out).mono ?_
        rintro e u3 ⟨v, rfl, hrow, r3⟩
        obtain ⟨Av, cv, rfl, _, _, _⟩ := hrow.rd (n := b) (by rw [ivs_len, HBB.out])
        have q3 := q2.trans (r3.mono q2.size)
        clear hrow
        go_wp2_with fail
        go_ret
        exact ⟨ret_b HV2.out.symm, q3⟩
    · have e1 : ((a : Int) == 0) = false := by simpa using (show ¬ (a : Int) = 0 by omega)
      have HV2 := Lib.hid (show setP X = false by rw [HV.out, decide_eq_false h1, Bool.false_and])
      clear h1 HV
      go_enter Try.func65, Try.ntmps65
      go_wp2_with fail
      refine (specArePoints_any (X := X) hl hn HR.out).mono ?_
      rintro e u ⟨rfl, r⟩
      rw [HP.out]
      have HR1 := Lib.hid ((HR.out.below r).more r.size)
      go_wp2_with fail
      refine (specMustSpeak_any (s := 1) (X := X) hl hn HR1.out).mono ?_
      rintro e u2 ⟨v, rfl, hrow, r2⟩
      obtain ⟨Av, cv, rfl, _, _, _⟩ := hrow.rd (n := a) (by rw [ivs_len, HA.out])
      have q2 := r.trans (r2.mono r.size)
      have HR2 := Lib.hid ((HR.out.below q2).more q2.size)
      clear hrow
      go_wp2_with fail
      go_ret
      exact ⟨ret_b HV2.out.symm, q2⟩
end Go.Proofs.Ytignchefkihdaaa
