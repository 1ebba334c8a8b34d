/- Contract of the model TurnOrder (chapter 15). Condition: the slices have at most 2^40 elements. -/
import Derived.Test.YtignchefkihdaaaTurMath
import Derived.Test.YtignchefkihdaaaOrdA
import Derived.Test.YtignchefkihdaaaGraph
import Derived.Test.YtignchefkihdaaaInts
namespace Go.Proofs.Ytignchefkihdaaa
open Go.ChangeShapes Go.WideShapes Go.ChangeAt Go.RowKit
set_option maxRecDepth 100000
theorem fresh_nil {w w1 : World} (hb : Below w.heap.size w w1) : Fresh 3 (ivs []) w (.returned (.slice (some ⟨w1.heap.size, 0, none⟩) 0 0)) (w1.alloc (Obj.cells #[] 3)) :=
  ⟨_, rfl, (Row.made (w := w1) w.heap.size #[] 0 3 hb.size rfl (Nat.zero_le _)).wide (Nat.le_refl _) (by simp), hb.trans ((alloc_new _ _).mono hb.size)⟩
theorem ordQ_last {a b : List Int} {n k : Nat} (h : k + 1 = n) (ha : k < a.length) (hb : k < b.length) : ordQ a b n k = (b[k], a[k]) := by
  unfold ordQ
  rw [if_pos h, getD_z ha, getD_z hb]
theorem ordQ_mid {a b : List Int} {n k : Nat} (h : ¬ k + 1 = n) (ha : k < a.length) (hb : k < b.length) : ordQ a b n k = (a[k], b[k]) := by
  unfold ordQ
  rw [if_neg h, getD_z ha, getD_z hb]
theorem turX_dup {a b : List Int} {k n : Nat} (hn : a.length = n) (hk : k ≤ n) (h : ¬ (ordP a b n k).Nodup) : turX a b = [] := by
  subst hn
  refine turX_no ?_
  unfold turO
  rw [decide_eq_false (ordP_no hk h), Bool.and_false, Bool.and_false]
theorem turX_all {a b : List Int} {n : Nat} (hn : a.length = n) (hn' : b.length = n) (h1 : 1 ≤ n) (h2 : n ≤ 6) (h : (ordP a b n n).Nodup) : turX a b = ordP a b n n := by
  subst hn
  rw [turX_yes]
  unfold turO
  rw [decide_eq_true hn'.symm, decide_eq_true (show 1 ≤ a.length ∧ a.length ≤ 6 from ⟨h1, h2⟩), decide_eq_true h]
  rfl
set_option maxHeartbeats 8000000 in
theorem specTurnOrder_any {w : World} {A A' : Option Addr} {n c n' c' : Nat} {S Z : List Int} (hl : Hid (S.length = n)) (hn : n ≤ 1099511627776) (hl' : Hid (Z.length = n')) (hn' : n' ≤ 1099511627776) (hr : Rd w w.heap.size A (ivs S)) (hr' : Rd w w.heap.size A' (ivs Z)) :
    Calls Try.prog 47 #[.slice A n c, .slice A' n' c'] w (Fresh 3 (ivs (turX S Z)) w) := by
  obtain ⟨i0, hi, hz0, hz1, hz2⟩ := info_parts IntS_info
  have hb0 : Below w.heap.size w (w.alloc (Obj.cells #[] 3)) := (Below.refl _ _).alloc (Nat.le_refl _) _
  have hrow0 : Row (w.alloc (Obj.cells #[] 3)) w.heap.size (w.alloc (Obj.cells #[] 3)).heap.size 3 (.slice (some ⟨w.heap.size, 0, none⟩) 0 0) (ivs (ordP S Z n 0)) := (Row.made (w := w) w.heap.size #[] 0 3 (Nat.le_refl _) rfl (Nat.zero_le _)).wide (Nat.le_refl _) (by simp)
  have HF := Lib.hid (fresh_nil (Below.refl w.heap.size w))
  by_cases hnn : n = n'
  · subst hnn
    by_cases hr6 : 1 ≤ n ∧ n ≤ 6
    · obtain ⟨n1, n6⟩ := hr6
      have h16 : inr (n : Int) 1 6 = true := inr_t (by omega) (by omega)
      have H16 := Lib.hid h16
      have hne : ((n : Int) != (n : Int)) = false := by simp
      clear h16 HF
      go_enter Try.func47, Try.ntmps47
      go_wp2_with fail
      refine (l1In_any _ _ _ _).mono ?_
      rintro e u ⟨rfl, rfl⟩
      rw [H16.out]
      go_wp2_with fail
      go_loopw [5, 6] (fun s i wr => ∃ k : Nat, k ≤ n ∧ i = .int .i64 k ∧ Row wr w.heap.size wr.heap.size 3 s (ivs (ordP S Z n k)) ∧ Below w.heap.size w wr ∧ (ordP S Z n k).Nodup) (fun _ i _ => n - (intOf i).toNat)
      case atStart => exact ⟨0, Nat.zero_le _, rfl, hrow0, hb0, by simp [ordP]⟩
      case round =>
        obtain ⟨k, hk, rfl, hrow, hb, hnd⟩ := hrel
        clear hrow0 hb0
        have hsz := hb.size
        by_cases hlt : k < n
        · have hkS : k < S.length := by rw [hl.out]; exact hlt
          have hkZ : k < Z.length := by rw [hl'.out]; exact hlt
          obtain ⟨ad, rfl, hab, hc0⟩ := ivs_at ((hr.below hb).more hsz) hkS
          obtain ⟨ad', rfl, hab', hc1⟩ := ivs_at ((hr'.below hb).more hsz) hkZ
          have i0' : (0 : Int) ≤ (k : Int) := by omega
          have i1' : (k : Int) < (n : Int) := by omega
          have hw1 := IntWalk.i64_in ((k : Int) + 1) (by omega)
          by_cases hlast : k + 1 = n
          · have HS := Lib.hid (show ordP S Z n (k + 1) = ordP S Z n k ++ [Z[k], S[k]] by rw [ordP_succ, ordQ_last hlast hkS hkZ])
            have hlb : ((k : Int) + 1 == (n : Int)) = true := by simpa using (show (k : Int) + 1 = (n : Int) by omega)
            obtain ⟨y, hy⟩ : ∃ y, y = S[k] := ⟨_, rfl⟩
            obtain ⟨x, hx⟩ : ∃ y, y = Z[k] := ⟨_, rfl⟩
            rw [← hy] at hc0 HS
            rw [← hx] at hc1 HS
            clear hx hy hlast
            have HP := Lib.hid (nd_two (p := ordP S Z n k) (x := x) (y := y))
            obtain ⟨P, hP⟩ : ∃ P, ordP S Z n k = P := ⟨_, rfl⟩
            rw [hP] at hrow HS HP hnd
            have hPl : P.length ≤ 12 := by rw [← hP, ordP_len]; omega
            have HPE := Lib.hid hP
            obtain ⟨p, hp⟩ : ∃ p, P.length = p := ⟨_, rfl⟩
            rw [hp] at hPl
            have HPL := Lib.hid hp
            obtain ⟨Ap, cp, rfl, hrp, _, _⟩ := hrow.rd (n := p) (by rw [ivs_len, hp])
            have HROW := Lib.hid hrow
            have HRP := Lib.hid (fun m1 => show Rd (wr.drewN m1) (wr.drewN m1).heap.size (Ap) (ivs P) from hrp)
            have HND := Lib.hid hnd
            have HB := Lib.hid hb
            clear hP hp hrow hrp hnd hb
            cases hc1 : P.contains x with
            | true =>
              have H1 := Lib.hid hc1
              have HD := Lib.hid (show turX S Z = [] from turX_dup hl.out (show k + 1 ≤ n by omega) (by rw [HS.out, HP.out]; intro q; rw [H1.out] at q; exact absurd q.2.1 (by simp)))
              clear hc1
              go_wp2
              go_quiet (fail)
              go_wp2
              go_quiet (fail)
              go_wp2_with fail
              refine (l4h_any HPL (by omega) (HRP.out _)).mono ?_
              rintro e u ⟨rfl, rfl⟩
              rw [H1.out]
              go_wp2_with fail
              go_ret
              rw [HD.out]
              exact fresh_nil (below_drewN HB.out _)
            | false =>
              have H1 := Lib.hid hc1
              clear hc1
              cases hc2 : P.contains y with
              | true =>
                have H2 := Lib.hid hc2
                have HD := Lib.hid (show turX S Z = [] from turX_dup hl.out (show k + 1 ≤ n by omega) (by rw [HS.out, HP.out]; intro q; rw [H2.out] at q; exact absurd q.2.2.1 (by simp)))
                clear hc2
                go_wp2
                go_quiet (fail)
                go_wp2
                go_quiet (fail)
                go_wp2_with fail
                refine (l4h_any HPL (by omega) (HRP.out _)).mono ?_
                rintro e u ⟨rfl, rfl⟩
                rw [H1.out]
                go_wp2_with fail
                refine (l4h_any HPL (by omega) (HRP.out _)).mono ?_
                rintro e u ⟨rfl, rfl⟩
                rw [H2.out]
                go_wp2_with fail
                go_ret
                rw [HD.out]
                exact fresh_nil (below_drewN HB.out _)
              | false =>
                have H2 := Lib.hid hc2
                clear hc2
                by_cases hxy : x = y
                · have HD := Lib.hid (show turX S Z = [] from turX_dup hl.out (show k + 1 ≤ n by omega) (by rw [HS.out, HP.out]; intro q; exact q.2.2.2 hxy))
                  subst hxy
                  have hxb : (x == x) = true := by simp
                  go_wp2
                  go_quiet (fail)
                  go_wp2
                  go_quiet (fail)
                  go_wp2_with fail
                  refine (l4h_any HPL (by omega) (HRP.out _)).mono ?_
                  rintro e u ⟨rfl, rfl⟩
                  rw [H1.out]
                  go_wp2_with fail
                  refine (l4h_any HPL (by omega) (HRP.out _)).mono ?_
                  rintro e u ⟨rfl, rfl⟩
                  rw [H1.out]
                  go_wp2_with fail
                  go_ret
                  rw [HD.out]
                  exact fresh_nil (below_drewN HB.out _)
                · have HN := Lib.hid (show (ordP S Z n (k + 1)).Nodup by rw [HS.out, HP.out]; exact ⟨HND.out, H1.out, H2.out, hxy⟩)
                  have hxb : (x == y) = false := by simpa using hxy
                  go_wp2
                  go_quiet (fail)
                  go_wp2
                  go_quiet (fail)
                  go_wp2_with fail
                  refine (l4h_any HPL (by omega) (HRP.out _)).mono ?_
                  rintro e u ⟨rfl, rfl⟩
                  rw [H1.out]
                  go_wp2_with fail
                  refine (l4h_any HPL (by omega) (HRP.out _)).mono ?_
                  rintro e u9 ⟨rfl, rfl⟩
                  rw [H2.out]
                  generalize hwd : wr.drewN _ = wd
                  have rowd : Row wd w.heap.size wr.heap.size 3 (.slice Ap p cp) (ivs P) := by rw [← hwd]; exact HROW.out
                  have hbd : Below w.heap.size w wd := by rw [← hwd]; exact below_drewN HB.out _
                  have hzd : wd.heap.size = wr.heap.size := by rw [← hwd]; rfl
                  have b3 := alloc_new wd (Obj.cells #[.int .i64 x, .int .i64 y] 3)
                  have HROW3 := Lib.hid ((rowd.new b3).wide (Nat.le_refl _) (show wr.heap.size ≤ wd.heap.size + 1 by omega))
                  have HMADE := Lib.hid (show Rd _ _ _ [.int .i64 x, .int .i64 y] from Rd.made wd #[.int .i64 x, .int .i64 y] 3)
                  have HHD := Lib.hid hbd
                  have hsd := hbd.size
                  have L1 := Lib.hid (show (ivs P).length + 2 ≤ maxLen ∧ ((ivs P).length + 2) * 8 ≤ 140737488355328 by rw [ivs_len, HPL.out]; unfold maxLen; omega)
                  clear hwd rowd hzd b3 hbd HRP
                  go_wp2_with (at_builtin; refine wpList_app rfl (.tmp 63) (.tmp 66) 25 rfl 3 i0 _ 8 Try.underlying25 hi hz0 hz1 hz2 rfl rfl rfl HROW3.out rfl HMADE.out (by simp [Value.oneCell']) L1.out.1 L1.out.2 (by simp; omega) ?_; intro v9 w9 hrow9 ho9)
                  have hb9 : Below w.heap.size wd w9 := ((alloc_new wd _).mono hsd).trans (ho9.below (Nat.le_refl _) (by simp; omega))
                  go_roundw
                  case rel => exact ⟨k + 1, by omega, by go_num, by rw [HS.out, show ivs (P ++ [x, y]) = ivs P ++ [.int .i64 x, .int .i64 y] by simp [ivs]]; exact hrow9, HHD.out.trans hb9, HN.out⟩
                  case measure => simp [intOf]; omega
          · have HS := Lib.hid (show ordP S Z n (k + 1) = ordP S Z n k ++ [S[k], Z[k]] by rw [ordP_succ, ordQ_mid hlast hkS hkZ])
            have hlb : ((k : Int) + 1 == (n : Int)) = false := by simpa using (show ¬ (k : Int) + 1 = (n : Int) by omega)
            obtain ⟨x, hx⟩ : ∃ y, y = S[k] := ⟨_, rfl⟩
            obtain ⟨y, hy⟩ : ∃ y, y = Z[k] := ⟨_, rfl⟩
            rw [← hx] at hc0 HS
            rw [← hy] at hc1 HS
            clear hx hy hlast
            have HP := Lib.hid (nd_two (p := ordP S Z n k) (x := x) (y := y))
            obtain ⟨P, hP⟩ : ∃ P, ordP S Z n k = P := ⟨_, rfl⟩
            rw [hP] at hrow HS HP hnd
            have hPl : P.length ≤ 12 := by rw [← hP, ordP_len]; omega
            have HPE := Lib.hid hP
            obtain ⟨p, hp⟩ : ∃ p, P.length = p := ⟨_, rfl⟩
            rw [hp] at hPl
            have HPL := Lib.hid hp
            obtain ⟨Ap, cp, rfl, hrp, _, _⟩ := hrow.rd (n := p) (by rw [ivs_len, hp])
            have HROW := Lib.hid hrow
            have HRP := Lib.hid (fun m1 => show Rd (wr.drewN m1) (wr.drewN m1).heap.size (Ap) (ivs P) from hrp)
            have HND := Lib.hid hnd
            have HB := Lib.hid hb
            clear hP hp hrow hrp hnd hb
            cases hc1 : P.contains x with
            | true =>
              have H1 := Lib.hid hc1
              have HD := Lib.hid (show turX S Z = [] from turX_dup hl.out (show k + 1 ≤ n by omega) (by rw [HS.out, HP.out]; intro q; rw [H1.out] at q; exact absurd q.2.1 (by simp)))
              clear hc1
              go_wp2
              go_quiet (fail)
              go_wp2_with fail
              refine (l4h_any HPL (by omega) (HRP.out _)).mono ?_
              rintro e u ⟨rfl, rfl⟩
              rw [H1.out]
              go_wp2_with fail
              go_ret
              rw [HD.out]
              exact fresh_nil (below_drewN HB.out _)
            | false =>
              have H1 := Lib.hid hc1
              clear hc1
              cases hc2 : P.contains y with
              | true =>
                have H2 := Lib.hid hc2
                have HD := Lib.hid (show turX S Z = [] from turX_dup hl.out (show k + 1 ≤ n by omega) (by rw [HS.out, HP.out]; intro q; rw [H2.out] at q; exact absurd q.2.2.1 (by simp)))
                clear hc2
                go_wp2
                go_quiet (fail)
                go_wp2_with fail
                refine (l4h_any HPL (by omega) (HRP.out _)).mono ?_
                rintro e u ⟨rfl, rfl⟩
                rw [H1.out]
                go_wp2_with fail
                refine (l4h_any HPL (by omega) (HRP.out _)).mono ?_
                rintro e u ⟨rfl, rfl⟩
                rw [H2.out]
                go_wp2_with fail
                go_ret
                rw [HD.out]
                exact fresh_nil (below_drewN HB.out _)
              | false =>
                have H2 := Lib.hid hc2
                clear hc2
                by_cases hxy : x = y
                · have HD := Lib.hid (show turX S Z = [] from turX_dup hl.out (show k + 1 ≤ n by omega) (by rw [HS.out, HP.out]; intro q; exact q.2.2.2 hxy))
                  subst hxy
                  have hxb : (x == x) = true := by simp
                  go_wp2
                  go_quiet (fail)
                  go_wp2_with fail
                  refine (l4h_any HPL (by omega) (HRP.out _)).mono ?_
                  rintro e u ⟨rfl, rfl⟩
                  rw [H1.out]
                  go_wp2_with fail
                  refine (l4h_any HPL (by omega) (HRP.out _)).mono ?_
                  rintro e u ⟨rfl, rfl⟩
                  rw [H1.out]
                  go_wp2_with fail
                  go_ret
                  rw [HD.out]
                  exact fresh_nil (below_drewN HB.out _)
                · have HN := Lib.hid (show (ordP S Z n (k + 1)).Nodup by rw [HS.out, HP.out]; exact ⟨HND.out, H1.out, H2.out, hxy⟩)
                  have hxb : (x == y) = false := by simpa using hxy
                  go_wp2
                  go_quiet (fail)
                  go_wp2_with fail
                  refine (l4h_any HPL (by omega) (HRP.out _)).mono ?_
                  rintro e u ⟨rfl, rfl⟩
                  rw [H1.out]
                  go_wp2_with fail
                  refine (l4h_any HPL (by omega) (HRP.out _)).mono ?_
                  rintro e u9 ⟨rfl, rfl⟩
                  rw [H2.out]
                  generalize hwd : wr.drewN _ = wd
                  have rowd : Row wd w.heap.size wr.heap.size 3 (.slice Ap p cp) (ivs P) := by rw [← hwd]; exact HROW.out
                  have hbd : Below w.heap.size w wd := by rw [← hwd]; exact below_drewN HB.out _
                  have hzd : wd.heap.size = wr.heap.size := by rw [← hwd]; rfl
                  have b3 := alloc_new wd (Obj.cells #[.int .i64 x, .int .i64 y] 3)
                  have HROW3 := Lib.hid ((rowd.new b3).wide (Nat.le_refl _) (show wr.heap.size ≤ wd.heap.size + 1 by omega))
                  have HMADE := Lib.hid (show Rd _ _ _ [.int .i64 x, .int .i64 y] from Rd.made wd #[.int .i64 x, .int .i64 y] 3)
                  have HHD := Lib.hid hbd
                  have hsd := hbd.size
                  have L1 := Lib.hid (show (ivs P).length + 2 ≤ maxLen ∧ ((ivs P).length + 2) * 8 ≤ 140737488355328 by rw [ivs_len, HPL.out]; unfold maxLen; omega)
                  clear hwd rowd hzd b3 hbd HRP
                  go_wp2_with (at_builtin; refine wpList_app rfl (.tmp 63) (.tmp 66) 25 rfl 3 i0 _ 8 Try.underlying25 hi hz0 hz1 hz2 rfl rfl rfl HROW3.out rfl HMADE.out (by simp [Value.oneCell']) L1.out.1 L1.out.2 (by simp; omega) ?_; intro v9 w9 hrow9 ho9)
                  have hb9 : Below w.heap.size wd w9 := ((alloc_new wd _).mono hsd).trans (ho9.below (Nat.le_refl _) (by simp; omega))
                  go_roundw
                  case rel => exact ⟨k + 1, by omega, by go_num, by rw [HS.out, show ivs (P ++ [x, y]) = ivs P ++ [.int .i64 x, .int .i64 y] by simp [ivs]]; exact hrow9, HHD.out.trans hb9, HN.out⟩
                  case measure => simp [intOf]; omega
        · have e : k = n := by omega
          subst e
          have HT := Lib.hid (turX_all hl.out hl'.out n1 n6 hnd)
          go_wp2_with fail
          go_ret
          exact ⟨_, rfl, by rw [HT.out]; exact hrow, hb⟩
    · have H16 := Lib.hid (show inr (n : Int) 1 6 = false by refine inr_f ?_; omega)
      have HD := Lib.hid (show turX S Z = [] from turX_no (turO_big (by rw [hl.out]; exact hr6)))
      have hne : ((n : Int) != (n : Int)) = false := by simp
      go_enter Try.func47, Try.ntmps47
      go_wp2_with fail
      refine (l1In_any _ _ _ _).mono ?_
      rintro e u ⟨rfl, rfl⟩
      rw [H16.out]
      go_wp2_with fail
      go_ret
      rw [HD.out]
      exact HF.out
  · have HD := Lib.hid (show turX S Z = [] from turX_no (turO_len (by rw [hl.out, hl'.out]; omega)))
    have hne : ((n : Int) != (n' : Int)) = true := by simpa using (show ¬ (n : Int) = (n' : Int) by omega)
    go_enter Try.func47, Try.ntmps47
    go_wp2_with fail
    go_ret
    rw [HD.out]
    exact HF.out
end Go.Proofs.Ytignchefkihdaaa
