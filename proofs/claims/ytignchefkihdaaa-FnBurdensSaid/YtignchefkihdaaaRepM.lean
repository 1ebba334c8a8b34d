/- Contract of the model Reply (chapter 13). Condition: the points have at most 10^12 elements. -/
import Derived.Test.YtignchefkihdaaaRaiM
import Derived.Test.YtignchefkihdaaaDraw3
namespace Go.Proofs.Ytignchefkihdaaa
open Go.ChangeShapes Go.WideShapes Go.ChangeAt Go.RowKit
set_option maxRecDepth 100000
theorem repN_no {X : List T3} {k q s : Int} (h : repI X k q s = none) : repL X k q s = X := by unfold repL; rw [h]
theorem repN_yes {X : List T3} {k q s : Int} {p : Nat} (h : repI X k q s = some p) (hp : p < X.length) : repL X k q s = X.set p (X[p].1, X[p].2.1, s) := by unfold repL; rw [h]; simp only [getT hp]
theorem repN_bad {X : List T3} {k q s : Int} (h : ptB X = false ∨ inr q 1 2 = false) : repI X k q s = none := by
  unfold repI
  rcases h with h | h
  · rw [h, Bool.false_and]; rfl
  · rw [h, Bool.and_false]; rfl
theorem repN_none {X : List T3} {k q s : Int} {n : Nat} (hn : X.length ≤ n) (h : ∀ j, j < n → repP k q s (X.getD j (0, 0, 0)) = false) : repI X k q s = none := by
  unfold repI
  split
  · rw [List.find?_eq_none]
    intro j hj
    rw [h j (by have := List.mem_range.1 hj; omega)]
    simp
  · rfl
theorem repN_some {X : List T3} {k q s : Int} {p : Nat} (hb : ptB X = true) (hq : inr q 1 2 = true) (hp : p < X.length) (h : ∀ j, j < p → repP k q s (X.getD j (0, 0, 0)) = false) (hx : repP k q s X[p] = true) : repI X k q s = some p := by
  unfold repI
  rw [hb, hq, Bool.and_self, if_pos rfl, List.find?_range_eq_some]
  exact ⟨by rw [getT hp]; exact hx, List.mem_range.2 hp, fun j hj => by rw [h j hj]; rfl⟩
set_option maxHeartbeats 16000000 in
theorem specReply_any {w : World} {A : Option Addr} {n c : Nat} {k q s : Int} {X : List T3} (hl : Hid (X.length = n)) (hn : n ≤ 900000000000) (hr : Rd w w.heap.size A (t3s X)) :
    Calls Try.prog 60 #[.slice A n c, .int .i64 k, .int .i64 q, .int .i64 s] w (GivesL w (repL X k q s) (repI X k q s).isSome) := by
  obtain ⟨i0, hi, hz0, hz1, hz2⟩ := info_parts PointS_info
  have HR := Lib.hid hr
  have be := alloc_new' w (Obj.cells #[] 48)
  have hre : Row3 (w.alloc (Obj.cells #[] 48)) w.heap.size (w.heap.size + 1) 48 (.slice (some ⟨w.heap.size, 0, none⟩) 0 0) [] := Row3.made (w := w) w.heap.size #[] 0 (Nat.le_refl _) rfl rfl (Nat.zero_le _)
  have hrx := hr.below be
  have L4 := Lib.hid (show ([] : List T3).length + n ≤ maxLen ∧ (([] : List T3).length + n) * 24 ≤ 140737488355328 by unfold maxLen; simp; omega)
  clear hr
  go_enter Try.func60, Try.ntmps60
  go_wp2_with (at_builtin; refine wpList_app3 rfl (.tmp 15) (.tmp 16) 35 rfl 48 i0 _ 24 Try.underlying35 hi hz0 hz1 hz2 rfl rfl rfl hre hl.out hrx L4.out.1 L4.out.2 (by simp) ?_; intro v9 w9 hrow9 ho9; rw [List.nil_append] at hrow9; obtain ⟨A9, c9, rfl, _, _, _⟩ := hrow9.rd (n := n) hl.out)
  have hb9 : Below w.heap.size w w9 := be.trans (ho9.below (Nat.le_refl _) (by simp))
  clear be hre hrx ho9
  go_loopw [11] (fun i wr => ∃ p : Nat, p ≤ n ∧ i = .int .i64 p ∧ Row3 wr w.heap.size wr.heap.size 48 (.slice A9 n c9) X ∧ Below w.heap.size w wr ∧ Hid (∀ j, j < p → repP k q s (X.getD j (0, 0, 0)) = false)) (fun i _ => n - (intOf i).toNat)
  case atStart => exact ⟨0, Nat.zero_le _, rfl, hrow9, hb9, Lib.hid (fun j h => absurd h (by omega))⟩
  case round =>
    obtain ⟨p, hp, rfl, hrow, hb, hno⟩ := hrel
    clear hrow9 hb9
    have hsz := hb.size
    by_cases hlt : p < n
    · have hkz : p < X.length := by rw [hl.out]; exact hlt
      have i0' : (0 : Int) ≤ (p : Int) := by omega
      have i1 : (p : Int) < (n : Int) := by omega
      have HRR := Lib.hid ((HR.out.below hb).more hsz)
      have HROW := Lib.hid hrow
      have HB := Lib.hid hb
      clear hrow hb
      have FIN : Hid (∀ (u : World), Below wr.heap.size wr u → repI X k q s = none → GivesL w (repL X k q s) (repI X k q s).isSome (.returned (.tuple #[.slice A9 n c9, .bool false])) u) := Lib.hid (fun u r h => ⟨_, by rw [h]; rfl, by rw [repN_no h]; exact (HROW.out.new r).wide (Nat.le_refl _) r.size, HB.out.trans (r.mono hsz)⟩)
      cases hpb : ptB X with
      | false =>
        have HP := Lib.hid hpb
        have HV := Lib.hid (repN_bad (k := k) (q := q) (s := s) (.inl hpb))
        clear hpb
        go_wp2_with fail
        refine (specArePoints_any (X := X) hl (by omega) HRR.out).mono ?_
        rintro e u ⟨rfl, r⟩
        rw [HP.out]
        go_wp2_with fail
        refine bodyPost_ret (v := .tuple #[.slice A9 n c9, .bool false]) (by simp [results, Try.results60, go_sem]) rfl ?_
        exact FIN.out u r HV.out
      | true =>
        have HP := Lib.hid hpb
        clear hpb
        cases hs : inr q 1 2 with
        | false =>
          have HS := Lib.hid hs
          have HV := Lib.hid (repN_bad (X := X) (k := k) (q := q) (s := s) (.inr hs))
          clear hs
          go_wp2_with fail
          refine (specArePoints_any (X := X) hl (by omega) HRR.out).mono ?_
          rintro e u ⟨rfl, r⟩
          rw [HP.out]
          go_wp2_with fail
          refine (l1In_any _ _ _ _).mono ?_
          rintro e u2 ⟨rfl, rfl⟩
          rw [HS.out]
          go_wp2_with fail
          refine bodyPost_ret (v := .tuple #[.slice A9 n c9, .bool false]) (by simp [results, Try.results60, go_sem]) rfl ?_
          exact FIN.out u r HV.out
        | true =>
          have HS := Lib.hid hs
          clear hs
          obtain ⟨x, hx⟩ : ∃ x : T3, x = X[p]'hkz := ⟨_, rfl⟩
          have HNO := Lib.hid (show repP k q s x = false → ∀ j, j < p + 1 → repP k q s (X.getD j (0, 0, 0)) = false from fun h j hj => by
            by_cases e : j = p
            · subst e; rw [getT hkz, ← hx]; exact h
            · exact hno.out j (by omega))
          have HYES := Lib.hid (show repP k q s x = true → repI X k q s = some p by rw [hx]; exact fun h => repN_some HP.out HS.out hkz hno.out h)
          have HSET := Lib.hid (show repI X k q s = some p → repL X k q s = X.set p (x.1, x.2.1, s) by rw [hx]; exact fun h => repN_yes h hkz)
          have HT3 := Lib.hid (show (t3s X).set (p * 3 + 2) (.int .i64 s) = t3s (X.set p (x.1, x.2.1, s)) by rw [hx]; exact (t3s_sets X p hkz s).2.2)
          have HX := Lib.hid hx
          obtain ⟨g, cg, eg, hg0, hg1, hg2, hgc, hgm⟩ := HROW.out.base hl.out (by omega)
          injection eg with eg1 _ eg3
          subst eg1 eg3
          clear hx hno
          go_wp2_with fail
          refine (specArePoints_any (X := X) hl (by omega) HRR.out).mono ?_
          rintro e u ⟨rfl, r⟩
          rw [HP.out]
          have hbu := HB.out.trans (r.mono hsz)
          have hru := (HROW.out.new r).wide (Nat.le_refl _) r.size
          obtain ⟨ad, y, eA, hy, hab, c0', c1', c2'⟩ := t3_cells ((HRR.out.below r).more r.size) hkz
          have c0 : u.cell? y = some (.int .i64 x.1) := by rw [HX.out]; exact c0'
          have c1 : u.cell? ⟨y.block, y.off + 1, none⟩ = some (.int .i64 x.2.1) := by rw [HX.out]; exact c1'
          have c2 : u.cell? ⟨y.block, y.off + 2, none⟩ = some (.int .i64 x.2.2) := by rw [HX.out]; exact c2'
          subst eA
          have hba := alloc_new' u (Obj.cells #[.int .i64 x.1, .int .i64 x.2.1, .int .i64 x.2.2] 48)
          have hra := (hru.new hba).wide (Nat.le_refl _) hba.size
          have hbb := hbu.trans (hba.mono hbu.size)
          have HRA := Lib.hid hra
          have HBB := Lib.hid hbb
          obtain ⟨_, _, _, q2, _, _, f2⟩ := row3_at hra hkz
          have HRN := Lib.hid (hra.set HT3.out)
          have HBN := Lib.hid (hbb.setCell (p := ⟨g, p * 3 + 2, none⟩) hg0 (.int .i64 s))
          clear c0' c1' c2' r hbu hru hba hra hbb
          go_wp2_with fail
          refine (l1In_any _ _ _ _).mono ?_
          rintro e u2 ⟨rfl, rfl⟩
          rw [HS.out]
          by_cases s0 : x.2.2 = 0
          · have e0 : (x.2.2 == 0) = true := by simpa using s0
            have e2 : (x.2.2 == 2) = false := by rw [s0]; rfl
            by_cases hq : x.2.1 = q
            · have eq1 : (q != x.2.1) = false := by simpa using hq.symm
              have eq2 : (q == x.2.1) = true := by simpa using hq.symm
              have eq3 : (x.2.1 != q) = false := by simpa using hq
              by_cases hk : x.1 = k
              · have ek : (x.1 == k) = true := by simpa using hk
                have HM := Lib.hid (show repP k q s x = false by unfold repP; rw [ek, e0, e2, eq3]; simp)
                have HN := Lib.hid (HNO.out HM.out)
                clear s0 hq hk
                go_wp2_with fail
                go_roundw
                case rel => exact ⟨p + 1, by omega, by go_num, HRA.out, HBB.out, HN⟩
                case measure => simp [intOf]; omega
              · have ek : (x.1 == k) = false := by simpa using hk
                have HM := Lib.hid (show repP k q s x = false by unfold repP; rw [ek, Bool.false_and])
                have HN := Lib.hid (HNO.out HM.out)
                clear s0 hq hk
                go_wp2_with fail
                go_roundw
                case rel => exact ⟨p + 1, by omega, by go_num, HRA.out, HBB.out, HN⟩
                case measure => simp [intOf]; omega
            · have eq1 : (q != x.2.1) = true := by simpa using (fun e => hq e.symm)
              have eq2 : (q == x.2.1) = false := by simpa using (fun e => hq e.symm)
              have eq3 : (x.2.1 != q) = true := by simpa using hq
              cases hb1 : inr s 1 2 with
              | true =>
                have HB1 := Lib.hid hb1
                by_cases hk : x.1 = k
                · have ek : (x.1 == k) = true := by simpa using hk
                  have HM := Lib.hid (show repP k q s x = true by unfold repP; rw [ek, e0, eq3, hb1]; simp)
                  have HV := Lib.hid (HYES.out HM.out)
                  clear s0 hq hb1 hk
                  go_wp2_with fail
                  refine (l1In_any _ _ _ _).mono ?_
                  rintro e u3 ⟨rfl, rfl⟩
                  rw [HB1.out]
                  go_wp2_with fail
                  refine bodyPost_ret (v := .tuple #[.slice (some ⟨g, 0, none⟩) n c9, .bool true]) (by simp [results, Try.results60, go_sem]) rfl ?_
                  exact ⟨_, by rw [HV.out]; rfl, by rw [HSET.out HV.out]; exact (show Row3 _ _ (u.heap.size + 1) _ _ _ from by simpa using HRN.out).wide (Nat.le_refl _) (by simp [World.setCell]), HBN.out⟩
                · have ek : (x.1 == k) = false := by simpa using hk
                  have HM := Lib.hid (show repP k q s x = false by unfold repP; rw [ek, Bool.false_and])
                  have HN := Lib.hid (HNO.out HM.out)
                  clear s0 hq hb1 hk
                  go_wp2_with fail
                  refine (l1In_any _ _ _ _).mono ?_
                  rintro e u3 ⟨rfl, rfl⟩
                  rw [HB1.out]
                  go_wp2_with fail
                  go_roundw
                  case rel => exact ⟨p + 1, by omega, by go_num, HRA.out, HBB.out, HN⟩
                  case measure => simp [intOf]; omega
              | false =>
                have HB1 := Lib.hid hb1
                by_cases hk : x.1 = k
                · have ek : (x.1 == k) = true := by simpa using hk
                  have HM := Lib.hid (show repP k q s x = false by unfold repP; rw [ek, e0, e2, eq3, hb1]; simp)
                  have HN := Lib.hid (HNO.out HM.out)
                  clear s0 hq hb1 hk
                  go_wp2_with fail
                  refine (l1In_any _ _ _ _).mono ?_
                  rintro e u3 ⟨rfl, rfl⟩
                  rw [HB1.out]
                  go_wp2_with fail
                  go_roundw
                  case rel => exact ⟨p + 1, by omega, by go_num, HRA.out, HBB.out, HN⟩
                  case measure => simp [intOf]; omega
                · have ek : (x.1 == k) = false := by simpa using hk
                  have HM := Lib.hid (show repP k q s x = false by unfold repP; rw [ek, Bool.false_and])
                  have HN := Lib.hid (HNO.out HM.out)
                  clear s0 hq hb1 hk
                  go_wp2_with fail
                  refine (l1In_any _ _ _ _).mono ?_
                  rintro e u3 ⟨rfl, rfl⟩
                  rw [HB1.out]
                  go_wp2_with fail
                  go_roundw
                  case rel => exact ⟨p + 1, by omega, by go_num, HRA.out, HBB.out, HN⟩
                  case measure => simp [intOf]; omega
          · have e0 : (x.2.2 == 0) = false := by simpa using s0
            by_cases s2 : x.2.2 = 2
            · have e2 : (x.2.2 == 2) = true := by simpa using s2
              by_cases hq : x.2.1 = q
              · have eq1 : (q != x.2.1) = false := by simpa using hq.symm
                have eq2 : (q == x.2.1) = true := by simpa using hq.symm
                have eq3 : (x.2.1 == q) = true := by simpa using hq
                cases hb1 : inr s 3 4 with
                | true =>
                  have HB1 := Lib.hid hb1
                  by_cases hk : x.1 = k
                  · have ek : (x.1 == k) = true := by simpa using hk
                    have HM := Lib.hid (show repP k q s x = true by unfold repP; rw [ek, e2, eq3, hb1]; simp)
                    have HV := Lib.hid (HYES.out HM.out)
                    clear s0 s2 hq hb1 hk
                    go_wp2_with fail
                    refine (l1In_any _ _ _ _).mono ?_
                    rintro e u3 ⟨rfl, rfl⟩
                    rw [HB1.out]
                    go_wp2_with fail
                    refine bodyPost_ret (v := .tuple #[.slice (some ⟨g, 0, none⟩) n c9, .bool true]) (by simp [results, Try.results60, go_sem]) rfl ?_
                    exact ⟨_, by rw [HV.out]; rfl, by rw [HSET.out HV.out]; exact (show Row3 _ _ (u.heap.size + 1) _ _ _ from by simpa using HRN.out).wide (Nat.le_refl _) (by simp [World.setCell]), HBN.out⟩
                  · have ek : (x.1 == k) = false := by simpa using hk
                    have HM := Lib.hid (show repP k q s x = false by unfold repP; rw [ek, Bool.false_and])
                    have HN := Lib.hid (HNO.out HM.out)
                    clear s0 s2 hq hb1 hk
                    go_wp2_with fail
                    refine (l1In_any _ _ _ _).mono ?_
                    rintro e u3 ⟨rfl, rfl⟩
                    rw [HB1.out]
                    go_wp2_with fail
                    go_roundw
                    case rel => exact ⟨p + 1, by omega, by go_num, HRA.out, HBB.out, HN⟩
                    case measure => simp [intOf]; omega
                | false =>
                  have HB1 := Lib.hid hb1
                  by_cases hk : x.1 = k
                  · have ek : (x.1 == k) = true := by simpa using hk
                    have HM := Lib.hid (show repP k q s x = false by unfold repP; rw [ek, e0, e2, eq3, hb1]; simp)
                    have HN := Lib.hid (HNO.out HM.out)
                    clear s0 s2 hq hb1 hk
                    go_wp2_with fail
                    refine (l1In_any _ _ _ _).mono ?_
                    rintro e u3 ⟨rfl, rfl⟩
                    rw [HB1.out]
                    go_wp2_with fail
                    go_roundw
                    case rel => exact ⟨p + 1, by omega, by go_num, HRA.out, HBB.out, HN⟩
                    case measure => simp [intOf]; omega
                  · have ek : (x.1 == k) = false := by simpa using hk
                    have HM := Lib.hid (show repP k q s x = false by unfold repP; rw [ek, Bool.false_and])
                    have HN := Lib.hid (HNO.out HM.out)
                    clear s0 s2 hq hb1 hk
                    go_wp2_with fail
                    refine (l1In_any _ _ _ _).mono ?_
                    rintro e u3 ⟨rfl, rfl⟩
                    rw [HB1.out]
                    go_wp2_with fail
                    go_roundw
                    case rel => exact ⟨p + 1, by omega, by go_num, HRA.out, HBB.out, HN⟩
                    case measure => simp [intOf]; omega
              · have eq1 : (q != x.2.1) = true := by simpa using (fun e => hq e.symm)
                have eq2 : (q == x.2.1) = false := by simpa using (fun e => hq e.symm)
                have eq3 : (x.2.1 == q) = false := by simpa using hq
                by_cases hk : x.1 = k
                · have ek : (x.1 == k) = true := by simpa using hk
                  have HM := Lib.hid (show repP k q s x = false by unfold repP; rw [ek, e0, e2, eq3]; simp)
                  have HN := Lib.hid (HNO.out HM.out)
                  clear s0 s2 hq hk
                  go_wp2_with fail
                  go_roundw
                  case rel => exact ⟨p + 1, by omega, by go_num, HRA.out, HBB.out, HN⟩
                  case measure => simp [intOf]; omega
                · have ek : (x.1 == k) = false := by simpa using hk
                  have HM := Lib.hid (show repP k q s x = false by unfold repP; rw [ek, Bool.false_and])
                  have HN := Lib.hid (HNO.out HM.out)
                  clear s0 s2 hq hk
                  go_wp2_with fail
                  go_roundw
                  case rel => exact ⟨p + 1, by omega, by go_num, HRA.out, HBB.out, HN⟩
                  case measure => simp [intOf]; omega
            · have e2 : (x.2.2 == 2) = false := by simpa using s2
              by_cases hq : x.2.1 = q
              · have eq1 : (q != x.2.1) = false := by simpa using hq.symm
                have eq2 : (q == x.2.1) = true := by simpa using hq.symm
                by_cases hk : x.1 = k
                · have ek : (x.1 == k) = true := by simpa using hk
                  have HM := Lib.hid (show repP k q s x = false by unfold repP; rw [ek, e0, e2]; simp)
                  have HN := Lib.hid (HNO.out HM.out)
                  clear s0 s2 hq hk
                  go_wp2_with fail
                  go_roundw
                  case rel => exact ⟨p + 1, by omega, by go_num, HRA.out, HBB.out, HN⟩
                  case measure => simp [intOf]; omega
                · have ek : (x.1 == k) = false := by simpa using hk
                  have HM := Lib.hid (show repP k q s x = false by unfold repP; rw [ek, Bool.false_and])
                  have HN := Lib.hid (HNO.out HM.out)
                  clear s0 s2 hq hk
                  go_wp2_with fail
                  go_roundw
                  case rel => exact ⟨p + 1, by omega, by go_num, HRA.out, HBB.out, HN⟩
                  case measure => simp [intOf]; omega
              · have eq1 : (q != x.2.1) = true := by simpa using (fun e => hq e.symm)
                have eq2 : (q == x.2.1) = false := by simpa using (fun e => hq e.symm)
                by_cases hk : x.1 = k
                · have ek : (x.1 == k) = true := by simpa using hk
                  have HM := Lib.hid (show repP k q s x = false by unfold repP; rw [ek, e0, e2]; simp)
                  have HN := Lib.hid (HNO.out HM.out)
                  clear s0 s2 hq hk
                  go_wp2_with fail
                  go_roundw
                  case rel => exact ⟨p + 1, by omega, by go_num, HRA.out, HBB.out, HN⟩
                  case measure => simp [intOf]; omega
                · have ek : (x.1 == k) = false := by simpa using hk
                  have HM := Lib.hid (show repP k q s x = false by unfold repP; rw [ek, Bool.false_and])
                  have HN := Lib.hid (HNO.out HM.out)
                  clear s0 s2 hq hk
                  go_wp2_with fail
                  go_roundw
                  case rel => exact ⟨p + 1, by omega, by go_num, HRA.out, HBB.out, HN⟩
                  case measure => simp [intOf]; omega
    · have e : p = n := by omega
      subst e
      have HV := Lib.hid (repN_none (k := k) (q := q) (s := s) (by rw [hl.out]; exact Nat.le_refl _) hno.out)
      have HROW := Lib.hid hrow
      have HB := Lib.hid hb
      clear hrow hb hno
      go_wp2_with fail
      refine bodyPost_ret (v := .tuple #[.slice A9 p c9, .bool false]) (by simp [results, Try.results60, go_sem]) rfl ?_
      exact ⟨_, by rw [HV.out]; rfl, by rw [repN_no HV.out]; exact HROW.out, HB.out⟩
end Go.Proofs.Ytignchefkihdaaa
