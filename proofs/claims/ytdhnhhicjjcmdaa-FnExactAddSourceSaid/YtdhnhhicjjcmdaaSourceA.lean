/- Contracts of the laws' own functions over sources: toSource, eqSource, szSourceS, eqSourceS. No conditions but that the slices have at most 2^40 elements. -/
import Derived.Test.YtdhnhhicjjcmdaaSourceR
import Derived.Test.YtdhnhhicjjcmdaaGraph
import Derived.BigQuiet
import Derived.Deep.Quiet
namespace Go.Proofs.Ytdhnhhicjjcmdaa
open Go.ChangeShapes Go.WideShapes Go.ChangeAt Go.RowKit
set_option maxRecDepth 100000
theorem toSource_any {w : World} {a : Int} {b : Int} {c : Int} {d : Bool} :
    Calls Try.prog 27 #[.agg #[.int .i64 a, .int .i64 b, .int .i64 c, .bool d]] w (fun e w' => e = .returned (.agg #[.int .i64 a, .int .i64 b, .int .i64 c, .bool d]) ∧ Below w.heap.size w w') := by
  go_enter Try.func27, Try.ntmps27
  go_wp2_with fail
  refine bodyPost_ret (v := .agg #[.int .i64 a, .int .i64 b, .int .i64 c, .bool d]) (by simp [results, Try.results27, go_sem]) rfl ⟨rfl, ?_⟩
  exact (((Below.refl _ _).alloc (Nat.le_refl _) _).alloc (by simp) _).alloc (by simp; omega) _
theorem eqSource_any {w : World} {a : Int} {b : Int} {c : Int} {d : Bool} {p : Int} {q : Int} {r : Int} {s : Bool} :
    Calls Try.prog 43 #[.agg #[.int .i64 a, .int .i64 b, .int .i64 c, .bool d], .agg #[.int .i64 p, .int .i64 q, .int .i64 r, .bool s]] w (fun e w' => e = .returned (.bool (decide ((a, b, c, d) = (p, q, r, s)))) ∧ Below w.heap.size w w') := by
  have hb : Below w.heap.size w ((w.alloc (Obj.cells #[Value.int .i64 a, Value.int .i64 b, Value.int .i64 c, Value.bool d] 40)).alloc (Obj.cells #[Value.int .i64 p, Value.int .i64 q, Value.int .i64 r, Value.bool s] 40)) := ((Below.refl _ _).alloc (Nat.le_refl _) _).alloc (by simp) _
  by_cases h0 : a = p
  · subst h0
    by_cases h1 : b = q
    · subst h1
      by_cases h2 : c = r
      · subst h2
        by_cases h3 : d = s
        · subst h3
          go_enter Try.func43, Try.ntmps43
          go_wp2_with fail
          go_ret
          exact ⟨by simp, hb⟩
        · have h3' : (!(d == s)) = true := by simpa using h3
          go_enter Try.func43, Try.ntmps43
          go_wp2_with fail
          go_ret
          exact ⟨by simp [h3], hb⟩
      · have h2' : (c != r) = true := by simpa using h2
        go_enter Try.func43, Try.ntmps43
        go_wp2_with fail
        go_ret
        exact ⟨by simp [h2], hb⟩
    · have h1' : (b != q) = true := by simpa using h1
      go_enter Try.func43, Try.ntmps43
      go_wp2_with fail
      go_ret
      exact ⟨by simp [h1], hb⟩
  · have h0' : (a != p) = true := by simpa using h0
    go_enter Try.func43, Try.ntmps43
    go_wp2_with fail
    go_ret
    exact ⟨by simp [h0], hb⟩
theorem szSourceS_any {w : World} {A : Option Addr} {n c : Nat} {q : Int} (hn : n ≤ 9223372036854775807) (h0 : 0 ≤ q) (hq : q ≤ 1000000000000000) :
    Calls Try.prog 11 #[.slice A n c, .int .i64 q] w (fun e w' => e = .returned (.int .i64 (szd q n)) ∧ w = w') := by
  by_cases h : q - (n : Int) < 0
  · have HS := Lib.hid (show szd q n = -1 by unfold szd; rw [if_pos (by omega)])
    go_enter Try.func11, Try.ntmps11
    go_wp2
    go_ret
    exact ⟨ret_i HS.out.symm, rfl⟩
  · have HS := Lib.hid (show szd q n = q - n by unfold szd; rw [if_neg (by omega)])
    go_enter Try.func11, Try.ntmps11
    go_wp2
    go_ret
    exact ⟨ret_i HS.out.symm, rfl⟩
set_option maxHeartbeats 1000000 in
theorem eqSourceS_any {w : World} {A A' : Option Addr} {n c n' c' : Nat} {X Y : List Src} (hl : Hid (X.length = n)) (hl' : Hid (Y.length = n')) (hn : n ≤ 1099511627776) (hn' : n' ≤ 1099511627776)
    (hr : Rd w w.heap.size A (flE srcE X)) (hr' : Rd w w.heap.size A' (flE srcE Y)) :
    Calls Try.prog 15 #[.slice A n c, .slice A' n' c'] w (Tells (decide (X = Y)) w) := by
  by_cases hne : n = n'
  · subst hne
    go_enter Try.func15, Try.ntmps15
    go_wp2
    go_loopw [5] (fun i wr => ∃ k : Nat, k ≤ n ∧ i = .int .i64 k ∧ Below w.heap.size w wr ∧ Hid (X.take k = Y.take k)) (fun i _ => n - (intOf i).toNat)
    case atStart => exact ⟨0, Nat.zero_le _, rfl, Below.refl _ _, Lib.hid rfl⟩
    case round =>
      obtain ⟨k, hk, rfl, hb, heq⟩ := hrel
      by_cases hlt : k < n
      · have hkz : k < X.length := by rw [hl.out]; exact hlt
        have hky : k < Y.length := by rw [hl'.out]; exact hlt
        obtain ⟨ad, p, rfl, hp, hab, h0, h1, h2, h3⟩ := src_cells ((hr.below hb).more hb.size) hkz
        obtain ⟨ad', p', rfl, hp', hab', g0, g1, g2, g3⟩ := src_cells ((hr'.below hb).more hb.size) hky
        obtain ⟨x, hx⟩ : ∃ x, x = X[k] := ⟨_, rfl⟩
        obtain ⟨y, hy⟩ : ∃ y, y = Y[k] := ⟨_, rfl⟩
        rw [← hx] at h0 h1 h2 h3
        rw [← hy] at g0 g1 g2 g3
        have HXY := Lib.hid (And.intro hx hy)
        have i0 : (0 : Int) ≤ (k : Int) := by omega
        have i1 : (k : Int) < (n : Int) := by omega
        have KE := fun (u : World) (q : Below wr.heap.size wr u) => show (fun u => Below wr.heap.size wr u ∧ u.cell? p = some (.int .i64 x.1) ∧ u.cell? ⟨p.block, p.off + 1, none⟩ = some (.int .i64 x.2.1) ∧ u.cell? ⟨p.block, p.off + 2, none⟩ = some (.int .i64 x.2.2.1) ∧ u.cell? ⟨p.block, p.off + 3, none⟩ = some (.bool x.2.2.2) ∧ u.cell? p' = some (.int .i64 y.1) ∧ u.cell? ⟨p'.block, p'.off + 1, none⟩ = some (.int .i64 y.2.1) ∧ u.cell? ⟨p'.block, p'.off + 2, none⟩ = some (.int .i64 y.2.2.1) ∧ u.cell? ⟨p'.block, p'.off + 3, none⟩ = some (.bool y.2.2.2)) u from ⟨q, (q.cell (p := p) hab).trans h0, (q.cell (p := ⟨p.block, p.off + 1, none⟩) hab).trans h1, (q.cell (p := ⟨p.block, p.off + 2, none⟩) hab).trans h2, (q.cell (p := ⟨p.block, p.off + 3, none⟩) hab).trans h3, (q.cell (p := p') hab').trans g0, (q.cell (p := ⟨p'.block, p'.off + 1, none⟩) hab').trans g1, (q.cell (p := ⟨p'.block, p'.off + 2, none⟩) hab').trans g2, (q.cell (p := ⟨p'.block, p'.off + 3, none⟩) hab').trans g3⟩
        obtain ⟨b, hbb⟩ : ∃ b, decide (x = y) = b := ⟨_, rfl⟩
        have HBB := Lib.hid hbb
        clear hx hy hbb
        cases b with
        | true =>
          go_wp2_with fail
          refine wp_region_quiet (C := fun u => Below wr.heap.size wr u ∧ u.cell? p = some (.int .i64 x.1) ∧ u.cell? ⟨p.block, p.off + 1, none⟩ = some (.int .i64 x.2.1) ∧ u.cell? ⟨p.block, p.off + 2, none⟩ = some (.int .i64 x.2.2.1) ∧ u.cell? ⟨p.block, p.off + 3, none⟩ = some (.bool x.2.2.2) ∧ u.cell? p' = some (.int .i64 y.1) ∧ u.cell? ⟨p'.block, p'.off + 1, none⟩ = some (.int .i64 y.2.1) ∧ u.cell? ⟨p'.block, p'.off + 2, none⟩ = some (.int .i64 y.2.2.1) ∧ u.cell? ⟨p'.block, p'.off + 3, none⟩ = some (.bool y.2.2.2)) (by kernel_rfl) (by kernel_rfl) (KE _ (Below.refl _ _).drew) ?_
          rw [List.toList_toArray]
          go_big_quiet_want
          go_big_quiet_op
          go_big_quiet_on
          go_big_quiet_want
          go_big_quiet_op
          go_big_quiet_on
          go_big_quiet_want
          apply Exists.intro
          refine ⟨fun u hu => ?_, ?_⟩
          · obtain ⟨hu0, hu1, hu2, hu3, hu4, hu5, hu6, hu7, hu8⟩ := hu
            unfold Oper.quietAt
            go_simp
            try rfl
          simp only [Act.put, List.setIfInBounds_toArray, List.set_cons_zero, List.set_cons_succ]
          go_big_quiet_on
          go_big_quiet_want
          apply Exists.intro
          refine ⟨fun u hu => ?_, ?_⟩
          · obtain ⟨hu0, hu1, hu2, hu3, hu4, hu5, hu6, hu7, hu8⟩ := hu
            unfold Oper.quietAt
            go_simp
            try rfl
          simp only [Act.put, List.setIfInBounds_toArray, List.set_cons_zero, List.set_cons_succ]
          go_big_quiet_on
          go_big_quiet_want
          go_big_quiet_op
          go_big_quiet_on
          go_big_quiet_want
          go_big_quiet_op
          go_big_quiet_on
          go_big_quiet_want
          apply Exists.intro
          refine ⟨fun u hu => ?_, ?_⟩
          · obtain ⟨hu0, hu1, hu2, hu3, hu4, hu5, hu6, hu7, hu8⟩ := hu
            unfold Oper.quietAt
            go_simp
            try rfl
          simp only [Act.put, List.setIfInBounds_toArray, List.set_cons_zero, List.set_cons_succ]
          go_big_quiet_on
          go_big_quiet_want
          apply Exists.intro
          refine ⟨fun u hu => ?_, ?_⟩
          · obtain ⟨hu0, hu1, hu2, hu3, hu4, hu5, hu6, hu7, hu8⟩ := hu
            unfold Oper.quietAt
            go_simp
            try rfl
          simp only [Act.put, List.setIfInBounds_toArray, List.set_cons_zero, List.set_cons_succ]
          go_big_quiet_on
          go_big_quiet_want
          refine ⟨.bool true, fun u hu => ?_, ?_⟩
          · obtain ⟨hu0, hu1, hu2, hu3, hu4, hu5, hu6, hu7, hu8⟩ := hu
            unfold Oper.quietAt
            go_simp
            refine (eqSource_any).mono ?_
            rintro e u9 ⟨he, hb9⟩
            rw [show decide ((x.1, x.2.1, x.2.2.1, x.2.2.2) = (y.1, y.2.1, y.2.2.1, y.2.2.2)) = true from HBB.out] at he
            exact ⟨he, KE _ (trans_new hu0 hb9)⟩
          simp only [Act.put, List.setIfInBounds_toArray, List.set_cons_zero, List.set_cons_succ]
          go_big_quiet_on
          go_big_quiet_want
          apply Exists.intro
          refine ⟨fun u hu => ?_, ?_⟩
          · obtain ⟨hu0, hu1, hu2, hu3, hu4, hu5, hu6, hu7, hu8⟩ := hu
            unfold Oper.quietAt
            go_simp
            try rfl
          simp only [Act.put, List.setIfInBounds_toArray, List.set_cons_zero, List.set_cons_succ]
          go_big_quiet_on
          refine wpQuiet_nil ?_
          rintro u ⟨r, _⟩
          go_wp2_with fail
          go_roundw
          case rel => exact ⟨k + 1, by omega, by go_num, hb.trans (r.mono hb.size), Lib.hid (by rw [List.take_succ_eq_append_getElem hkz, List.take_succ_eq_append_getElem hky, heq.out, ← HXY.out.1, ← HXY.out.2, of_decide_eq_true HBB.out])⟩
          case measure => simp [intOf]; omega
        | false =>
          go_wp2_with fail
          refine wp_region_quiet (C := fun u => Below wr.heap.size wr u ∧ u.cell? p = some (.int .i64 x.1) ∧ u.cell? ⟨p.block, p.off + 1, none⟩ = some (.int .i64 x.2.1) ∧ u.cell? ⟨p.block, p.off + 2, none⟩ = some (.int .i64 x.2.2.1) ∧ u.cell? ⟨p.block, p.off + 3, none⟩ = some (.bool x.2.2.2) ∧ u.cell? p' = some (.int .i64 y.1) ∧ u.cell? ⟨p'.block, p'.off + 1, none⟩ = some (.int .i64 y.2.1) ∧ u.cell? ⟨p'.block, p'.off + 2, none⟩ = some (.int .i64 y.2.2.1) ∧ u.cell? ⟨p'.block, p'.off + 3, none⟩ = some (.bool y.2.2.2)) (by kernel_rfl) (by kernel_rfl) (KE _ (Below.refl _ _).drew) ?_
          rw [List.toList_toArray]
          go_big_quiet_want
          go_big_quiet_op
          go_big_quiet_on
          go_big_quiet_want
          go_big_quiet_op
          go_big_quiet_on
          go_big_quiet_want
          apply Exists.intro
          refine ⟨fun u hu => ?_, ?_⟩
          · obtain ⟨hu0, hu1, hu2, hu3, hu4, hu5, hu6, hu7, hu8⟩ := hu
            unfold Oper.quietAt
            go_simp
            try rfl
          simp only [Act.put, List.setIfInBounds_toArray, List.set_cons_zero, List.set_cons_succ]
          go_big_quiet_on
          go_big_quiet_want
          apply Exists.intro
          refine ⟨fun u hu => ?_, ?_⟩
          · obtain ⟨hu0, hu1, hu2, hu3, hu4, hu5, hu6, hu7, hu8⟩ := hu
            unfold Oper.quietAt
            go_simp
            try rfl
          simp only [Act.put, List.setIfInBounds_toArray, List.set_cons_zero, List.set_cons_succ]
          go_big_quiet_on
          go_big_quiet_want
          go_big_quiet_op
          go_big_quiet_on
          go_big_quiet_want
          go_big_quiet_op
          go_big_quiet_on
          go_big_quiet_want
          apply Exists.intro
          refine ⟨fun u hu => ?_, ?_⟩
          · obtain ⟨hu0, hu1, hu2, hu3, hu4, hu5, hu6, hu7, hu8⟩ := hu
            unfold Oper.quietAt
            go_simp
            try rfl
          simp only [Act.put, List.setIfInBounds_toArray, List.set_cons_zero, List.set_cons_succ]
          go_big_quiet_on
          go_big_quiet_want
          apply Exists.intro
          refine ⟨fun u hu => ?_, ?_⟩
          · obtain ⟨hu0, hu1, hu2, hu3, hu4, hu5, hu6, hu7, hu8⟩ := hu
            unfold Oper.quietAt
            go_simp
            try rfl
          simp only [Act.put, List.setIfInBounds_toArray, List.set_cons_zero, List.set_cons_succ]
          go_big_quiet_on
          go_big_quiet_want
          refine ⟨.bool false, fun u hu => ?_, ?_⟩
          · obtain ⟨hu0, hu1, hu2, hu3, hu4, hu5, hu6, hu7, hu8⟩ := hu
            unfold Oper.quietAt
            go_simp
            refine (eqSource_any).mono ?_
            rintro e u9 ⟨he, hb9⟩
            rw [show decide ((x.1, x.2.1, x.2.2.1, x.2.2.2) = (y.1, y.2.1, y.2.2.1, y.2.2.2)) = false from HBB.out] at he
            exact ⟨he, KE _ (trans_new hu0 hb9)⟩
          simp only [Act.put, List.setIfInBounds_toArray, List.set_cons_zero, List.set_cons_succ]
          go_big_quiet_on
          go_big_quiet_want
          apply Exists.intro
          refine ⟨fun u hu => ?_, ?_⟩
          · obtain ⟨hu0, hu1, hu2, hu3, hu4, hu5, hu6, hu7, hu8⟩ := hu
            unfold Oper.quietAt
            go_simp
            try rfl
          simp only [Act.put, List.setIfInBounds_toArray, List.set_cons_zero, List.set_cons_succ]
          go_big_quiet_on
          refine wpQuiet_nil ?_
          rintro u ⟨r, _⟩
          go_wp2_with fail
          go_ret
          refine ⟨ret_b ?_, hb.trans (r.mono hb.size)⟩
          symm
          rw [decide_eq_false_iff_not]
          rintro rfl
          exact of_decide_eq_false HBB.out (HXY.out.1.trans HXY.out.2.symm)
      · have e : k = n := by omega
        subst e
        go_wp2_with fail
        go_ret
        refine ⟨ret_b ?_, hb⟩
        have h1 := heq.out
        rw [List.take_of_length_le (by rw [hl.out]; exact Nat.le_refl _), List.take_of_length_le (by rw [hl'.out]; exact Nat.le_refl _)] at h1
        rw [h1]
        simp
  · have hne' : ((n : Int) != (n' : Int)) = true := by simp; omega
    go_enter Try.func15, Try.ntmps15
    go_wp2_with fail
    go_ret
    refine ⟨ret_b ?_, Below.refl _ _⟩
    symm
    rw [decide_eq_false_iff_not]
    rintro rfl
    exact hne (hl.out.symm.trans hl'.out)
end Go.Proofs.Ytdhnhhicjjcmdaa
