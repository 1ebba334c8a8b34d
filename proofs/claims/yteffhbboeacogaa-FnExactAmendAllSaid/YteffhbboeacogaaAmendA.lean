/- Contracts of the laws' own functions over amends: toAmend, toAmendS, szAmend, szAmendS, eqAmend, eqAmendS. No conditions but that the slices have at most 2^40 elements. -/
import Derived.Test.YteffhbboeacogaaAmendR
import Derived.Test.YteffhbboeacogaaGraph
import Derived.BigQuiet
import Derived.Deep.Quiet
namespace Go.Proofs.Yteffhbboeacogaa
open Go.ChangeShapes Go.WideShapes Go.ChangeAt Go.RowKit
set_option maxRecDepth 100000
def Am.v (x : Am) (u : Value) : Value := .agg #[.int .i64 x.loc, .int .i64 x.drp, u]
set_option maxHeartbeats 1600000 in
theorem toAmend_any {w : World} {A : Option Addr} {c : Nat} {x : Am} (hn : x.put.length ≤ 1099511627776) (hr : Rd w w.heap.size A (ivs x.put)) :
    Calls Try.prog 43 #[.agg #[.int .i64 x.loc, .int .i64 x.drp, .slice A x.put.length c]] w (fun e w' => ∃ A' c', e = .returned (.agg #[.int .i64 x.loc, .int .i64 x.drp, .slice A' x.put.length c']) ∧ Row w' w.heap.size w'.heap.size 3 (.slice A' x.put.length c') (ivs x.put) ∧ Below w.heap.size w w') := by
  have hb0 : Below w.heap.size w (((w.alloc (Obj.cells #[Value.int IntKind.i64 x.loc, Value.int IntKind.i64 x.drp, Value.slice A x.put.length c] 54)).alloc (Obj.cells #[Value.int IntKind.i64 0, Value.int IntKind.i64 0, Value.slice none 0 0] 26)).alloc (Obj.cells #[Value.int IntKind.i64 x.loc, Value.int IntKind.i64 x.drp, Value.slice none 0 0] 26)) :=
    (((Below.refl _ _).alloc (Nat.le_refl _) _).alloc (by simp) _).alloc (by simp; omega) _
  go_enter Try.func43, Try.ntmps43
  go_wp2_with fail
  refine (toIntS_any (Lib.hid rfl) (by omega) ((hr.below hb0).more hb0.size)).mono ?_
  rintro e w4 ⟨v, rfl, hown, hb4⟩
  obtain ⟨A4, c4, rfl, _, _, _⟩ := hown.rd (ivs_len _)
  obtain ⟨hc, hf⟩ := bcell hb4
  have hz : w.heap.size + 3 ≤ w4.heap.size := by have := hb4.size; simpa using this
  have HB := Lib.hid hb4
  have HO := Lib.hid hown
  clear hb4 hown
  go_wp2_with fail
  refine bodyPost_ret (v := .agg #[.int .i64 x.loc, .int .i64 x.drp, .slice A4 x.put.length c4]) (by simp [results, Try.results43, go_sem, hc]) rfl ⟨_, _, rfl, ?_, ?_⟩
  · have ho := HO.out
    simp only [World.size_alloc] at ho
    refine Row.wide (lo := w.heap.size + 1 + 1 + 1) (hi := w4.heap.size) (ho.keep fun b h1 h2 h3 => ?_) (by omega) (by simp)
    repeat rw [Below.heap_setCell _ _ _ _ (by simp; omega)]
  · iterate 4 refine Below.setCell ?_ (by first | (simp; omega) | simp) _
    exact hb0.trans (HB.out.mono (by simp; omega))
theorem szAmend_any {w : World} {A : Option Addr} {c : Nat} {x : Am} {q : Int} (hn : x.put.length ≤ 9223372036854775807) (h0 : 0 ≤ q) (hq : q ≤ 1000000000000000) :
    Calls Try.prog 41 #[.agg #[.int .i64 x.loc, .int .i64 x.drp, .slice A x.put.length c], .int .i64 q] w (fun e w' => e = .returned (.int .i64 (szd q x.put.length)) ∧ Below w.heap.size w w') := by
  have hb0 : Below w.heap.size w (w.alloc (Obj.cells #[Value.int IntKind.i64 x.loc, Value.int IntKind.i64 x.drp, Value.slice A x.put.length c] 54)) := (Below.refl _ _).alloc (Nat.le_refl _) _
  obtain ⟨n, hne⟩ : ∃ n, x.put.length = n := ⟨_, rfl⟩
  rw [hne] at hn hb0 ⊢
  by_cases h : q - (n : Int) < 0
  · have HS := Lib.hid (show szd q n = -1 by unfold szd; rw [if_pos (by omega)])
    clear h
    go_enter Try.func41, Try.ntmps41
    go_wp2_with fail
    refine (szIntS_any hn h0 hq).mono ?_
    rintro e w1 ⟨rfl, rfl⟩
    rw [HS.out]
    go_wp2_with fail
    go_ret
    exact ⟨ret_i HS.out.symm, hb0⟩
  · obtain ⟨r, hr⟩ : ∃ r, szd q n = r := ⟨_, rfl⟩
    have hr0 : 0 ≤ r := by rw [← hr]; unfold szd; rw [if_neg (by omega)]; omega
    have HS := Lib.hid hr
    clear h hr
    go_enter Try.func41, Try.ntmps41
    go_wp2_with fail
    refine (szIntS_any hn h0 hq).mono ?_
    rintro e w1 ⟨rfl, rfl⟩
    rw [HS.out]
    go_wp2_with fail
    go_ret
    exact ⟨ret_i HS.out.symm, hb0⟩
set_option maxHeartbeats 1600000 in
theorem eqAmend_same {w : World} {A A' : Option Addr} {c c' : Nat} {x : Am} (hn : x.put.length ≤ 1099511627776) (hr : Rd w w.heap.size A (ivs x.put)) (hr' : Rd w w.heap.size A' (ivs x.put)) :
    Calls Try.prog 44 #[.agg #[.int .i64 x.loc, .int .i64 x.drp, .slice A x.put.length c], .agg #[.int .i64 x.loc, .int .i64 x.drp, .slice A' x.put.length c']] w (Tells true w) := by
  have hb0 : Below w.heap.size w ((w.alloc (Obj.cells #[Value.int IntKind.i64 x.loc, Value.int IntKind.i64 x.drp, Value.slice A x.put.length c] 26)).alloc (Obj.cells #[Value.int IntKind.i64 x.loc, Value.int IntKind.i64 x.drp, Value.slice A' x.put.length c'] 26)) :=
    ((Below.refl _ _).alloc (Nat.le_refl _) _).alloc (by simp) _
  have C := eqIntS_any (c := c) (c' := c') (zs := x.put) (ys := x.put) (Lib.hid rfl) (Lib.hid rfl) (by omega) (by omega) ((hr.below hb0).more hb0.size) ((hr'.below hb0).more hb0.size)
  rw [decide_eq_true (rfl : x.put = x.put)] at C
  have HC := Lib.hid C
  clear C
  go_enter Try.func44, Try.ntmps44
  go_wp2_with (go_at_call 30; refine HC.out.mono ?_; rintro e w1 ⟨rfl, hb9⟩)
  go_ret
  exact ⟨rfl, hb0.trans (hb9.mono hb0.size)⟩
theorem Am_mets_get {X : List Am} {k : Nat} (h : k < X.length) : psum (X.map Am.put) (k + 1) = psum (X.map Am.put) k + X[k].put.length := by
  rw [psum_succ _ k (by simpa using h)]; simp
theorem Am_mets_mem {X : List Am} {k : Nat} (h : k < X.length) : X[k].put.length ≤ psum (X.map Am.put) X.length := by
  have := psum_mem (X.map Am.put) X[k].put (List.mem_map.2 ⟨X[k], List.getElem_mem _, rfl⟩)
  simpa using this
/-- Either all is counted, or there is too much. -/
def SzA (q : Int) (X : List Am) (w : World) (e : Ending) (w' : World) : Prop :=
  ∃ r : Int, e = .returned (.int .i64 r) ∧ Below w.heap.size w w' ∧ (r = -1 ∨ 0 ≤ r ∧ r + (X.length : Int) + (psum (X.map Am.put) X.length : Int) ≤ q)
set_option maxHeartbeats 1600000 in
theorem szAmendS_any {w : World} {A : Option Addr} {n c : Nat} {q : Int} {X : List Am} (hl : Hid (X.length = n)) (hn : n ≤ 9223372036854775807) (h0 : 0 ≤ q) (hq : q ≤ 1000000000000000) (hr : RdA w w.heap.size A X) :
    Calls Try.prog 49 #[.slice A n c, .int .i64 q] w (SzA q X w) := by
  by_cases h : q - (n : Int) < 0
  · clear hr
    go_enter Try.func49, Try.ntmps49
    go_wp2_with fail
    go_ret
    exact ⟨-1, rfl, Below.refl _ _, .inl rfl⟩
  · have h' : (n : Int) ≤ q := by omega
    clear h
    go_enter Try.func49, Try.ntmps49
    go_wp2_with fail
    go_loopw [1, 5] (fun m i wr => ∃ (k : Nat) (r : Int), k ≤ n ∧ i = .int .i64 k ∧ m = .int .i64 r ∧ 0 ≤ r ∧ Below w.heap.size w wr ∧ Hid (r + (n : Int) + (psum (X.map Am.put) k : Int) = q) ∧ r ≤ q) (fun _ i _ => n - (intOf i).toNat)
    case atStart => exact ⟨0, _, Nat.zero_le _, rfl, rfl, by omega, Below.refl _ _, Lib.hid (by rw [psum_zero]; omega), by omega⟩
    case round =>
      obtain ⟨k, r, hk, rfl, rfl, hr0, hb, HQ, hrb⟩ := hrel
      by_cases hlt : k < n
      · have hkz : k < X.length := by rw [hl.out]; exact hlt
        obtain ⟨ad, p, rfl, hp, hab, Aj, cj, c0, c1, c2, hcl, hcm, hrd⟩ := ((hr.below hb).more hb.size).at_ hkz
        have hps := Lib.hid (Am_mets_get hkz)
        have hxl : X[k].put.length ≤ 9223372036854775807 := by unfold maxLen at hcm; omega
        obtain ⟨x, hx⟩ : ∃ x, x = X[k] := ⟨_, rfl⟩
        rw [← hx] at c0 c1 c2 hps hxl
        have i0 : (0 : Int) ≤ (k : Int) := by omega
        have i1 : (k : Int) < (n : Int) := by omega
        clear hx hrd hcl hcm
        go_wp2_with fail
        refine (szAmend_any hxl hr0 (by omega)).mono ?_
        rintro e w1 ⟨rfl, hb1⟩
        have hb2 := hb.trans (hb1.mono hb.size)
        by_cases hneg : r - (x.put.length : Int) < 0
        · rw [show szd r x.put.length = -1 from if_pos hneg]
          clear hneg
          go_wp2_with fail
          go_ret
          exact ⟨-1, rfl, hb2, .inl rfl⟩
        · rw [show szd r x.put.length = r - (x.put.length : Int) from if_neg hneg]
          obtain ⟨r2, hr2⟩ : ∃ r2, r - (x.put.length : Int) = r2 := ⟨_, rfl⟩
          have hr20 : 0 ≤ r2 := by omega
          have hr2b : r2 ≤ q := by omega
          have HR := Lib.hid hr2
          rw [hr2]
          clear hneg hr2
          go_wp2_with fail
          go_roundw
          case rel => exact ⟨k + 1, r2, by omega, by go_num, rfl, hr20, hb2, Lib.hid (by have := HQ.out; have := HR.out; rw [hps.out]; omega), hr2b⟩
          case measure => simp [intOf]; omega
      · have e : k = n := by omega
        subst e
        go_wp2_with fail
        go_ret
        exact ⟨r, rfl, hb, .inr ⟨hr0, by have := HQ.out; rw [hl.out]; omega⟩⟩
set_option maxHeartbeats 4000000 in
theorem eqAmendS_same {w : World} {A A' : Option Addr} {n c c' : Nat} {X : List Am} (hl : Hid (X.length = n)) (hn : n ≤ 1099511627776) (hs : Hid (∀ x ∈ X, x.put.length ≤ 1099511627776))
    (hr : RdA w w.heap.size A X) (hr' : RdA w w.heap.size A' X) :
    Calls Try.prog 52 #[.slice A n c, .slice A' n c'] w (Tells true w) := by
  go_enter Try.func52, Try.ntmps52
  go_wp2_with fail
  go_loopw [5] (fun i wr => ∃ k : Nat, k ≤ n ∧ i = .int .i64 k ∧ Below w.heap.size w wr) (fun i _ => n - (intOf i).toNat)
  case atStart => exact ⟨0, Nat.zero_le _, rfl, Below.refl _ _⟩
  case round =>
    obtain ⟨k, hk, rfl, hb⟩ := hrel
    by_cases hlt : k < n
    · have hkz : k < X.length := by rw [hl.out]; exact hlt
      obtain ⟨ad, p, rfl, hp, hab, Aj, cj, c0, c1, c2, _, _, hrd⟩ := ((hr.below hb).more hb.size).at_ hkz
      obtain ⟨ad', p', rfl, hp', hab', Aj', cj', d0, d1, d2, _, _, hrd'⟩ := ((hr'.below hb).more hb.size).at_ hkz
      have hxl := hs.out X[k] (List.getElem_mem _)
      obtain ⟨x, hx⟩ : ∃ x, x = X[k] := ⟨_, rfl⟩
      rw [← hx] at c0 c1 c2 d0 d1 d2 hrd hrd' hxl
      have i0 : (0 : Int) ≤ (k : Int) := by omega
      have i1 : (k : Int) < (n : Int) := by omega
      have KE := fun (u : World) (q : Below wr.heap.size wr u) => show Below wr.heap.size wr u ∧ u.cell? p = some (.int .i64 x.loc) ∧ u.cell? ⟨p.block, p.off + 1, none⟩ = some (.int .i64 x.drp) ∧ u.cell? ⟨p.block, p.off + 2, none⟩ = some (.slice Aj x.put.length cj) ∧ u.cell? p' = some (.int .i64 x.loc) ∧ u.cell? ⟨p'.block, p'.off + 1, none⟩ = some (.int .i64 x.drp) ∧ u.cell? ⟨p'.block, p'.off + 2, none⟩ = some (.slice Aj' x.put.length cj') from ⟨q, (q.cell (p := p) hab).trans c0, (q.cell (p := ⟨p.block, p.off + 1, none⟩) hab).trans c1, (q.cell (p := ⟨p.block, p.off + 2, none⟩) hab).trans c2, (q.cell (p := p') hab').trans d0, (q.cell (p := ⟨p'.block, p'.off + 1, none⟩) hab').trans d1, (q.cell (p := ⟨p'.block, p'.off + 2, none⟩) hab').trans d2⟩
      clear hx
      go_wp2_with fail
      refine wp_region_quiet (C := fun u => Below wr.heap.size wr u ∧ u.cell? p = some (.int .i64 x.loc) ∧ u.cell? ⟨p.block, p.off + 1, none⟩ = some (.int .i64 x.drp) ∧ u.cell? ⟨p.block, p.off + 2, none⟩ = some (.slice Aj x.put.length cj) ∧ u.cell? p' = some (.int .i64 x.loc) ∧ u.cell? ⟨p'.block, p'.off + 1, none⟩ = some (.int .i64 x.drp) ∧ u.cell? ⟨p'.block, p'.off + 2, none⟩ = some (.slice Aj' x.put.length cj')) (by kernel_rfl) (by kernel_rfl) (KE _ (Below.refl _ _).drew) ?_
      rw [List.toList_toArray]
      go_big_quiet_want
      go_big_quiet_op
      go_big_quiet_on
      go_big_quiet_want
      go_big_quiet_op
      go_big_quiet_on
      go_big_quiet_want
      apply Exists.intro
      refine ⟨fun u hu => ?_, ?_⟩
      · obtain ⟨hu0, hu1, hu2, hu3, hu4, hu5, hu6⟩ := hu
        unfold Oper.quietAt
        go_simp
        try rfl
      simp only [Act.put, List.setIfInBounds_toArray, List.set_cons_zero, List.set_cons_succ]
      go_big_quiet_on
      go_big_quiet_want
      apply Exists.intro
      refine ⟨fun u hu => ?_, ?_⟩
      · obtain ⟨hu0, hu1, hu2, hu3, hu4, hu5, hu6⟩ := hu
        unfold Oper.quietAt
        go_simp
        try rfl
      simp only [Act.put, List.setIfInBounds_toArray, List.set_cons_zero, List.set_cons_succ]
      go_big_quiet_on
      go_big_quiet_want
      go_big_quiet_op
      go_big_quiet_on
      go_big_quiet_want
      go_big_quiet_op
      go_big_quiet_on
      go_big_quiet_want
      apply Exists.intro
      refine ⟨fun u hu => ?_, ?_⟩
      · obtain ⟨hu0, hu1, hu2, hu3, hu4, hu5, hu6⟩ := hu
        unfold Oper.quietAt
        go_simp
        try rfl
      simp only [Act.put, List.setIfInBounds_toArray, List.set_cons_zero, List.set_cons_succ]
      go_big_quiet_on
      go_big_quiet_want
      apply Exists.intro
      refine ⟨fun u hu => ?_, ?_⟩
      · obtain ⟨hu0, hu1, hu2, hu3, hu4, hu5, hu6⟩ := hu
        unfold Oper.quietAt
        go_simp
        try rfl
      simp only [Act.put, List.setIfInBounds_toArray, List.set_cons_zero, List.set_cons_succ]
      go_big_quiet_on
      go_big_quiet_want
      refine ⟨.bool true, fun u hu => ?_, ?_⟩
      · obtain ⟨hu0, hu1, hu2, hu3, hu4, hu5, hu6⟩ := hu
        unfold Oper.quietAt
        go_simp
        refine (eqAmend_same hxl ((hrd.below hu0).more hu0.size) ((hrd'.below hu0).more hu0.size)).mono ?_
        rintro e u9 ⟨he, hb9⟩
        exact ⟨he, KE _ (trans_new hu0 hb9)⟩
      simp only [Act.put, List.setIfInBounds_toArray, List.set_cons_zero, List.set_cons_succ]
      go_big_quiet_on
      go_big_quiet_want
      apply Exists.intro
      refine ⟨fun u hu => ?_, ?_⟩
      · obtain ⟨hu0, hu1, hu2, hu3, hu4, hu5, hu6⟩ := hu
        unfold Oper.quietAt
        go_simp
        try rfl
      simp only [Act.put, List.setIfInBounds_toArray, List.set_cons_zero, List.set_cons_succ]
      go_big_quiet_on
      refine wpQuiet_nil ?_
      rintro u ⟨r, _⟩
      go_wp2_with fail
      go_roundw
      case rel => exact ⟨k + 1, by omega, by go_num, hb.trans (r.mono hb.size)⟩
      case measure => simp [intOf]; omega
    · have e : k = n := by omega
      subst e
      go_wp2_with fail
      go_ret
      exact ⟨rfl, hb⟩
def FreshA (X : List Am) (w : World) (e : Ending) (w' : World) : Prop :=
  ∃ v, e = .returned v ∧ OwnA w' w.heap.size w'.heap.size v X ∧ Below w.heap.size w w'
set_option maxHeartbeats 4000000 in
theorem toAmendS_any {w : World} {A : Option Addr} {n c : Nat} {X : List Am} (hl : Hid (X.length = n)) (hn : n ≤ 1099511627776) (hs : Hid (∀ x ∈ X, x.put.length ≤ 1099511627776)) (hr : RdA w w.heap.size A X) :
    Calls Try.prog 51 #[.slice A n c] w (FreshA X w) := by
  obtain ⟨i0, hi, hz0, hz1, hz2⟩ := info_parts Amend_info
  go_enter Try.func51, Try.ntmps51
  go_wp2_with (first | (at_make; refine wpList_make_full _ rfl _ _ 38 rfl w.heap.size 26 i0 _ 3 Try.underlying38 hi hz0 hz1 _ _ _ _ n rfl rfl rfl rfl (by rw [hz2]; omega) (by unfold maxLen; omega) (Nat.le_refl _) ?_; intro w1 hown1 hg1))
  have hb1 : Below w.heap.size w w1 := (Below.refl _ _).grown hg1 (Nat.le_refl _) (by simp)
  have hsz := (hown1.lt w.heap.size rfl).2
  have hown2 : w1.ownsRow w.heap.size 26 3 (.slice (some ⟨w.heap.size, 0, none⟩) n n) n (List.replicate n [.int .i64 0, .int .i64 0, .slice none 0 0]).flatten := by
    have e1 := madeCells_flat [.int .i64 0, .int .i64 0, .slice none 0 0] (by simp) n
    rw [← e1]; exact hown1
  have hss : OwnA w1 w.heap.size w1.heap.size (.slice (some ⟨w.heap.size, 0, none⟩) n n) (List.replicate n ⟨0, 0, []⟩) :=
    ⟨[w.heap.size], RowsR.madeK rfl hown2 ⟨_, rfl, ⟨_, rfl, by simpa using World.ownsRow_nil w1 0 3 1, rfl⟩⟩, by simp, by simp; omega⟩
  have HO := Lib.hid hss
  clear hown1 hown2 hss
  go_loopw [4] (fun i wr => ∃ k : Nat, k ≤ n ∧ i = .int .i64 k ∧ Below w.heap.size w wr ∧ w.heap.size < wr.heap.size ∧ OwnA wr w.heap.size wr.heap.size (.slice (some ⟨w.heap.size, 0, none⟩) n n) (X.take k ++ (List.replicate n ⟨0, 0, []⟩).drop k)) (fun i _ => n - (intOf i).toNat)
  case atStart => exact ⟨0, Nat.zero_le _, rfl, hb1, hsz, by simpa using HO.out⟩
  case round =>
    obtain ⟨k, hk, rfl, hb, hsz2, hown⟩ := hrel
    have hrl : (List.replicate n (⟨0, 0, []⟩ : Am)).length = X.length := by rw [List.length_replicate, hl.out]
    have hml : (X.take k ++ (List.replicate n (⟨0, 0, []⟩ : Am)).drop k).length = n := by rw [mix_len _ _ _ hrl, hl.out]
    have HR := Lib.hid hrl
    have HM := Lib.hid hml
    clear hrl hml
    by_cases hlt : k < n
    · have hkz : k < X.length := by rw [hl.out]; exact hlt
      obtain ⟨ad, p, rfl, hp, hab, Aj, cj, c0, c1, c2, _, _, hrd⟩ := ((hr.below hb).more hb.size).at_ hkz
      have hm := Lib.hid (set_mixG X (List.replicate n ⟨0, 0, []⟩) k X[k] hkz HR.out (List.getElem?_eq_getElem hkz))
      have hxl := hs.out X[k] (List.getElem_mem _)
      obtain ⟨x, hx⟩ : ∃ x, x = X[k] := ⟨_, rfl⟩
      rw [← hx] at c0 c1 c2 hrd hxl hm
      have hs1 := hb.size
      obtain ⟨L, hL⟩ : ∃ L, L = X.take k ++ (List.replicate n (⟨0, 0, []⟩ : Am)).drop k := ⟨_, rfl⟩
      rw [← hL] at hown hm HM
      obtain rfl : L.length = n := HM.out
      have i0 : (0 : Int) ≤ (k : Int) := by omega
      have i1 : (k : Int) < (L.length : Int) := by omega
      have HOW := Lib.hid hown
      clear hx hL HO hown
      go_wp2_with fail
      refine (toAmend_any hxl hrd).mono ?_
      rintro e w2 ⟨A9, c9, rfl, hrow, hb2⟩
      have hown2 := HOW.out.new hb2
      have hcs := hown2.rd'.at_ hlt
      obtain ⟨ag, pg, eg, hpg, hgb, Ag, cg, g0, g1, g2, _, _, _⟩ := hcs
      injection eg with eg
      subst eg
      have hpe : pg = ⟨w.heap.size, k * 3, none⟩ := by rw [← hpg]; unfold Addr.add; split <;> simp_all
      subst hpe
      obtain ⟨g9, cap9, e9, _, _, _, _, _, hfz⟩ := hown2.base rfl (by omega)
      have e9' : g9 = w.heap.size := by injection e9 with e9; injection e9 with e9; injection e9 with e9; exact e9.symm
      subst e9'
      have f0 := hfz (k * 3)
      have f1 := hfz (k * 3 + 1)
      have f2 := hfz (k * 3 + 2)
      have hq := hown2.putAll (y := x) (i := k) rfl hlt hrow (by omega) (Nat.le_refl _) hb2.size (by omega)
      rw [hm.out] at hq
      have hb3 : Below w.heap.size w (((w2.setCell ⟨w.heap.size, k * 3, none⟩ (.int .i64 x.loc)).setCell ⟨w.heap.size, k * 3 + 1, none⟩ (.int .i64 x.drp)).setCell ⟨w.heap.size, k * 3 + 2, none⟩ (.slice A9 x.put.length c9)) := by
        iterate 3 refine Below.setCell ?_ (by exact Nat.le_refl _) _
        exact hb.trans (hb2.mono hs1)
      have HB := Lib.hid (And.intro hq hb3)
      have hz2 := hb2.size
      clear hown2 hq hb3 hrow hrd hpg e9
      go_wp2_with fail
      go_roundw
      case rel => exact ⟨k + 1, by omega, by go_num, HB.out.2, by simp; omega, by simpa using HB.out.1⟩
      case measure => simp [intOf]; omega
    · have e : k = n := by omega
      subst e
      have H5 := Lib.hid hown
      clear hown
      go_wp2_with fail
      go_ret
      have ho := H5.out
      rw [List.take_of_length_le (by rw [hl.out]; omega), List.drop_eq_nil_of_le (by simp), List.append_nil] at ho
      exact ⟨.slice (some ⟨w.heap.size, 0, none⟩) k k, rfl, ho, hb⟩
end Go.Proofs.Yteffhbboeacogaa
