/- Contract of slices.Clone. Condition: the slice has at most 2^40 elements. -/
import Derived.Test.YtobghogkflgpeaaDoorMg1
import Derived.Lib.SliceRun
import Derived.Test.YtobghogkflgpeaaDoorCopyM
import Derived.Test.YtobghogkflgpeaaDoorMg5
namespace Go.Proofs.YtobghogkflgpeaaDoor
open Go.ChangeShapes Go.WideShapes Go.ChangeAt Go.RowKit
set_option maxRecDepth 100000
theorem clone_any {w : World} {A : Option Addr} {n c : Nat} {xs : List Int} (hl : Hid (xs.length = n)) (hn : n ≤ 1099511627776) (hr : Rd w w.heap.size A (ivs xs)) :
    Calls Tryd.prog 50 #[.slice A n c] w (Fresh 3 (ivs xs) w) := by
  obtain ⟨i0, hi, hz0, hz1, hz2⟩ := info_parts IntS_info
  have q22 : ∀ (w : World) (a : Option Addr) (n c n' c' : Nat), (binOp .eql 27 (.slice a n c) (.slice none n' c')).run Tryd.prog w = .ok (.bool a.isNone) w := fun w a n c n' c' => Lib.run_eql_slice_nil w _ _ a n c n' c' Tryd.underlying27
  cases A with
  | none =>
    have hx : xs = [] := by
      cases xs with
      | nil => rfl
      | cons x xs =>
        obtain ⟨ad, e, _⟩ := ivs_at hr (k := 0) (by simp)
        cases e
    subst hx
    go_enter Tryd.func50, Tryd.ntmps50
    go_wp2
    go_ret
    exact ⟨_, rfl, Row.nil, Below.refl _ _⟩
  | some ad =>
    have hrow0 := Row.made (w := w) w.heap.size #[] 0 3 (Nat.le_refl _) rfl (Nat.zero_le _)
    have hb0 : Below w.heap.size w (w.alloc (Obj.cells #[] 3)) := (Below.refl _ _).alloc (Nat.le_refl _) _
    have hr1 := hr.below hb0
    have L : ([] : List Value).length + n ≤ maxLen ∧ (([] : List Value).length + n) * 8 ≤ 140737488355328 := by unfold maxLen; simp; omega
    have L1 := Lib.hid L
    have HLn := Lib.hid (show (ivs xs).length = n by rw [ivs_len, hl.out])
    clear L
    go_enter Tryd.func50, Tryd.ntmps50
    go_wp2_with (at_builtin; refine wpList_app rfl (.tmp 5) (.tmp 6) 27 rfl 3 i0 _ 8 Tryd.underlying27 hi hz0 hz1 hz2 rfl rfl rfl hrow0 HLn.out hr1 int_one L1.out.1 L1.out.2 (by simp) ?_; intro v1 w1 hrow1 ho1)
    go_ret
    exact ⟨v1, rfl, by simpa using hrow1, hb0.trans (ho1.below (Nat.le_refl _) (by simp))⟩
end Go.Proofs.YtobghogkflgpeaaDoor

/- Contract of the code's copyOfGraph. Condition: the slices have at most 2^40 elements. -/
namespace Go.Proofs.YtobghogkflgpeaaDoor
open Go.ChangeShapes Go.WideShapes Go.ChangeAt Go.RowKit
set_option maxRecDepth 100000
theorem rdD {w : World} {A : Option Addr} {xs : List Value} (h : Rd w w.heap.size A xs) : Rd w.drew w.drew.heap.size A xs := h
set_option maxHeartbeats 4000000 in
theorem impCopy_any {w : World} {A : Option Addr} {n c : Nat} {N : Int} {X : List (List Int)} (hl : Hid (X.length = n)) (hn : n ≤ 1099511627776) (hs : Hid (∀ x ∈ X, x.length ≤ 1099511627776)) (hr : RdSS w w.heap.size A X) :
    Calls Tryd.prog 22 #[.agg #[.int .i64 N, .slice A n c]] w (FreshG N X w) := by
  obtain ⟨i0, hi, hz0, hz1, hz2⟩ := info_parts IntS_info
  obtain ⟨W1, hW, bx1, bx2, bx3, hb1, hs1⟩ := three_graphs w #[Value.int IntKind.i64 N, Value.slice A n c] #[Value.int IntKind.i64 0, Value.slice none 0 0] #[Value.int IntKind.i64 N, Value.slice none 0 0] 26
  have hr1 := hr.below hb1
  have HW := Lib.hid hW.symm
  clear hW hr
  go_enter Tryd.func22, Tryd.ntmps22
  go_wp2_with fail
  rw [HW.out]
  go_loopw [12] (fun i wr => ∃ (k : Nat) (v : Value), k ≤ n ∧ i = .int .i64 k ∧ Bx wr (w.heap.size + 2) 26 #[Value.int IntKind.i64 N, v] ∧ OwnSS wr (w.heap.size + 3) wr.heap.size v (X.take k) ∧ Below (w.heap.size + 2) W1 wr) (fun i _ => n - (intOf i).toNat)
  case atStart => exact ⟨0, _, Nat.zero_le _, rfl, bx3, OwnSS.nil, Below.refl _ _⟩
  case round =>
    obtain ⟨k, v, hk, rfl, bxv, hov, hbw⟩ := hrel
    have hsz := hbw.size
    have bxa : Bx wr w.heap.size 26 #[Value.int IntKind.i64 N, Value.slice A n c] := (hbw.block _ (by omega)).trans bx1
    have bxb : Bx wr (w.heap.size + 1) 26 #[Value.int IntKind.i64 0, Value.slice none 0 0] := (hbw.block _ (by omega)).trans bx2
    obtain ⟨C0, C1⟩ := bxa.two
    obtain ⟨D0, D1⟩ := bxv.two
    have hrk := hr1.below (hbw.mono (by omega))
    by_cases hlt : k < n
    · have hkz : k < X.length := by rw [hl.out]; exact hlt
      obtain ⟨ad, Aj, cj, rfl, hab, hc, _, _, hrd⟩ := hrk.at_ hkz
      have hxl := hs.out X[k] (List.getElem_mem _)
      have HT := Lib.hid (List.take_succ_eq_append_getElem hkz)
      obtain ⟨x, hx⟩ : ∃ x, x = X[k] := ⟨_, rfl⟩
      obtain ⟨Y, hY⟩ : ∃ Y, Y = X.take k := ⟨_, rfl⟩
      have hYl : Y.length ≤ k := by rw [hY]; simp; omega
      rw [← hx] at hc hrd hxl HT
      rw [← hY] at hov HT
      have i0' : (0 : Int) ≤ (k : Int) := by omega
      have hlc : (ad.add k).block < w.heap.size + 2 := by rw [add_blk]; omega
      have HB := Lib.hid bxv
      have HO := Lib.hid hov
      have HR := Lib.hid hrd
      clear hx hY
      go_wp2_with fail
      have HK := Lib.hid (show wr.cell? ⟨w.heap.size, 1, none⟩ = some (.slice (some ad) n c) ∧ wr.cell? (ad.add k) = some (.slice Aj x.length cj) ∧ Below (w.heap.size + 2) wr wr from ⟨C1, hc, Below.refl _ _⟩)
      have hl2 : (⟨w.heap.size, 1, none⟩ : Addr).block < w.heap.size + 2 := by show w.heap.size < _; omega
      have hL : w.heap.size + 3 ≤ wr.heap.size := by omega
      have HL2 := Lib.hid (show w.heap.size + 2 ≤ wr.heap.size by omega)
      have hrd1 := HR.out.more (show w.heap.size ≤ wr.heap.size by omega)
      have HR1 := Lib.hid hrd1
      have HL3 := Lib.hid hL
      clear hov bxv hrd bxa hrd1 D0 C0 bxb hrk
      go_region_law (first
          | (refine step_appSS (X := Y) (x := x) (u := .slice A9 x.length c9) (v := v) (L := w.heap.size + 3) (M := wr.heap.size) (lo := wr.heap.size) (hi := w1.heap.size) (c := 1) (ad := ⟨w1.heap.size, 0, none⟩) rfl (.tmp 17) (.tmp 20) rfl (by simp [Act.eval]) (by simp [Act.eval]) (by first | exact (HO.out.below hbw1 (Nat.le_refl _)).new ((Below.refl _ _).alloc (Nat.le_refl _) _) | exact (HO.out.below hbw1 (Nat.le_refl _)).new ((Below.refl _ _).alloc (Nat.le_refl _) _).drew) (by first | exact hrow1.new ((Below.refl _ _).alloc (Nat.le_refl _) _) | exact hrow1.new ((Below.refl _ _).alloc (Nat.le_refl _) _).drew) (by exact Rd.made w1 #[.slice A9 x.length c9] _) (Nat.le_refl _) HL3.out (by omega) (by have := hbw1.size; have := HL3.out; simp; omega) ?_; intro v2 w2 hown2 hbw2; obtain ⟨A8, c8, rfl, _, _, _⟩ := hown2.rd (n := Y.length + 1) (by simp); have hb9 : Below (w.heap.size + 3) wr w2 := ((hbw1.mono HL3.out).trans (by first | exact ((Below.refl _ _).alloc (Nat.le_trans HL3.out hbw1.size) _) | exact ((Below.refl _ _).alloc (Nat.le_trans HL3.out hbw1.size) _).drew)).trans hbw2; have hk2 := h2_to HK.out hl2 hlc (hb9.mono (Nat.le_succ _)); have bx9 : Bx w2 (w.heap.size + 2) 26 #[Value.int IntKind.i64 N, v] := (hb9.block _ (Nat.lt_succ_self _)).trans HB.out; have c2 := bx9.two.2; have f2 := bx9.free 1)
          | (go_simp; go_at_call 50; refine (clone_any (xs := x) (Lib.hid rfl) (by omega) (by first | with_reducible exact rdD HR1.out | with_reducible exact HR1.out)).mono ?_; rintro e w1 ⟨v1, rfl, hrow1, hb1⟩; obtain ⟨A9, c9, rfl, _, _, _⟩ := hrow1.rd (n := x.length) (by simp [ivs]); have hbw1 : Below wr.heap.size wr w1 := (by first | exact (Below.refl wr.heap.size wr).drew.trans hb1 | exact hb1); have hk1 := h2_to HK.out hl2 hlc (hbw1.mono HL2.out); have D1b := cell_below D1 (hbw1.mono HL3.out) (Nat.lt_succ_self _); have D1c : (w1.alloc (Obj.cells #[.slice A9 x.length c9] 27)).cell? ⟨w.heap.size + 2, 1, none⟩ = some v := cell_below D1b ((Below.refl _ _).alloc (Nat.le_trans HL3.out hbw1.size) _) (Nat.lt_succ_self _)))
      all_goals
        go_wp2
        go_roundw
        case rel => exact ⟨k + 1, .slice A8 (Y.length + 1) c8, by omega, by go_num, bx9.set 1 _, by rw [HT.out]; exact (hown2.setFar (.inl (Nat.lt_succ_self _)) _).wide (Nat.le_refl _) (by simp), hbw.trans ((hb9.mono (Nat.le_succ _)).setCell (Nat.le_refl _) _)⟩
        case measure => simp [intOf]; omega
    · have e : k = n := by omega
      subst e
      rw [List.take_of_length_le (by rw [hl.out]; exact Nat.le_refl _)] at hov
      have HO := Lib.hid hov
      have hv1 := hov.one
      clear hov
      go_wp2_with (first | (refine ldGR rfl (.tmp 3) rfl bxv rfl rfl ?_) | (refine stGR rfl (.tmp 2) (.tmp 24) rfl bxb rfl hv1 rfl rfl ?_))
      refine bodyPost_ret (resGR rfl (bxb.setRow _) rfl rfl) rfl ⟨v, rfl, ?_, ?_⟩
      · exact (HO.out.out (setRow_out wr _ _ (Nat.le_refl _) (Nat.lt_succ_self _)) (.inr (by omega))).wide (by omega) (by simp [World.setRow])
      · exact (hb1.trans (hbw.mono (by omega))).trans ((setRow_out wr _ _ (Nat.le_refl _) (Nat.lt_succ_self _)).below (by omega) (by omega))
end Go.Proofs.YtobghogkflgpeaaDoor

/- Contract of the code's (attackRows).graph. Conditions: at most 10 claims, rows below 2^16. -/
namespace Go.Proofs.YtobghogkflgpeaaDoor
open Go.ChangeShapes Go.WideShapes Go.ChangeAt Go.RowKit
set_option maxRecDepth 100000
section
variable {w : World} {ops : Array Oper} {rest : List Oper} {o : Oper} {a : Act} {Q : Exit → Act → World → Prop}
theorem run_appSS2 (ty : TypeId) {L M lo hi B c : Nat} {v u : Value} {X : List (List Int)} {x : List Int} {ad : Addr} (h : OwnSS w L M v X) (hx : Row w lo hi 3 u (ivs x)) (hr : Rd w B (some ad) [u]) (hd : M ≤ lo) (hLM : L ≤ M) (hn : X.length + 1 ≤ 1099511627777) (hL : L ≤ w.heap.size) :
    ∃ v' w', (Builtin.append_ #[24, 24] ty #[v, .slice (some ad) 1 c]).run Tryd.prog w = .ok v' w' ∧ OwnSS w' L w'.heap.size v' (X ++ [x]) ∧ Below L w w' ∧
      (∀ b, b < w.heap.size → v.ownBlock ≠ some b → w'.heap[b]? = w.heap[b]?) ∧ ∀ b, v'.ownBlock = some b → v.ownBlock = some b ∨ b = w.heap.size := by
  obtain ⟨v', w', hrun, h2, h3⟩ := run_appSS ty (c := c) h hx hr hd hLM hn hL
  obtain ⟨F, ⟨v0, es, a1, a2, a3, _⟩, _, _⟩ := h
  have hvv : v = v0 := by simpa using a1
  subst hvv
  obtain ⟨i0, hi0, hz0, hz1, hz2⟩ := info_parts IntSS_info
  have hcells : ∀ (j : Nat) u', ([u] : List Value)[j]? = some u' → w.cell? (ad.add j) = some u' := fun j u' hu => by
    obtain ⟨ad', e1, _, hc⟩ := hr j u' hu
    injection e1 with e1
    subst e1
    exact hc
  obtain ⟨v2, w2, hrun2, _, b2, _, b4⟩ := run_append_own_at (P := Tryd.prog) w 0 24 ty 27 i0 _ 1 24 Tryd.underlying24 hi0 hz0 hz1 hz2 rfl (by omega) v X.length _ a3 ad 1 c [u] (by simp) hcells (by simp [row_cell hx]) (by unfold maxLen; omega) (by omega) (Nat.zero_le _)
  rw [hrun] at hrun2
  injection hrun2 with e1 e2
  subst e1
  subst e2
  refine ⟨v', w', hrun, h2, h3, fun b hb hv => b2.block b hb (fun e => hv e.symm), fun b hb => ?_⟩
  rcases b4 with b4 | b4
  · exact .inl (b4 ▸ hb)
  · rw [b4] at hb
    injection hb with hb
    exact .inr hb.symm
theorem wpList_appSS2 (hgd : o.guard = none) (s y : Operand) (ho : o.op = .call { callee := .builtin .append, args := #[s, y], argTypes := #[24, 24] })
    {L M lo hi B c : Nat} {v u : Value} {X : List (List Int)} {x : List Int} {ad : Addr} (hs : a.eval s = v) (hy : a.eval y = .slice (some ad) 1 c) (h : OwnSS w L M v X) (hx : Row w lo hi 3 u (ivs x)) (hr : Rd w B (some ad) [u]) (hd : M ≤ lo) (hLM : L ≤ M) (hn : X.length + 1 ≤ 1099511627777) (hL : L ≤ w.heap.size)
    (K : ∀ v' w', OwnSS w' L w'.heap.size v' (X ++ [x]) → Below L w w' → (∀ b, b < w.heap.size → v.ownBlock ≠ some b → w'.heap[b]? = w.heap[b]?) → (∀ b, v'.ownBlock = some b → v.ownBlock = some b ∨ b = w.heap.size) → wpList Tryd.prog ops Q rest (a.put o.dst v') w') : wpList Tryd.prog ops Q (o :: rest) a w := by
  obtain ⟨v', w', hrun, h2, h3, h4, h5⟩ := run_appSS2 o.type (c := c) h hx hr hd hLM hn hL
  refine wpList_plain hgd fun K' hK' => ?_
  unfold Oper.wp
  simp [execOp, ho, resolve, invoke, builtin, hs, hy, hrun, Result.andThen]
  exact hK' _ _ (K v' w' h2 h3 h4 h5)
end
def rowL (f : Nat → Nat) (k : Nat) : List (List Int) := (lsT (f k) 10).map fun b => [(k : Int), b]
/-- The pairs of rows, in order. -/
def glK (f : Nat → Nat) (k : Nat) : List (List Int) := (List.range k).flatMap (rowL f)
theorem glK_succ (f : Nat → Nat) (k : Nat) : glK f (k + 1) = glK f k ++ rowL f k := by simp [glK, List.range_succ, List.flatMap_append]
theorem glK_len (f : Nat → Nat) (k : Nat) : (glK f k).length ≤ 10 * k := by
  induction k with
  | zero => simp [glK]
  | succ k ih =>
    rw [glK_succ, List.length_append, rowL, List.length_map]
    have := lsT_len (f k) 10
    omega
set_option maxHeartbeats 8000000 in
theorem impGraph_any {w : World} {n : Nat} {f : Nat → Nat} (hn : n ≤ 10) (hf : ∀ a, f a < 65536) :
    Calls Tryd.prog 25 #[.agg (arC n f)] w (FreshG n (glK f n) w) := by
  have a1 := (Bx.made w 49 (arC n f)).new ((Below.refl _ _).alloc (Nat.le_refl _) (Obj.cells #[Value.int .i64 0, .slice none 0 0] 26))
  have a2 := Bx.made (w.alloc (Obj.cells (arC n f) 49)) 26 #[Value.int .i64 0, .slice none 0 0]
  have hb2 : Below w.heap.size w ((w.alloc (Obj.cells (arC n f) 49)).alloc (Obj.cells #[Value.int .i64 0, .slice none 0 0] 26)) := ((Below.refl _ _).alloc (Nat.le_refl _) _).alloc (by simp) _
  obtain ⟨W2, hW2⟩ : ∃ u : World, u = (w.alloc (Obj.cells (arC n f) 49)).alloc (Obj.cells #[Value.int .i64 0, .slice none 0 0] 26) := ⟨_, rfl⟩
  have hs2 : W2.heap.size = w.heap.size + 2 := by rw [hW2]; simp
  rw [← hW2] at a1 a2 hb2
  rw [show (w.alloc (Obj.cells (arC n f) 49)).heap.size = w.heap.size + 1 by simp] at a2
  have k3 := (Below.refl W2.heap.size W2).alloc (Nat.le_refl _) (Obj.cells #[Value.int .i64 n, .slice none 0 0] 26)
  have b1 := a1.new k3
  have b2 := a2.new k3
  have b3 := Bx.made W2 26 #[Value.int .i64 n, .slice none 0 0]
  have hb3 := hb2.trans (k3.mono hb2.size)
  obtain ⟨W3, hW3⟩ : ∃ u : World, u = W2.alloc (Obj.cells #[Value.int .i64 n, .slice none 0 0] 26) := ⟨_, rfl⟩
  have hs3 : W3.heap.size = w.heap.size + 3 := by rw [hW3]; simp [hs2]
  rw [← hW3] at b1 b2 b3 hb3
  rw [hs2] at b3
  have hW2' := hW2.symm
  have hW3' := hW3.symm
  have C0 := a1.at_ (k := 0) (v := .int .i64 n) rfl
  have D0 : (W2.alloc (Obj.cells #[Value.int .i64 n, .slice none 0 0] 26)).cell? ⟨w.heap.size, 0, none⟩ = some (.int .i64 n) := by rw [hW3']; exact b1.at_ (k := 0) (v := .int .i64 n) rfl
  have HW3 := Lib.hid hW3'
  have HS2 := Lib.hid hs2
  clear hW2 hW3 hW3' k3 a1 a2 hb2 hs2
  go_enter Tryd.func25, Tryd.ntmps25
  go_wp2_with fail
  rw [HS2.out, HW3.out]
  clear hW2' C0 D0
  go_loopw [12] (fun i wr => ∃ (k : Nat) (v : Value), k ≤ n ∧ i = .int .i64 k ∧ Bx wr (w.heap.size + 2) 26 #[Value.int IntKind.i64 n, v] ∧ OwnSS wr (w.heap.size + 3) wr.heap.size v (glK f k) ∧ Below (w.heap.size + 2) W3 wr) (fun i _ => n - (intOf i).toNat)
  case atStart => exact ⟨0, _, Nat.zero_le _, rfl, b3, OwnSS.nil, Below.refl _ _⟩
  case round =>
    obtain ⟨k, v, hk, rfl, bxv, hov, hbw⟩ := hrel
    have hsz := hbw.size
    have bxa : Bx wr w.heap.size 49 (arC n f) := (hbw.block _ (by omega)).trans b1
    have bxb : Bx wr (w.heap.size + 1) 26 #[Value.int IntKind.i64 0, Value.slice none 0 0] := (hbw.block _ (by omega)).trans b2
    by_cases hlt : k < n
    · have ck := bxa.at_ (arC_at n f (a := k) (by omega))
      have hfk := hf k
      have i1 : (0 : Int) ≤ (k : Int) := by omega
      have i2 : (k : Int) < 10 := by omega
      have HO := Lib.hid hov
      have HB := Lib.hid bxv
      have HT := Lib.hid (glK_succ f k)
      have HGL := Lib.hid (glK_len f k)
      have HV : Hid (∀ b, wr.heap.size ≤ b → v.ownBlock ≠ some b) := Lib.hid (fun b hb e => by
        obtain ⟨F, ⟨v0, es, a1, a2, a3, a4, _⟩, _, hF⟩ := hov
        have hvv : v = v0 := by simpa using a1
        subst hvv
        have := (hF b (by rw [a4, e]; simp)).2
        omega)
      clear hov bxv bxa
      go_wp2_with fail
      refine (list_any hfk).mono ?_
      rintro e w4 ⟨l, rfl, hrow, hb4⟩
      have hr0 : rowL f k = (lsT (f k) 10).map fun b => [(k : Int), b] := rfl
      have HLL := Lib.hid (lsT_len (f k) 10)
      obtain ⟨zs, hzs⟩ : ∃ zs, zs = lsT (f k) 10 := ⟨_, rfl⟩
      rw [← hzs] at hrow hr0 HLL
      rw [hr0] at HT
      obtain ⟨Al, cl, rfl, _, _, _⟩ := hrow.rd (n := zs.length) (ivs_len zs)
      have HRW := Lib.hid hrow
      have hs4 := hb4.size
      have hbw4 := hbw.trans (hb4.mono (by omega))
      have hbx4 := HB.out.new hb4
      have hov4 := (HO.out.new hb4).wide (Nat.le_refl _) hs4
      clear hr0 hzs hrow ck hbw
      go_wp2_with fail
      obtain ⟨M, hM⟩ : ∃ M, M = wr.heap.size := ⟨_, rfl⟩
      rw [← hM] at hs4 hsz HV HRW
      clear hM
      go_loopw [21] (fun i wr => ∃ (j : Nat) (u : Value), j ≤ zs.length ∧ i = .int .i64 j ∧ Bx wr (w.heap.size + 2) 26 #[Value.int IntKind.i64 n, u] ∧ OwnSS wr (w.heap.size + 3) wr.heap.size u (glK f k ++ (zs.take j).map fun b => [(k : Int), b]) ∧ Hid (∀ b, M ≤ b → b < w4.heap.size → u.ownBlock ≠ some b) ∧ Row wr M w4.heap.size 3 (.slice Al zs.length cl) (ivs zs) ∧ Below (w.heap.size + 2) W3 wr ∧ w4.heap.size ≤ wr.heap.size) (fun i _ => zs.length - (intOf i).toNat)
      case atStart => exact ⟨0, v, Nat.zero_le _, rfl, hbx4, by simpa using hov4, Lib.hid (fun b hb _ => HV.out b hb), HRW.out, hbw4, Nat.le_refl _⟩
      case round =>
        obtain ⟨j, u, hj, rfl, bxq, hoq, hub, hrq, hbq, hsq⟩ := hrel
        clear hbx4 hov4 hbw4
        by_cases hjt : j < zs.length
        · obtain ⟨ad, rfl, _, hc⟩ := ivs_at hrq.rd' hjt
          have HJ := Lib.hid (List.take_succ_eq_append_getElem hjt)
          obtain ⟨z, hz⟩ : ∃ z, z = zs[j] := ⟨_, rfl⟩
          obtain ⟨Y, hY⟩ : ∃ Y, Y = glK f k ++ (zs.take j).map fun b => [(k : Int), b] := ⟨_, rfl⟩
          have hYl : Y.length ≤ 10 * k + 10 := by
            have h1 := HGL.out
            have h2 := HLL.out
            rw [hY, List.length_append, List.length_map, List.length_take]
            omega
          have HY : Hid (glK f k ++ (zs.take (j + 1)).map (fun b => [(k : Int), b]) = Y ++ [[(k : Int), z]]) := Lib.hid (by rw [HJ.out, List.map_append, ← List.append_assoc, ← hY, hz]; rfl)
          rw [← hz] at hc
          rw [← hY] at hoq
          clear hz hY HJ
          have j0 : (0 : Int) ≤ (j : Int) := by omega
          have hzl := HLL.out
          obtain ⟨D0, D1⟩ := bxq.two
          have hbl1 : Below wr.heap.size wr (wr.alloc (Obj.cells #[Value.int .i64 k, .int .i64 z] 3)) := (Below.refl _ _).alloc (Nat.le_refl _) _
          have hbl2 : Below wr.heap.size wr ((wr.alloc (Obj.cells #[Value.int .i64 k, .int .i64 z] 3)).alloc (Obj.cells #[Value.slice (some ⟨wr.heap.size, 0, none⟩) 2 2] 27)) := hbl1.alloc hbl1.size _
          have hown2 := hoq.new hbl2
          have hrow2 := (Row.made (w := wr) wr.heap.size #[Value.int .i64 k, .int .i64 z] 2 3 (Nat.le_refl _) rfl (by decide)).new ((Below.refl _ _).alloc (Nat.le_refl _) (Obj.cells #[Value.slice (some ⟨wr.heap.size, 0, none⟩) 2 2] 27))
          have hr2 := Rd.made (wr.alloc (Obj.cells #[Value.int .i64 k, .int .i64 z] 3)) #[Value.slice (some ⟨wr.heap.size, 0, none⟩) 2 2] 27
          rw [show (wr.alloc (Obj.cells #[Value.int .i64 k, .int .i64 z] 3)).heap.size = wr.heap.size + 1 by simp] at hr2
          have hbxb := bxq.new hbl2
          have D1a : (wr.alloc (Obj.cells #[Value.int .i64 k, .int .i64 z] 3)).cell? ⟨w.heap.size + 2, 1, none⟩ = some u := (bxq.new hbl1).two.2
          have HS := Lib.hid (show w.heap.size + 3 ≤ wr.heap.size by omega)
          have HBQ := Lib.hid hbl2
          obtain ⟨Wb, hWb⟩ : ∃ q : World, q = (wr.alloc (Obj.cells #[Value.int .i64 k, .int .i64 z] 3)).alloc (Obj.cells #[Value.slice (some ⟨wr.heap.size, 0, none⟩) 2 2] 27) := ⟨_, rfl⟩
          have hsb : Hid (Wb.heap.size = wr.heap.size + 2) := Lib.hid (by rw [hWb]; simp)
          rw [← hWb] at hown2 hrow2 hr2 hbxb HBQ
          have hWb' := hWb.symm
          clear hWb hbl1 hbl2
          go_wp2_with (at_builtin; refine wpList_appSS2 (X := Y) (x := [(k : Int), z]) (u := .slice (some ⟨wr.heap.size, 0, none⟩) 2 2) (v := u) (L := w.heap.size + 3) (M := wr.heap.size) (lo := wr.heap.size) (hi := wr.heap.size + 1) (c := 1) (ad := ⟨wr.heap.size + 1, 0, none⟩) rfl (.tmp 26) (.tmp 30) rfl rfl rfl hown2 hrow2 hr2 (Nat.le_refl _) HS.out (by omega) (Nat.le_trans HS.out HBQ.out.size) ?_; intro v2 w2 hown hbw2 hkp hblk; obtain ⟨A8, c8, rfl, _, _, _⟩ := hown.rd (n := Y.length + 1) (by simp); have bx9 : Bx w2 (w.heap.size + 2) 26 #[Value.int IntKind.i64 n, u] := (hbw2.block _ (Nat.lt_succ_self _)).trans hbxb; have c2 := bx9.two.2; have f2 := bx9.free 1)
          go_roundw
          case rel =>
            have h1 := HBQ.out.size
            have h2 := hbw2.size
            have h3 := hsb.out
            have hch : Below (w.heap.size + 2) wr w2 := (HBQ.out.mono (by omega)).trans (hbw2.mono (by omega))
            refine ⟨j + 1, .slice A8 (Y.length + 1) c8, by omega, by go_num, bx9.set 1 _, by rw [HY.out]; exact (hown.setFar (.inl (Nat.lt_succ_self _)) _).wide (Nat.le_refl _) (by simp), Lib.hid (fun b hb hb2 e => ?_), hrq.keep (fun b hb1 hb2 hb3 => ?_), hbq.trans (hch.setCell (Nat.le_refl _) _), by simp; omega⟩
            · rcases hblk b e with e | e
              · exact hub.out b hb hb2 e
              · omega
            · rw [heap_setCell_other w2 _ b _ (by show b ≠ w.heap.size + 2; omega), hkp b (by omega) (hub.out b hb1 hb2)]
              exact HBQ.out.block b hb3
          case measure => simp [intOf]; omega
        · have e : j = zs.length := by omega
          subst e
          rw [List.take_length, ← HT.out] at hoq
          go_wp2_with fail
          go_roundw
          case rel => exact ⟨k + 1, u, by omega, by go_num, bxq, hoq, hbq⟩
          case measure => simp [intOf]; omega
    · have e : k = n := by omega
      subst e
      have HO := Lib.hid hov
      have hv1 := hov.one
      clear hov
      go_wp2_with (first | (refine ldGR rfl (.tmp 3) rfl bxv rfl rfl ?_) | (refine stGR rfl (.tmp 2) (.tmp 35) rfl bxb rfl hv1 rfl rfl ?_))
      refine bodyPost_ret (resGR rfl (bxb.setRow _) rfl rfl) rfl ⟨v, rfl, ?_, ?_⟩
      · exact (HO.out.out (setRow_out wr _ _ (Nat.le_refl _) (Nat.lt_succ_self _)) (.inr (by omega))).wide (by omega) (by simp [World.setRow])
      · exact (hb3.trans (hbw.mono (by omega))).trans ((setRow_out wr _ _ (Nat.le_refl _) (Nat.lt_succ_self _)).below (by omega) (by omega))
end Go.Proofs.YtobghogkflgpeaaDoor
