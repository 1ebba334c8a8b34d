/- Contract of the code's copyOfGraph. Condition: the slices have at most 2^40 elements. -/
import Derived.Test.YtjhknafajfpldaaDoorCopyM
import Derived.Test.YtjhknafajfpldaaDoorMg9
import Derived.Test.YtjhknafajfpldaaDoorMg5
namespace Go.Proofs.YtjhknafajfpldaaDoor
open Go.ChangeShapes Go.WideShapes Go.ChangeAt Go.RowKit
set_option maxRecDepth 100000
theorem rdD {w : World} {A : Option Addr} {xs : List Value} (h : Rd w w.heap.size A xs) : Rd w.drew w.drew.heap.size A xs := h
theorem rdSSd' {w : World} {A : Option Addr} {X : List (List Int)} (h : RdSS w w.heap.size A X) : RdSS w.drew w.drew.heap.size A X := h
theorem two_g (w : World) (c1 c2 : Array Value) (t : TypeId) : ∃ W1 : World, W1 = (w.alloc (Obj.cells c1 t)).alloc (Obj.cells c2 t) ∧ Bx W1 w.heap.size t c1 ∧ Bx W1 (w.heap.size + 1) t c2 ∧ Below w.heap.size w W1 ∧ W1.heap.size = w.heap.size + 2 := by
  have a1 := (Bx.made w t c1).new ((Below.refl _ _).alloc (Nat.le_refl _) (Obj.cells c2 t))
  have a2 := Bx.made (w.alloc (Obj.cells c1 t)) t c2
  exact ⟨_, rfl, a1, by simpa using a2, ((Below.refl _ _).alloc (Nat.le_refl _) _).alloc (by simp) _, by simp⟩
set_option maxHeartbeats 4000000 in
theorem impCopy_any {w : World} {A : Option Addr} {n c : Nat} {N : Int} {X : List (List Int)} (hl : Hid (X.length = n)) (hn : n ≤ 1099511627776) (hs : Hid (∀ x ∈ X, x.length ≤ 1099511627776)) (hr : RdSS w w.heap.size A X) :
    Calls Tryd.prog 22 #[.agg #[.int .i64 N, .slice A n c]] w (FreshG N X w) := by
  obtain ⟨W1, hW, bx1, bx2, hb1, hs1⟩ := two_g w #[Value.int IntKind.i64 N, Value.slice A n c] #[Value.int IntKind.i64 0, Value.slice none 0 0] 26
  have hr1 := (hr.below hb1).more hb1.size
  have HW := Lib.hid hW.symm
  clear hW hr
  obtain ⟨C0, C1⟩ := bx1.two
  go_enter Tryd.func22, Tryd.ntmps22
  go_wp2_with fail
  rw [HW.out]
  have HR := Lib.hid hr1
  clear hr1
  obtain ⟨D0, D1⟩ := bx2.two
  have E0 := bx2.free 0
  have E1 := bx2.free 1
  go_region_law (go_simp; go_at_call 50; refine (copyLists_any hl hn hs (by first | with_reducible exact rdSSd' HR.out | with_reducible exact HR.out)).mono ?_; rintro e w1 ⟨v1, rfl, hown, hb2⟩; obtain ⟨A9, c9, rfl, _, _, _⟩ := hown.rd (n := n) hl.out; have hq : Below W1.heap.size W1 w1 := (by first | exact (Below.refl W1.heap.size W1).drew.trans hb2 | exact hb2); have b1 := bx1.new hq; have b2 := bx2.new hq; obtain ⟨e0, e1⟩ := b1.two; obtain ⟨d0, d1⟩ := b2.two; have f0 := b2.free 0; have f1 := b2.free 1)
  all_goals
    go_wp2_with fail
    have hown : OwnSS w1 W1.heap.size w1.heap.size (.slice A9 n c9) X := hown
    refine bodyPost_ret (resGR rfl ((b2.set 0 _).set 1 _) rfl rfl) rfl ⟨_, rfl, ?_, ?_⟩
    · exact ((hown.setFar (.inl (by show w.heap.size + 1 < W1.heap.size; omega)) _).setFar (.inl (by show w.heap.size + 1 < W1.heap.size; omega)) _).wide (by omega) (by simp)
    · exact ((hb1.trans (hq.mono hb1.size)).setCell (by show w.heap.size ≤ w.heap.size + 1; omega) _).setCell (by show w.heap.size ≤ w.heap.size + 1; omega) _
end Go.Proofs.YtjhknafajfpldaaDoor

/- Contract of the code's (attackRows).graph. Conditions: at most 10 claims, rows below 2^16. -/
namespace Go.Proofs.YtjhknafajfpldaaDoor
open Go.ChangeShapes Go.WideShapes Go.ChangeAt Go.RowKit
set_option maxRecDepth 100000
section
variable {w : World} {ops : Array Oper} {rest : List Oper} {o : Oper} {a : Act} {Q : Exit → Act → World → Prop}
theorem run_appSS2 (ty : TypeId) {L M lo hi B c : Nat} {v u : Value} {X : List (List Int)} {x : List Int} {ad : Addr} (h : OwnSS w L M v X) (hx : Row w lo hi 3 u (ivs x)) (hr : Rd w B (some ad) [u]) (hd : M ≤ lo) (hLM : L ≤ M) (hn : X.length + 1 ≤ 1099511627777) (hL : L ≤ w.heap.size) :
    ∃ v' w', (Builtin.append_ #[24, 24] ty #[v, .slice (some ad) 1 c]).run Tryd.prog w = .ok v' w' ∧ OwnSS w' L w'.heap.size v' (X ++ [x]) ∧ Below L w w' ∧
      (∀ b, b < w.heap.size → v.ownBlock ≠ some b → w'.heap[b]? = w.heap[b]?) ∧ ∀ b, v'.ownBlock = some b → v.ownBlock = some b ∨ b = w.heap.size := by
  obtain ⟨v', w', hrun, h2, h3⟩ := run_appSS ty (c := c) h hx hr hd hLM hn hL
  obtain ⟨F, ⟨v0, es, a1, a2, a3, _⟩, _, _⟩ := h
  have hvv : v = v0 := by simpa using a1
  subst hvv
  obtain ⟨i0, hi0, hz0, hz1, hz2⟩ := info_parts IntSS_info
  have hcells : ∀ (j : Nat) u', ([u] : List Value)[j]? = some u' → w.cell? (ad.add j) = some u' := fun j u' hu => by
    obtain ⟨ad', e1, _, hc⟩ := hr j u' hu
    injection e1 with e1
    subst e1
    exact hc
  obtain ⟨v2, w2, hrun2, _, b2, _, b4⟩ := run_append_own_at (P := Tryd.prog) w 0 24 ty 27 i0 _ 1 24 Tryd.underlying24 hi0 hz0 hz1 hz2 rfl (by omega) v X.length _ a3 ad 1 c [u] (by simp) hcells (by simp [row_cell hx]) (by unfold maxLen; omega) (by omega) (Nat.zero_le _)
  rw [hrun] at hrun2
  injection hrun2 with e1 e2
  subst e1
  subst e2
  refine ⟨v', w', hrun, h2, h3, fun b hb hv => b2.block b hb (fun e => hv e.symm), fun b hb => ?_⟩
  rcases b4 with b4 | b4
  · exact .inl (b4 ▸ hb)
  · rw [b4] at hb
    injection hb with hb
    exact .inr hb.symm
theorem wpList_appSS2 (hgd : o.guard = none) (s y : Operand) (ho : o.op = .call { callee := .builtin .append, args := #[s, y], argTypes := #[24, 24] })
    {L M lo hi B c : Nat} {v u : Value} {X : List (List Int)} {x : List Int} {ad : Addr} (hs : a.eval s = v) (hy : a.eval y = .slice (some ad) 1 c) (h : OwnSS w L M v X) (hx : Row w lo hi 3 u (ivs x)) (hr : Rd w B (some ad) [u]) (hd : M ≤ lo) (hLM : L ≤ M) (hn : X.length + 1 ≤ 1099511627777) (hL : L ≤ w.heap.size)
    (K : ∀ v' w', OwnSS w' L w'.heap.size v' (X ++ [x]) → Below L w w' → (∀ b, b < w.heap.size → v.ownBlock ≠ some b → w'.heap[b]? = w.heap[b]?) → (∀ b, v'.ownBlock = some b → v.ownBlock = some b ∨ b = w.heap.size) → wpList Tryd.prog ops Q rest (a.put o.dst v') w') : wpList Tryd.prog ops Q (o :: rest) a w := by
  obtain ⟨v', w', hrun, h2, h3, h4, h5⟩ := run_appSS2 o.type (c := c) h hx hr hd hLM hn hL
  refine wpList_plain hgd fun K' hK' => ?_
  unfold Oper.wp
  simp [execOp, ho, resolve, invoke, builtin, hs, hy, hrun, Result.andThen]
  exact hK' _ _ (K v' w' h2 h3 h4 h5)
end
def rowL (f : Nat → Nat) (k : Nat) : List (List Int) := (lsT (f k) 10).map fun b => [(k : Int), b]
/-- The pairs of rows, in order. -/
def glK (f : Nat → Nat) (k : Nat) : List (List Int) := (List.range k).flatMap (rowL f)
theorem glK_succ (f : Nat → Nat) (k : Nat) : glK f (k + 1) = glK f k ++ rowL f k := by simp [glK, List.range_succ, List.flatMap_append]
theorem glK_len (f : Nat → Nat) (k : Nat) : (glK f k).length ≤ 10 * k := by
  induction k with
  | zero => simp [glK]
  | succ k ih =>
    rw [glK_succ, List.length_append, rowL, List.length_map]
    have := lsT_len (f k) 10
    omega
set_option maxHeartbeats 8000000 in
theorem impGraph_any {w : World} {n : Nat} {f : Nat → Nat} (hn : n ≤ 10) (hf : ∀ a, f a < 65536) :
    Calls Tryd.prog 25 #[.agg (arC n f)] w (FreshG n (glK f n) w) := by
  have a1 := (Bx.made w 49 (arC n f)).new ((Below.refl _ _).alloc (Nat.le_refl _) (Obj.cells #[Value.int .i64 0, .slice none 0 0] 26))
  have a2 := Bx.made (w.alloc (Obj.cells (arC n f) 49)) 26 #[Value.int .i64 0, .slice none 0 0]
  have hb2 : Below w.heap.size w ((w.alloc (Obj.cells (arC n f) 49)).alloc (Obj.cells #[Value.int .i64 0, .slice none 0 0] 26)) := ((Below.refl _ _).alloc (Nat.le_refl _) _).alloc (by simp) _
  obtain ⟨W2, hW2⟩ : ∃ u : World, u = (w.alloc (Obj.cells (arC n f) 49)).alloc (Obj.cells #[Value.int .i64 0, .slice none 0 0] 26) := ⟨_, rfl⟩
  have hs2 : W2.heap.size = w.heap.size + 2 := by rw [hW2]; simp
  rw [← hW2] at a1 a2 hb2
  rw [show (w.alloc (Obj.cells (arC n f) 49)).heap.size = w.heap.size + 1 by simp] at a2
  have k3 := (Below.refl W2.heap.size W2).alloc (Nat.le_refl _) (Obj.cells #[Value.int .i64 n, .slice none 0 0] 26)
  have b1 := a1.new k3
  have b2 := a2.new k3
  have b3 := Bx.made W2 26 #[Value.int .i64 n, .slice none 0 0]
  have hb3 := hb2.trans (k3.mono hb2.size)
  obtain ⟨W3, hW3⟩ : ∃ u : World, u = W2.alloc (Obj.cells #[Value.int .i64 n, .slice none 0 0] 26) := ⟨_, rfl⟩
  have hs3 : W3.heap.size = w.heap.size + 3 := by rw [hW3]; simp [hs2]
  rw [← hW3] at b1 b2 b3 hb3
  rw [hs2] at b3
  have hW2' := hW2.symm
  have hW3' := hW3.symm
  have C0 := a1.at_ (k := 0) (v := .int .i64 n) rfl
  have D0 : (W2.alloc (Obj.cells #[Value.int .i64 n, .slice none 0 0] 26)).cell? ⟨w.heap.size, 0, none⟩ = some (.int .i64 n) := by rw [hW3']; exact b1.at_ (k := 0) (v := .int .i64 n) rfl
  have HW3 := Lib.hid hW3'
  have HS2 := Lib.hid hs2
  clear hW2 hW3 hW3' k3 a1 a2 hb2 hs2
  go_enter Tryd.func25, Tryd.ntmps25
  go_wp2_with fail
  rw [HS2.out, HW3.out]
  clear hW2' C0 D0
  go_loopw [12] (fun i wr => ∃ (k : Nat) (v : Value), k ≤ n ∧ i = .int .i64 k ∧ Bx wr (w.heap.size + 2) 26 #[Value.int IntKind.i64 n, v] ∧ OwnSS wr (w.heap.size + 3) wr.heap.size v (glK f k) ∧ Below (w.heap.size + 2) W3 wr) (fun i _ => n - (intOf i).toNat)
  case atStart => exact ⟨0, _, Nat.zero_le _, rfl, b3, OwnSS.nil, Below.refl _ _⟩
  case round =>
    obtain ⟨k, v, hk, rfl, bxv, hov, hbw⟩ := hrel
    have hsz := hbw.size
    have bxa : Bx wr w.heap.size 49 (arC n f) := (hbw.block _ (by omega)).trans b1
    have bxb : Bx wr (w.heap.size + 1) 26 #[Value.int IntKind.i64 0, Value.slice none 0 0] := (hbw.block _ (by omega)).trans b2
    by_cases hlt : k < n
    · have ck := bxa.at_ (arC_at n f (a := k) (by omega))
      have hfk := hf k
      have i1 : (0 : Int) ≤ (k : Int) := by omega
      have i2 : (k : Int) < 10 := by omega
      have HO := Lib.hid hov
      have HB := Lib.hid bxv
      have HT := Lib.hid (glK_succ f k)
      have HGL := Lib.hid (glK_len f k)
      have HV : Hid (∀ b, wr.heap.size ≤ b → v.ownBlock ≠ some b) := Lib.hid (fun b hb e => by
        obtain ⟨F, ⟨v0, es, a1, a2, a3, a4, _⟩, _, hF⟩ := hov
        have hvv : v = v0 := by simpa using a1
        subst hvv
        have := (hF b (by rw [a4, e]; simp)).2
        omega)
      clear hov bxv bxa
      go_wp2_with fail
      refine (list_any hfk).mono ?_
      rintro e w4 ⟨l, rfl, hrow, hb4⟩
      have hr0 : rowL f k = (lsT (f k) 10).map fun b => [(k : Int), b] := rfl
      have HLL := Lib.hid (lsT_len (f k) 10)
      obtain ⟨zs, hzs⟩ : ∃ zs, zs = lsT (f k) 10 := ⟨_, rfl⟩
      rw [← hzs] at hrow hr0 HLL
      rw [hr0] at HT
      obtain ⟨Al, cl, rfl, _, _, _⟩ := hrow.rd (n := zs.length) (ivs_len zs)
      have HRW := Lib.hid hrow
      have hs4 := hb4.size
      have hbw4 := hbw.trans (hb4.mono (by omega))
      have hbx4 := HB.out.new hb4
      have hov4 := (HO.out.new hb4).wide (Nat.le_refl _) hs4
      clear hr0 hzs hrow ck hbw
      go_wp2_with fail
      obtain ⟨M, hM⟩ : ∃ M, M = wr.heap.size := ⟨_, rfl⟩
      rw [← hM] at hs4 hsz HV HRW
      clear hM
      go_loopw [21] (fun i wr => ∃ (j : Nat) (u : Value), j ≤ zs.length ∧ i = .int .i64 j ∧ Bx wr (w.heap.size + 2) 26 #[Value.int IntKind.i64 n, u] ∧ OwnSS wr (w.heap.size + 3) wr.heap.size u (glK f k ++ (zs.take j).map fun b => [(k : Int), b]) ∧ Hid (∀ b, M ≤ b → b < w4.heap.size → u.ownBlock ≠ some b) ∧ Row wr M w4.heap.size 3 (.slice Al zs.length cl) (ivs zs) ∧ Below (w.heap.size + 2) W3 wr ∧ w4.heap.size ≤ wr.heap.size) (fun i _ => zs.length - (intOf i).toNat)
      case atStart => exact ⟨0, v, Nat.zero_le _, rfl, hbx4, by simpa using hov4, Lib.hid (fun b hb _ => HV.out b hb), HRW.out, hbw4, Nat.le_refl _⟩
      case round =>
        obtain ⟨j, u, hj, rfl, bxq, hoq, hub, hrq, hbq, hsq⟩ := hrel
        clear hbx4 hov4 hbw4
        by_cases hjt : j < zs.length
        · obtain ⟨ad, rfl, _, hc⟩ := ivs_at hrq.rd' hjt
          have HJ := Lib.hid (List.take_succ_eq_append_getElem hjt)
          obtain ⟨z, hz⟩ : ∃ z, z = zs[j] := ⟨_, rfl⟩
          obtain ⟨Y, hY⟩ : ∃ Y, Y = glK f k ++ (zs.take j).map fun b => [(k : Int), b] := ⟨_, rfl⟩
          have hYl : Y.length ≤ 10 * k + 10 := by
            have h1 := HGL.out
            have h2 := HLL.out
            rw [hY, List.length_append, List.length_map, List.length_take]
            omega
          have HY : Hid (glK f k ++ (zs.take (j + 1)).map (fun b => [(k : Int), b]) = Y ++ [[(k : Int), z]]) := Lib.hid (by rw [HJ.out, List.map_append, ← List.append_assoc, ← hY, hz]; rfl)
          rw [← hz] at hc
          rw [← hY] at hoq
          clear hz hY HJ
          have j0 : (0 : Int) ≤ (j : Int) := by omega
          have hzl := HLL.out
          obtain ⟨D0, D1⟩ := bxq.two
          have hbl1 : Below wr.heap.size wr (wr.alloc (Obj.cells #[Value.int .i64 k, .int .i64 z] 3)) := (Below.refl _ _).alloc (Nat.le_refl _) _
          have hbl2 : Below wr.heap.size wr ((wr.alloc (Obj.cells #[Value.int .i64 k, .int .i64 z] 3)).alloc (Obj.cells #[Value.slice (some ⟨wr.heap.size, 0, none⟩) 2 2] 27)) := hbl1.alloc hbl1.size _
          have hown2 := hoq.new hbl2
          have hrow2 := (Row.made (w := wr) wr.heap.size #[Value.int .i64 k, .int .i64 z] 2 3 (Nat.le_refl _) rfl (by decide)).new ((Below.refl _ _).alloc (Nat.le_refl _) (Obj.cells #[Value.slice (some ⟨wr.heap.size, 0, none⟩) 2 2] 27))
          have hr2 := Rd.made (wr.alloc (Obj.cells #[Value.int .i64 k, .int .i64 z] 3)) #[Value.slice (some ⟨wr.heap.size, 0, none⟩) 2 2] 27
          rw [show (wr.alloc (Obj.cells #[Value.int .i64 k, .int .i64 z] 3)).heap.size = wr.heap.size + 1 by simp] at hr2
          have hbxb := bxq.new hbl2
          have D1a : (wr.alloc (Obj.cells #[Value.int .i64 k, .int .i64 z] 3)).cell? ⟨w.heap.size + 2, 1, none⟩ = some u := (bxq.new hbl1).two.2
          have HS := Lib.hid (show w.heap.size + 3 ≤ wr.heap.size by omega)
          have HBQ := Lib.hid hbl2
          obtain ⟨Wb, hWb⟩ : ∃ q : World, q = (wr.alloc (Obj.cells #[Value.int .i64 k, .int .i64 z] 3)).alloc (Obj.cells #[Value.slice (some ⟨wr.heap.size, 0, none⟩) 2 2] 27) := ⟨_, rfl⟩
          have hsb : Hid (Wb.heap.size = wr.heap.size + 2) := Lib.hid (by rw [hWb]; simp)
          rw [← hWb] at hown2 hrow2 hr2 hbxb HBQ
          have hWb' := hWb.symm
          clear hWb hbl1 hbl2
          go_wp2_with (at_builtin; refine wpList_appSS2 (X := Y) (x := [(k : Int), z]) (u := .slice (some ⟨wr.heap.size, 0, none⟩) 2 2) (v := u) (L := w.heap.size + 3) (M := wr.heap.size) (lo := wr.heap.size) (hi := wr.heap.size + 1) (c := 1) (ad := ⟨wr.heap.size + 1, 0, none⟩) rfl (.tmp 26) (.tmp 30) rfl rfl rfl hown2 hrow2 hr2 (Nat.le_refl _) HS.out (by omega) (Nat.le_trans HS.out HBQ.out.size) ?_; intro v2 w2 hown hbw2 hkp hblk; obtain ⟨A8, c8, rfl, _, _, _⟩ := hown.rd (n := Y.length + 1) (by simp); have bx9 : Bx w2 (w.heap.size + 2) 26 #[Value.int IntKind.i64 n, u] := (hbw2.block _ (Nat.lt_succ_self _)).trans hbxb; have c2 := bx9.two.2; have f2 := bx9.free 1)
          go_roundw
          case rel =>
            have h1 := HBQ.out.size
            have h2 := hbw2.size
            have h3 := hsb.out
            have hch : Below (w.heap.size + 2) wr w2 := (HBQ.out.mono (by omega)).trans (hbw2.mono (by omega))
            refine ⟨j + 1, .slice A8 (Y.length + 1) c8, by omega, by go_num, bx9.set 1 _, by rw [HY.out]; exact (hown.setFar (.inl (Nat.lt_succ_self _)) _).wide (Nat.le_refl _) (by simp), Lib.hid (fun b hb hb2 e => ?_), hrq.keep (fun b hb1 hb2 hb3 => ?_), hbq.trans (hch.setCell (Nat.le_refl _) _), by simp; omega⟩
            · rcases hblk b e with e | e
              · exact hub.out b hb hb2 e
              · omega
            · rw [heap_setCell_other w2 _ b _ (by show b ≠ w.heap.size + 2; omega), hkp b (by omega) (hub.out b hb1 hb2)]
              exact HBQ.out.block b hb3
          case measure => simp [intOf]; omega
        · have e : j = zs.length := by omega
          subst e
          rw [List.take_length, ← HT.out] at hoq
          go_wp2_with fail
          go_roundw
          case rel => exact ⟨k + 1, u, by omega, by go_num, bxq, hoq, hbq⟩
          case measure => simp [intOf]; omega
    · have e : k = n := by omega
      subst e
      have HO := Lib.hid hov
      have hv1 := hov.one
      clear hov
      go_wp2_with (first | (refine ldGR rfl (.tmp 3) rfl bxv rfl rfl ?_) | (refine stGR rfl (.tmp 2) (.tmp 35) rfl bxb rfl hv1 rfl rfl ?_))
      refine bodyPost_ret (resGR rfl (bxb.setRow _) rfl rfl) rfl ⟨v, rfl, ?_, ?_⟩
      · exact (HO.out.out (setRow_out wr _ _ (Nat.le_refl _) (Nat.lt_succ_self _)) (.inr (by omega))).wide (by omega) (by simp [World.setRow])
      · exact (hb3.trans (hbw.mono (by omega))).trans ((setRow_out wr _ _ (Nat.le_refl _) (Nat.lt_succ_self _)).below (by omega) (by omega))
end Go.Proofs.YtjhknafajfpldaaDoor

/- Where an attack is put among the pairs; the rows say the same: sums without code. -/
namespace Go.Proofs.YtjhknafajfpldaaDoor
def gtP (x : List Int) (a b : Int) : Bool := decide (a < x.getD 0 0) || (decide (x.getD 0 0 = a) && decide (b < x.getD 1 0))
def ins (a b : Int) : List (List Int) → List (List Int)
  | [] => [[a, b]]
  | x :: xs => if gtP x a b then [a, b] :: x :: xs else x :: ins a b xs
theorem ins_snoc_any {a b : Int} {x : List Int} : ∀ {Y : List (List Int)}, Y.any (gtP · a b) = true → ins a b (Y ++ [x]) = ins a b Y ++ [x]
  | [], h => by simp at h
  | y :: Y, h => by
    rw [List.cons_append]
    unfold ins
    by_cases hy : gtP y a b = true
    · rw [if_pos hy, if_pos hy]; rfl
    · rw [if_neg hy, if_neg hy, List.cons_append]
      congr 1
      refine ins_snoc_any ?_
      rw [List.any_cons] at h
      simpa [hy] using h
theorem ins_none {a b : Int} : ∀ {Y : List (List Int)}, Y.any (gtP · a b) = false → ins a b Y = Y ++ [[a, b]]
  | [], _ => rfl
  | y :: Y, h => by
    rw [List.any_cons, Bool.or_eq_false_iff] at h
    unfold ins
    rw [if_neg (by rw [h.1]; simp), ins_none h.2, List.cons_append]
theorem ins_first {a b : Int} {x : List Int} (hx : gtP x a b = true) : ∀ {Y : List (List Int)}, Y.any (gtP · a b) = false → ins a b (Y ++ [x]) = Y ++ [[a, b]] ++ [x]
  | [], _ => by simp [ins, hx]
  | y :: Y, h => by
    rw [List.any_cons, Bool.or_eq_false_iff] at h
    rw [List.cons_append]
    unfold ins
    rw [if_neg (by rw [h.1]; simp), ins_first hx h.2]
    simp
theorem ins_len (a b : Int) : ∀ X : List (List Int), (ins a b X).length = X.length + 1
  | [] => rfl
  | x :: X => by
    unfold ins
    split
    · rfl
    · simp [ins_len a b X]
theorem ins_mem {a b : Int} {z : List Int} : ∀ {X : List (List Int)}, z ∈ ins a b X ↔ z ∈ X ∨ z = [a, b]
  | [] => by simp [ins]
  | x :: X => by
    unfold ins
    split
    · simp only [List.mem_cons]
      constructor
      · rintro (h | h | h)
        · exact .inr h
        · exact .inl (.inl h)
        · exact .inl (.inr h)
      · rintro ((h | h) | h)
        · exact .inr (.inl h)
        · exact .inr (.inr h)
        · exact .inl h
    · rw [List.mem_cons, ins_mem, List.mem_cons]
      constructor
      · rintro (h | h | h)
        · exact .inl (.inl h)
        · exact .inl (.inr h)
        · exact .inr h
      · rintro ((h | h) | h)
        · exact .inl h
        · exact .inr (.inl h)
        · exact .inr (.inr h)
theorem gt_lt {x : List Int} {a b : Int} (h : gtP x a b = true) : ltP [a, b] x = true := by
  rw [ltP_iff]
  unfold gtP at h
  simp at h ⊢
  omega
theorem ins_asc {n : Nat} {a b : Int} : ∀ {X : List (List Int)}, Prs n X → Asc X → [a, b] ∉ X → Asc (ins a b X)
  | [], _, _, _ => by simp [ins, Asc]
  | x :: X, hp, ha, hn => by
    have ha' := ha
    unfold Asc at ha'
    rw [List.pairwise_cons] at ha'
    unfold ins
    split
    · rename_i hg
      have hl := gt_lt hg
      unfold Asc
      rw [List.pairwise_cons]
      refine ⟨fun y hy => ?_, ha⟩
      rcases List.mem_cons.1 hy with rfl | hy
      · exact hl
      · exact ltP_tr _ _ _ hl (ha'.1 y hy)
    · rename_i hg
      have ih := ins_asc (a := a) (b := b) (fun y hy => hp y (by simp [hy])) ha'.2 (fun h => hn (by simp [h]))
      unfold Asc at ih ⊢
      rw [List.pairwise_cons]
      refine ⟨fun y hy => ?_, ih⟩
      rcases ins_mem.1 hy with hy | rfl
      · exact ha'.1 y hy
      · obtain ⟨p, q, rfl, _, _⟩ := hp x (by simp)
        have hne : ¬ ((p : Int) = a ∧ (q : Int) = b) := by
          rintro ⟨rfl, rfl⟩
          exact hn (by simp)
        rw [ltP_iff]
        unfold gtP at hg
        simp at hg ⊢
        omega
theorem asc_nodup {X : List (List Int)} {a b : Int} (hm : [a, b] ∈ X) : ¬ Asc (ins a b X) := by
  intro h
  unfold Asc at h
  induction X with
  | nil => simp at hm
  | cons x X ih =>
    unfold ins at h
    split at h
    · rw [List.pairwise_cons] at h
      exact ltP_irr _ (h.1 _ hm)
    · rw [List.pairwise_cons] at h
      rcases List.mem_cons.1 hm with e | hm
      · exact ltP_irr _ (h.1 [a, b] (ins_mem.2 (.inr rfl)) |> fun k => by rw [← e] at k; exact k)
      · exact ih hm h.2
/-- Whether an attack can be added, and what the graph then is. -/
def canA (N : Int) (X : List (List Int)) (a b : Int) : Bool := gB N X && gB N (ins a b X)
def addL (N : Int) (X : List (List Int)) (a b : Int) : List (List Int) := if canA N X a b then ins a b X else X
theorem canA_out {N a b : Int} {X : List (List Int)} (h : ¬ (inr a 0 (rn N X - 1) = true ∧ inr b 0 (rn N X - 1) = true)) : canA N X a b = false := by
  cases hc : canA N X a b with
  | false => rfl
  | true =>
    exfalso
    unfold canA at hc
    rw [Bool.and_eq_true] at hc
    obtain ⟨h1, h2⟩ := hc
    obtain ⟨n, rfl, hn, hp, _⟩ := gB_ok h2
    obtain ⟨p, q, e, hp1, hq1⟩ := hp [a, b] (ins_mem.2 (.inr rfl))
    injection e with e1 e2
    injection e2 with e2 _
    refine h ?_
    unfold rn
    rw [if_pos h1, e1, e2]
    exact ⟨inr_t (by omega) (by omega), inr_t (by omega) (by omega)⟩
theorem in_rows {N a b : Int} {X : List (List Int)} (h1 : inr a 0 (rn N X - 1) = true) (h2 : inr b 0 (rn N X - 1) = true) : ∃ n p q : Nat, N = n ∧ n ≤ 10 ∧ a = p ∧ b = q ∧ p < n ∧ q < n ∧ gB N X = true ∧ rn N X = n := by
  cases hg : gB N X with
  | false =>
    exfalso
    unfold rn at h1
    rw [hg] at h1
    simp [inr] at h1
    omega
  | true =>
    obtain ⟨n, rfl, hn, _, _⟩ := gB_ok hg
    have hr : rn n X = n := by unfold rn; rw [if_pos hg]
    rw [hr] at h1 h2
    have h1' : 0 ≤ a ∧ a ≤ (n : Int) - 1 := by simpa [inr] using h1
    have h2' : 0 ≤ b ∧ b ≤ (n : Int) - 1 := by simpa [inr] using h2
    exact ⟨n, a.toNat, b.toNat, rfl, hn, by omega, by omega, by omega, by omega, rfl, hr⟩
theorem canA_there {n p q : Nat} {X : List (List Int)} (hg : gB n X = true) (hb : (rf n X p).testBit q = true) : canA n X p q = false := by
  obtain ⟨n', e, hn, hp, _⟩ := gB_ok hg
  obtain rfl : n = n' := by omega
  have hm := (rf_mem hg hp p q).1 hb
  cases hc : canA n X p q with
  | false => rfl
  | true =>
    exfalso
    unfold canA at hc
    rw [Bool.and_eq_true] at hc
    obtain ⟨_, _, _, _, ha⟩ := gB_ok hc.2
    exact asc_nodup hm ha
theorem mem_glK {f : Nat → Nat} {n : Nat} {z : List Int} : z ∈ glK f n ↔ ∃ p q : Nat, p < n ∧ q < 10 ∧ (f p).testBit q = true ∧ z = [(p : Int), (q : Int)] := by
  unfold glK
  rw [List.mem_flatMap]
  constructor
  · rintro ⟨p, hp, hz⟩
    unfold rowL at hz
    rw [List.mem_map] at hz
    obtain ⟨b, hb, rfl⟩ := hz
    obtain ⟨j, hj, ht, rfl⟩ := (lsT_mem _ _ _).1 hb
    exact ⟨p, j, List.mem_range.1 hp, hj, ht, rfl⟩
  · rintro ⟨p, q, hp, hq, ht, rfl⟩
    refine ⟨p, List.mem_range.2 hp, ?_⟩
    unfold rowL
    rw [List.mem_map]
    exact ⟨q, (lsT_mem _ _ _).2 ⟨q, hq, ht, rfl⟩, rfl⟩
theorem glK_asc (f : Nat → Nat) (n : Nat) : Asc (glK f n) := by
  unfold Asc
  induction n with
  | zero => simp [glK]
  | succ n ih =>
    rw [glK_succ, List.pairwise_append]
    refine ⟨ih, ?_, fun x hx y hy => ?_⟩
    · unfold rowL
      rw [List.pairwise_map]
      refine (lsT_asc (f n) 10).imp ?_
      intro a b h
      rw [ltP_iff]
      simp
      exact h
    · obtain ⟨p, q, hp, _, _, rfl⟩ := mem_glK.1 hx
      unfold rowL at hy
      rw [List.mem_map] at hy
      obtain ⟨b, _, rfl⟩ := hy
      rw [ltP_iff]
      simp
      omega
theorem glK_ins {n p q : Nat} {X : List (List Int)} (hg : gB n X = true) (hp : p < n) (hq : q < n) (hb : (rf n X p).testBit q = false) : glK (upd (rf n X) p q) n = ins p q X ∧ canA n X p q = true := by
  obtain ⟨n', e, hn, hP, hA⟩ := gB_ok hg
  obtain rfl : n = n' := by omega
  have hm : [(p : Int), (q : Int)] ∉ X := fun h => by rw [(rf_mem hg hP p q).2 h] at hb; simp at hb
  have hi := ins_asc hP hA hm
  refine ⟨sorted_ext ltP_irr ltP_tr (glK_asc _ _) hi (fun z => ?_), ?_⟩
  · rw [mem_glK, ins_mem]
    constructor
    · rintro ⟨a, b, ha, hb10, ht, rfl⟩
      rw [upd_bit, Bool.or_eq_true, Bool.and_eq_true] at ht
      rcases ht with ht | ⟨h1, h2⟩
      · exact .inl ((rf_mem hg hP a b).1 ht)
      · simp at h1 h2
        subst h1 h2
        exact .inr rfl
    · rintro (hz | rfl)
      · obtain ⟨a, b, rfl, ha, hb2⟩ := hP z hz
        exact ⟨a, b, ha, by omega, by rw [upd_bit, (rf_mem hg hP a b).2 hz]; rfl, rfl⟩
      · exact ⟨p, q, hp, by omega, by rw [upd_bit]; simp, rfl⟩
  · unfold canA
    rw [hg, Bool.true_and]
    refine gB_of hn (fun z hz => ?_) hi
    rcases ins_mem.1 hz with hz | rfl
    · exact hP z hz
    · exact ⟨p, q, rfl, hp, hq⟩
/-- Rows that grew by what was there are the same rows. -/
theorem upd_same {f : Nat → Nat} {p q : Nat} (h : (f p).testBit q = true) : upd f p q = f := by
  funext k
  unfold upd
  split
  · rename_i e
    subst e
    refine Nat.eq_of_testBit_eq fun j => ?_
    rw [Nat.testBit_or, Nat.testBit_two_pow]
    by_cases hj : q = j
    · subst hj; simp [h]
    · simp [hj]
  · rfl
theorem upd_other {f : Nat → Nat} {p q : Nat} (h : (f p).testBit q = false) : upd f p q p ≠ f p := by
  intro e
  have := upd_bit f p q p q
  rw [e, h] at this
  simp at this
end Go.Proofs.YtjhknafajfpldaaDoor
