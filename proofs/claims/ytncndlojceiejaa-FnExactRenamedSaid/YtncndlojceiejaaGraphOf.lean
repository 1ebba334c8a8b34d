/- Contract of the code's (attackRows).graph. Conditions: at most 10 claims, rows below 2^16. -/
import Derived.Test.YtncndlojceiejaaCopyM
import Derived.Test.YtncndlojceiejaaMg4
namespace Go.Proofs.Ytncndlojceiejaa
open Go.ChangeShapes Go.WideShapes Go.ChangeAt Go.RowKit
set_option maxRecDepth 100000
section
variable {w : World} {ops : Array Oper} {rest : List Oper} {o : Oper} {a : Act} {Q : Exit → Act → World → Prop}
theorem run_appSS2 (ty : TypeId) {L M lo hi B c : Nat} {v u : Value} {X : List (List Int)} {x : List Int} {ad : Addr} (h : OwnSS w L M v X) (hx : Row w lo hi 3 u (ivs x)) (hr : Rd w B (some ad) [u]) (hd : M ≤ lo) (hLM : L ≤ M) (hn : X.length + 1 ≤ 1099511627777) (hL : L ≤ w.heap.size) :
    ∃ v' w', (Builtin.append_ #[22, 22] ty #[v, .slice (some ad) 1 c]).run Try.prog w = .ok v' w' ∧ OwnSS w' L w'.heap.size v' (X ++ [x]) ∧ Below L w w' ∧
      (∀ b, b < w.heap.size → v.ownBlock ≠ some b → w'.heap[b]? = w.heap[b]?) ∧ ∀ b, v'.ownBlock = some b → v.ownBlock = some b ∨ b = w.heap.size := by
  obtain ⟨v', w', hrun, h2, h3⟩ := run_appSS ty (c := c) h hx hr hd hLM hn hL
  obtain ⟨F, ⟨v0, es, a1, a2, a3, _⟩, _, _⟩ := h
  have hvv : v = v0 := by simpa using a1
  subst hvv
  obtain ⟨i0, hi0, hz0, hz1, hz2⟩ := info_parts IntSS_info
  have hcells : ∀ (j : Nat) u', ([u] : List Value)[j]? = some u' → w.cell? (ad.add j) = some u' := fun j u' hu => by
    obtain ⟨ad', e1, _, hc⟩ := hr j u' hu
    injection e1 with e1
    subst e1
    exact hc
  obtain ⟨v2, w2, hrun2, _, b2, _, b4⟩ := run_append_own_at (P := Try.prog) w 0 22 ty 40 i0 _ 1 24 Try.underlying22 hi0 hz0 hz1 hz2 rfl (by omega) v X.length _ a3 ad 1 c [u] (by simp) hcells (by simp [row_cell hx]) (by unfold maxLen; omega) (by omega) (Nat.zero_le _)
  rw [hrun] at hrun2
  injection hrun2 with e1 e2
  subst e1
  subst e2
  refine ⟨v', w', hrun, h2, h3, fun b hb hv => b2.block b hb (fun e => hv e.symm), fun b hb => ?_⟩
  rcases b4 with b4 | b4
  · exact .inl (b4 ▸ hb)
  · rw [b4] at hb
    injection hb with hb
    exact .inr hb.symm
theorem wpList_appSS2 (hgd : o.guard = none) (s y : Operand) (ho : o.op = .call { callee := .builtin .append, args := #[s, y], argTypes := #[22, 22] })
    {L M lo hi B c : Nat} {v u : Value} {X : List (List Int)} {x : List Int} {ad : Addr} (hs : a.eval s = v) (hy : a.eval y = .slice (some ad) 1 c) (h : OwnSS w L M v X) (hx : Row w lo hi 3 u (ivs x)) (hr : Rd w B (some ad) [u]) (hd : M ≤ lo) (hLM : L ≤ M) (hn : X.length + 1 ≤ 1099511627777) (hL : L ≤ w.heap.size)
    (K : ∀ v' w', OwnSS w' L w'.heap.size v' (X ++ [x]) → Below L w w' → (∀ b, b < w.heap.size → v.ownBlock ≠ some b → w'.heap[b]? = w.heap[b]?) → (∀ b, v'.ownBlock = some b → v.ownBlock = some b ∨ b = w.heap.size) → wpList Try.prog ops Q rest (a.put o.dst v') w') : wpList Try.prog ops Q (o :: rest) a w := by
  obtain ⟨v', w', hrun, h2, h3, h4, h5⟩ := run_appSS2 o.type (c := c) h hx hr hd hLM hn hL
  refine wpList_plain hgd fun K' hK' => ?_
  unfold Oper.wp
  simp [execOp, ho, resolve, invoke, builtin, hs, hy, hrun, Result.andThen]
  exact hK' _ _ (K v' w' h2 h3 h4 h5)
end
def rowL (f : Nat → Nat) (k : Nat) : List (List Int) := (lsT (f k) 10).map fun b => [(k : Int), b]
/-- The pairs of rows, in order. -/
def glK (f : Nat → Nat) (k : Nat) : List (List Int) := (List.range k).flatMap (rowL f)
theorem glK_succ (f : Nat → Nat) (k : Nat) : glK f (k + 1) = glK f k ++ rowL f k := by simp [glK, List.range_succ, List.flatMap_append]
theorem glK_len (f : Nat → Nat) (k : Nat) : (glK f k).length ≤ 10 * k := by
  induction k with
  | zero => simp [glK]
  | succ k ih =>
    rw [glK_succ, List.length_append, rowL, List.length_map]
    have := lsT_len (f k) 10
    omega
set_option maxHeartbeats 8000000 in
theorem impGraph_any {w : World} {n : Nat} {f : Nat → Nat} (hn : n ≤ 10) (hf : ∀ a, f a < 65536) :
    Calls Try.prog 39 #[.agg (arC n f)] w (FreshG n (glK f n) w) := by
  have a1 := (Bx.made w 60 (arC n f)).new ((Below.refl _ _).alloc (Nat.le_refl _) (Obj.cells #[Value.int .i64 0, .slice none 0 0] 26))
  have a2 := Bx.made (w.alloc (Obj.cells (arC n f) 60)) 26 #[Value.int .i64 0, .slice none 0 0]
  have hb2 : Below w.heap.size w ((w.alloc (Obj.cells (arC n f) 60)).alloc (Obj.cells #[Value.int .i64 0, .slice none 0 0] 26)) := ((Below.refl _ _).alloc (Nat.le_refl _) _).alloc (by simp) _
  obtain ⟨W2, hW2⟩ : ∃ u : World, u = (w.alloc (Obj.cells (arC n f) 60)).alloc (Obj.cells #[Value.int .i64 0, .slice none 0 0] 26) := ⟨_, rfl⟩
  have hs2 : W2.heap.size = w.heap.size + 2 := by rw [hW2]; simp
  rw [← hW2] at a1 a2 hb2
  rw [show (w.alloc (Obj.cells (arC n f) 60)).heap.size = w.heap.size + 1 by simp] at a2
  have k3 := (Below.refl W2.heap.size W2).alloc (Nat.le_refl _) (Obj.cells #[Value.int .i64 n, .slice none 0 0] 26)
  have b1 := a1.new k3
  have b2 := a2.new k3
  have b3 := Bx.made W2 26 #[Value.int .i64 n, .slice none 0 0]
  have hb3 := hb2.trans (k3.mono hb2.size)
  obtain ⟨W3, hW3⟩ : ∃ u : World, u = W2.alloc (Obj.cells #[Value.int .i64 n, .slice none 0 0] 26) := ⟨_, rfl⟩
  have hs3 : W3.heap.size = w.heap.size + 3 := by rw [hW3]; simp [hs2]
  rw [← hW3] at b1 b2 b3 hb3
  rw [hs2] at b3
  have hW2' := hW2.symm
  have hW3' := hW3.symm
  have C0 := a1.at_ (k := 0) (v := .int .i64 n) rfl
  have D0 : (W2.alloc (Obj.cells #[Value.int .i64 n, .slice none 0 0] 26)).cell? ⟨w.heap.size, 0, none⟩ = some (.int .i64 n) := by rw [hW3']; exact b1.at_ (k := 0) (v := .int .i64 n) rfl
  have HW3 := Lib.hid hW3'
  have HS2 := Lib.hid hs2
  clear hW2 hW3 hW3' k3 a1 a2 hb2 hs2
  go_enter Try.func39, Try.ntmps39
  go_wp2_with fail
  rw [HS2.out, HW3.out]
  clear hW2' C0 D0
  go_loopw [12] (fun i wr => ∃ (k : Nat) (v : Value), k ≤ n ∧ i = .int .i64 k ∧ Bx wr (w.heap.size + 2) 26 #[Value.int IntKind.i64 n, v] ∧ OwnSS wr (w.heap.size + 3) wr.heap.size v (glK f k) ∧ Below (w.heap.size + 2) W3 wr) (fun i _ => n - (intOf i).toNat)
  case atStart => exact ⟨0, _, Nat.zero_le _, rfl, b3, OwnSS.nil, Below.refl _ _⟩
  case round =>
    obtain ⟨k, v, hk, rfl, bxv, hov, hbw⟩ := hrel
    have hsz := hbw.size
    have bxa : Bx wr w.heap.size 60 (arC n f) := (hbw.block _ (by omega)).trans b1
    have bxb : Bx wr (w.heap.size + 1) 26 #[Value.int IntKind.i64 0, Value.slice none 0 0] := (hbw.block _ (by omega)).trans b2
    by_cases hlt : k < n
    · have ck := bxa.at_ (arC_at n f (a := k) (by omega))
      have hfk := hf k
      have i1 : (0 : Int) ≤ (k : Int) := by omega
      have i2 : (k : Int) < 10 := by omega
      have HO := Lib.hid hov
      have HB := Lib.hid bxv
      have HT := Lib.hid (glK_succ f k)
      have HGL := Lib.hid (glK_len f k)
      have HV : Hid (∀ b, wr.heap.size ≤ b → v.ownBlock ≠ some b) := Lib.hid (fun b hb e => by
        obtain ⟨F, ⟨v0, es, a1, a2, a3, a4, _⟩, _, hF⟩ := hov
        have hvv : v = v0 := by simpa using a1
        subst hvv
        have := (hF b (by rw [a4, e]; simp)).2
        omega)
      clear hov bxv bxa
      go_wp2_with fail
      refine (list_any hfk).mono ?_
      rintro e w4 ⟨l, rfl, hrow, hb4⟩
      have hr0 : rowL f k = (lsT (f k) 10).map fun b => [(k : Int), b] := rfl
      have HLL := Lib.hid (lsT_len (f k) 10)
      obtain ⟨zs, hzs⟩ : ∃ zs, zs = lsT (f k) 10 := ⟨_, rfl⟩
      rw [← hzs] at hrow hr0 HLL
      rw [hr0] at HT
      obtain ⟨Al, cl, rfl, _, _, _⟩ := hrow.rd (n := zs.length) (ivs_len zs)
      have HRW := Lib.hid hrow
      have hs4 := hb4.size
      have hbw4 := hbw.trans (hb4.mono (by omega))
      have hbx4 := HB.out.new hb4
      have hov4 := (HO.out.new hb4).wide (Nat.le_refl _) hs4
      clear hr0 hzs hrow ck hbw
      go_wp2_with fail
      obtain ⟨M, hM⟩ : ∃ M, M = wr.heap.size := ⟨_, rfl⟩
      rw [← hM] at hs4 hsz HV HRW
      clear hM
      go_loopw [21] (fun i wr => ∃ (j : Nat) (u : Value), j ≤ zs.length ∧ i = .int .i64 j ∧ Bx wr (w.heap.size + 2) 26 #[Value.int IntKind.i64 n, u] ∧ OwnSS wr (w.heap.size + 3) wr.heap.size u (glK f k ++ (zs.take j).map fun b => [(k : Int), b]) ∧ Hid (∀ b, M ≤ b → b < w4.heap.size → u.ownBlock ≠ some b) ∧ Row wr M w4.heap.size 3 (.slice Al zs.length cl) (ivs zs) ∧ Below (w.heap.size + 2) W3 wr ∧ w4.heap.size ≤ wr.heap.size) (fun i _ => zs.length - (intOf i).toNat)
      case atStart => exact ⟨0, v, Nat.zero_le _, rfl, hbx4, by simpa using hov4, Lib.hid (fun b hb _ => HV.out b hb), HRW.out, hbw4, Nat.le_refl _⟩
      case round =>
        obtain ⟨j, u, hj, rfl, bxq, hoq, hub, hrq, hbq, hsq⟩ := hrel
        clear hbx4 hov4 hbw4
        by_cases hjt : j < zs.length
        · obtain ⟨ad, rfl, _, hc⟩ := ivs_at hrq.rd' hjt
          have HJ := Lib.hid (List.take_succ_eq_append_getElem hjt)
          obtain ⟨z, hz⟩ : ∃ z, z = zs[j] := ⟨_, rfl⟩
          obtain ⟨Y, hY⟩ : ∃ Y, Y = glK f k ++ (zs.take j).map fun b => [(k : Int), b] := ⟨_, rfl⟩
          have hYl : Y.length ≤ 10 * k + 10 := by
            have h1 := HGL.out
            have h2 := HLL.out
            rw [hY, List.length_append, List.length_map, List.length_take]
            omega
          have HY : Hid (glK f k ++ (zs.take (j + 1)).map (fun b => [(k : Int), b]) = Y ++ [[(k : Int), z]]) := Lib.hid (by rw [HJ.out, List.map_append, ← List.append_assoc, ← hY, hz]; rfl)
          rw [← hz] at hc
          rw [← hY] at hoq
          clear hz hY HJ
          have j0 : (0 : Int) ≤ (j : Int) := by omega
          have hzl := HLL.out
          obtain ⟨D0, D1⟩ := bxq.two
          have hbl1 : Below wr.heap.size wr (wr.alloc (Obj.cells #[Value.int .i64 k, .int .i64 z] 3)) := (Below.refl _ _).alloc (Nat.le_refl _) _
          have hbl2 : Below wr.heap.size wr ((wr.alloc (Obj.cells #[Value.int .i64 k, .int .i64 z] 3)).alloc (Obj.cells #[Value.slice (some ⟨wr.heap.size, 0, none⟩) 2 2] 40)) := hbl1.alloc hbl1.size _
          have hown2 := hoq.new hbl2
          have hrow2 := (Row.made (w := wr) wr.heap.size #[Value.int .i64 k, .int .i64 z] 2 3 (Nat.le_refl _) rfl (by decide)).new ((Below.refl _ _).alloc (Nat.le_refl _) (Obj.cells #[Value.slice (some ⟨wr.heap.size, 0, none⟩) 2 2] 40))
          have hr2 := Rd.made (wr.alloc (Obj.cells #[Value.int .i64 k, .int .i64 z] 3)) #[Value.slice (some ⟨wr.heap.size, 0, none⟩) 2 2] 40
          rw [show (wr.alloc (Obj.cells #[Value.int .i64 k, .int .i64 z] 3)).heap.size = wr.heap.size + 1 by simp] at hr2
          have hbxb := bxq.new hbl2
          have D1a : (wr.alloc (Obj.cells #[Value.int .i64 k, .int .i64 z] 3)).cell? ⟨w.heap.size + 2, 1, none⟩ = some u := (bxq.new hbl1).two.2
          have HS := Lib.hid (show w.heap.size + 3 ≤ wr.heap.size by omega)
          have HBQ := Lib.hid hbl2
          obtain ⟨Wb, hWb⟩ : ∃ q : World, q = (wr.alloc (Obj.cells #[Value.int .i64 k, .int .i64 z] 3)).alloc (Obj.cells #[Value.slice (some ⟨wr.heap.size, 0, none⟩) 2 2] 40) := ⟨_, rfl⟩
          have hsb : Hid (Wb.heap.size = wr.heap.size + 2) := Lib.hid (by rw [hWb]; simp)
          rw [← hWb] at hown2 hrow2 hr2 hbxb HBQ
          have hWb' := hWb.symm
          clear hWb hbl1 hbl2
          go_wp2_with (at_builtin; refine wpList_appSS2 (X := Y) (x := [(k : Int), z]) (u := .slice (some ⟨wr.heap.size, 0, none⟩) 2 2) (v := u) (L := w.heap.size + 3) (M := wr.heap.size) (lo := wr.heap.size) (hi := wr.heap.size + 1) (c := 1) (ad := ⟨wr.heap.size + 1, 0, none⟩) rfl (.tmp 26) (.tmp 30) rfl rfl rfl hown2 hrow2 hr2 (Nat.le_refl _) HS.out (by omega) (Nat.le_trans HS.out HBQ.out.size) ?_; intro v2 w2 hown hbw2 hkp hblk; obtain ⟨A8, c8, rfl, _, _, _⟩ := hown.rd (n := Y.length + 1) (by simp); have bx9 : Bx w2 (w.heap.size + 2) 26 #[Value.int IntKind.i64 n, u] := (hbw2.block _ (Nat.lt_succ_self _)).trans hbxb; have c2 := bx9.two.2; have f2 := bx9.free 1)
          go_roundw
          case rel =>
            have h1 := HBQ.out.size
            have h2 := hbw2.size
            have h3 := hsb.out
            have hch : Below (w.heap.size + 2) wr w2 := (HBQ.out.mono (by omega)).trans (hbw2.mono (by omega))
            refine ⟨j + 1, .slice A8 (Y.length + 1) c8, by omega, by go_num, bx9.set 1 _, by rw [HY.out]; exact (hown.setFar (.inl (Nat.lt_succ_self _)) _).wide (Nat.le_refl _) (by simp), Lib.hid (fun b hb hb2 e => ?_), hrq.keep (fun b hb1 hb2 hb3 => ?_), hbq.trans (hch.setCell (Nat.le_refl _) _), by simp; omega⟩
            · rcases hblk b e with e | e
              · exact hub.out b hb hb2 e
              · omega
            · rw [heap_setCell_other w2 _ b _ (by show b ≠ w.heap.size + 2; omega), hkp b (by omega) (hub.out b hb1 hb2)]
              exact HBQ.out.block b hb3
          case measure => simp [intOf]; omega
        · have e : j = zs.length := by omega
          subst e
          rw [List.take_length, ← HT.out] at hoq
          go_wp2_with fail
          go_roundw
          case rel => exact ⟨k + 1, u, by omega, by go_num, bxq, hoq, hbq⟩
          case measure => simp [intOf]; omega
    · have e : k = n := by omega
      subst e
      have HO := Lib.hid hov
      have hv1 := hov.one
      clear hov
      go_wp2_with (first | (refine ldGR rfl (.tmp 3) rfl bxv rfl rfl ?_) | (refine stGR rfl (.tmp 2) (.tmp 35) rfl bxb rfl hv1 rfl rfl ?_))
      refine bodyPost_ret (resGR rfl (bxb.setRow _) rfl rfl) rfl ⟨v, rfl, ?_, ?_⟩
      · exact (HO.out.out (setRow_out wr _ _ (Nat.le_refl _) (Nat.lt_succ_self _)) (.inr (by omega))).wide (by omega) (by simp [World.setRow])
      · exact (hb3.trans (hbw.mono (by omega))).trans ((setRow_out wr _ _ (Nat.le_refl _) (Nat.lt_succ_self _)).below (by omega) (by omega))
end Go.Proofs.Ytncndlojceiejaa
