/- Contracts of the code's namesWithout and renamed. Conditions: at most 10 claims, rows below 2^16, names that are claims or none. -/
import Derived.Test.YtncndlojceiejaaRenMath
import Derived.Test.YtncndlojceiejaaFreeC
import Derived.Test.YtncndlojceiejaaGrow
import Derived.Test.YtncndlojceiejaaAddC
namespace Go.Proofs.Ytncndlojceiejaa
open Go.ChangeShapes Go.WideShapes Go.ChangeAt Go.RowKit
set_option maxRecDepth 100000
/-- Ten names as cells. -/
def nmC (t : Nat → Int) : Array Value := #[.int .i64 (t 0), .int .i64 (t 1), .int .i64 (t 2), .int .i64 (t 3), .int .i64 (t 4), .int .i64 (t 5), .int .i64 (t 6), .int .i64 (t 7), .int .i64 (t 8), .int .i64 (t 9)]
theorem nmC_at (t : Nat → Int) {k : Nat} (hk : k < 10) : (nmC t)[k]? = some (.int .i64 (t k)) := by
  rcases lt10 hk with rfl | rfl | rfl | rfl | rfl | rfl | rfl | rfl | rfl | rfl <;> rfl
theorem nmC_lit : #[Value.int .i64 0, .int .i64 0, .int .i64 0, .int .i64 0, .int .i64 0, .int .i64 0, .int .i64 0, .int .i64 0, .int .i64 0, .int .i64 0] = nmC fun _ => 0 := rfl
theorem nmC_one (t : Nat → Int) : ∀ v ∈ (nmC t).toList, v.oneCell' = true := by simp [nmC, Value.oneCell']
theorem nmC_set (t : Nat → Int) {k : Nat} (hk : k < 10) : (nmC fun j => if j < k then t j else 0).setIfInBounds k (.int .i64 (t k)) = nmC fun j => if j < k + 1 then t j else 0 := by
  rcases lt10 hk with rfl | rfl | rfl | rfl | rfl | rfl | rfl | rfl | rfl | rfl <;> simp [nmC]
theorem nmC_all (t : Nat → Int) : nmC (fun j => if j < 10 then t j else 0) = nmC t := by simp [nmC]
theorem NM_info : (Try.prog.info? 80).map (·.size) = some 10 := by kernel_rfl
section
variable {w : World} {ops : Array Oper} {rest : List Oper} {o : Oper} {a : Act} {Q : Exit → Act → World → Prop} {cs : Array Value}
theorem ldNM (hgd : o.guard = none) (x : Operand) (ho : o.op = .load 80 x) {g : Nat} (h : Bx w g 80 cs) (hs : cs.size = 10) (hx : a.eval x = .pointer (some ⟨g, 0, none⟩)) (K : wpList Try.prog ops Q rest (a.put o.dst (.agg cs)) w) : wpList Try.prog ops Q (o :: rest) a w :=
  wpList_load_row hgd _ x ho g hx _ cs (0, 0) _ h Try.underlying80 rfl (by rw [NM_info, hs]) K
theorem stNM (hgd : o.guard = none) (x y : Operand) (ho : o.op = .store 80 x y) {g : Nat} {t : Nat → Int} (h : Bx w g 80 cs) (hs : cs.size = 10) (hx : a.eval x = .pointer (some ⟨g, 0, none⟩)) (hy : a.eval y = .agg (nmC t)) (K : wpList Try.prog ops Q rest (a.put o.dst undef) (w.setRow g (nmC t))) : wpList Try.prog ops Q (o :: rest) a w :=
  wpList_store_row hgd _ x y ho g (nmC t) hx hy _ cs h (by rw [NM_info]; rfl) (by rw [hs]; rfl) (by simp [nmC, Value.oneCell']) K
theorem resNM {fn : Func} {p : Tmp} {tmps : Array Value} {g : Nat} (h : fn.results = #[.cell p 80]) (hb : Bx w g 80 cs) (hs : cs.size = 10) (hp : tmps.getD p undef = .pointer (some ⟨g, 0, none⟩)) : (results fn tmps).run Try.prog w = .ok (.agg cs) w :=
  results_cell_row h tmps w g _ cs (0, 0) _ hp hb Try.underlying80 rfl (by rw [NM_info, hs])
end
theorem two_blocks (w : World) (c1 c2 : Array Value) (t1 t2 : TypeId) : ∃ W1 : World, (w.alloc (Obj.cells c1 t1)).alloc (Obj.cells c2 t2) = W1 ∧ Bx W1 w.heap.size t1 c1 ∧ Bx W1 (w.heap.size + 1) t2 c2 ∧ Below w.heap.size w W1 ∧ W1.heap.size = w.heap.size + 2 := by
  have a1 := (Bx.made w t1 c1).new (alloc_new _ (Obj.cells c2 t2))
  have a2 := Bx.made (w.alloc (Obj.cells c1 t1)) t2 c2
  exact ⟨_, rfl, a1, by simpa using a2, ((Below.refl _ _).alloc (Nat.le_refl _) _).alloc (by simp) _, by simp⟩
theorem setCell_out (w : World) (g k : Nat) (u : Value) : Out g (g + 1) w (w.setCell ⟨g, k, none⟩ u) :=
  ⟨rfl, rfl, rfl, by simp, fun j _ hj => Below.heap_setCell w ⟨g, k, none⟩ u j (by simp; omega)⟩
set_option maxHeartbeats 4000000 in
theorem names_any {w : World} {c : Int} : Calls Try.prog 58 #[.int .i64 c] w (fun e w' => e = .returned (.agg (nmC (woN c))) ∧ Below w.heap.size w w') := by
  obtain ⟨W1, hW, bx1, bx2, hb1, hs1⟩ := two_blocks w (nmC fun _ => 0) (nmC fun _ => 0) 80 80
  have HS := Lib.hid hs1
  clear hs1
  rw [← nmC_lit] at hW
  go_enter Try.func58, Try.ntmps58
  go_wp2_with fail
  try rw [hW]
  clear hW
  generalize hg : w.heap.size = g at *
  go_loopw [5] (fun i wr => ∃ k : Nat, k ≤ 10 ∧ i = .int .i64 k ∧ Bx wr (g + 1) 80 (nmC fun j => if j < k then woN c j else 0) ∧ Out (g + 1) (g + 2) W1 wr) (fun i _ => 10 - (intOf i).toNat)
  case atStart => exact ⟨0, Nat.zero_le _, rfl, bx2, Out.refl⟩
  case round =>
    obtain ⟨k, hk, rfl, hbk, hou⟩ := hrel
    by_cases hlt : k < 10
    · have ck := hbk.at_ (nmC_at _ hlt)
      have fk := hbk.free k
      have hbs := hbk.set k (.int .i64 (woN c k))
      rw [nmC_set _ hlt] at hbs
      have hos := hou.trans (setCell_out wr (g + 1) k (.int .i64 (woN c k)))
      have i0 : (0 : Int) ≤ (k : Int) := by omega
      have i1 : (k : Int) < 10 := by omega
      have i2 : (k : Int) ≤ 9 := by omega
      have HB := Lib.hid hbs
      have HO := Lib.hid hos
      clear hbs hos hbk
      by_cases e1 : (k : Int) < c
      · have HV := Lib.hid (show woN c k = k by unfold woN; rw [if_pos e1])
        rw [HV.out] at HB HO
        go_wp2_with fail
        go_roundw
        case rel => exact ⟨k + 1, by omega, by go_num, HB.out, HO.out⟩
        case measure => simp [intOf]; omega
      · by_cases e2 : (k : Int) = c
        · have HV := Lib.hid (show woN c k = -1 by unfold woN; rw [if_neg e1, if_pos e2])
          have e2' : ((k : Int) == c) = true := by simpa using e2
          rw [HV.out] at HB HO
          clear e2
          go_wp2_with fail
          go_roundw
          case rel => exact ⟨k + 1, by omega, by go_num, HB.out, HO.out⟩
          case measure => simp [intOf]; omega
        · have HV := Lib.hid (show woN c k = k - 1 by unfold woN; rw [if_neg e1, if_neg e2])
          have e2' : ((k : Int) == c) = false := by simpa using e2
          rw [HV.out] at HB HO
          clear e2
          go_wp2_with fail
          go_roundw
          case rel => exact ⟨k + 1, by omega, by go_num, HB.out, HO.out⟩
          case measure => simp [intOf]; omega
    · have e : k = 10 := by omega
      subst e
      rw [nmC_all] at hbk
      have bx1' := bx1.out hou (.inl (by omega))
      go_wp2_with (first | (refine ldNM rfl (.tmp 3) rfl hbk rfl rfl ?_) | (refine stNM rfl (.tmp 2) (.tmp 26) rfl bx1' rfl rfl rfl ?_))
      refine bodyPost_ret (resNM rfl (bx1'.setRow _) rfl rfl) rfl ⟨rfl, ?_⟩
      have hsz := HS.out
      exact hg ▸ ((hb1.trans (hou.below (by omega) (by omega))).trans ((setRow_out wr g (nmC (woN c)) (Nat.le_refl _) (Nat.lt_succ_self _)).below (Nat.le_refl _) (by have := hou.size; omega)))
theorem three_blocks (w : World) (c1 c2 c3 : Array Value) (t1 t2 t3 : TypeId) : ∃ W1 : World, ((w.alloc (Obj.cells c1 t1)).alloc (Obj.cells c2 t2)).alloc (Obj.cells c3 t3) = W1 ∧ Bx W1 w.heap.size t1 c1 ∧ Bx W1 (w.heap.size + 1) t2 c2 ∧ Bx W1 (w.heap.size + 2) t3 c3 ∧ Below w.heap.size w W1 ∧ W1.heap.size = w.heap.size + 3 := by
  obtain ⟨W2, hW, b1, b2, hb, hs⟩ := two_blocks w c1 c2 t1 t2
  have a3 := Bx.made W2 t3 c3
  rw [hW]
  exact ⟨_, rfl, b1.new (alloc_new _ _), b2.new (alloc_new _ _), by rw [hs] at a3; exact a3, hb.alloc (by omega) _, by simp [hs]⟩
theorem rowL_take (f : Nat → Nat) (k : Nat) {j : Nat} {z : Int} (hj : j < (lsT (f k) 10).length) (hz : (lsT (f k) 10)[j] = z) : (rowL f k).take (j + 1) = (rowL f k).take j ++ [[(k : Int), z]] := by
  have h : j < (rowL f k).length := by unfold rowL; rw [List.length_map]; exact hj
  rw [List.take_succ_eq_append_getElem h]
  simp only [rowL, List.getElem_map, hz]
set_option maxHeartbeats 8000000 in
theorem renamed_any {w : World} {n : Nat} {m : Int} {f : Nat → Nat} {t : Nat → Int} (hn : n ≤ 10) (hf : ∀ a, f a < 65536) (ht : Nms t) :
    Calls Try.prog 57 #[.agg (arC n f), .agg (nmC t), .int .i64 m] w (fun e w' => e = .returned (.agg (arC m (att (mapX t (glK f n))))) ∧ Below w.heap.size w w') := by
  obtain ⟨W3, hW3, b0, b1, b2, hb3, hs3⟩ := three_blocks w (arC n f) (nmC t) (arC 0 fun _ => 0) 60 80 60
  obtain ⟨W4, W5, hW4, hW5, c4, c5, hb5, hs5⟩ := new_rows W3 m fun _ => 0
  have d0 := b0.new hb5
  have d1 := b1.new hb5
  have d2 := b2.new hb5
  have hb6 := hb3.trans (hb5.mono hb3.size)
  rw [← arC_lit 0] at hW3 hW4
  rw [hs3] at c4 c5 hW5
  have HX := Lib.hid hW5
  have HT := Lib.hid ht
  have HS5 := Lib.hid (show W5.heap.size = w.heap.size + 4 by omega)
  have E0 := d0.at_ (k := 0) (v := .int .i64 n) rfl
  clear hW5 hs5 b0 b1 b2 hb3 hb5 ht
  go_enter Try.func57, Try.ntmps57
  go_wp2_with (first | (refine stAR (n := m) (f := fun _ => 0) rfl (.tmp 7) (.tmp 12) rfl c4 rfl rfl rfl ?_; rw [HX.out]))
  clear hW3 hW4 c4 HX
  generalize hg : w.heap.size = g at *
  go_loopw [15] (fun i wr => ∃ k : Nat, k ≤ n ∧ i = .int .i64 k ∧ Bx wr (g + 3) 60 (arC m (att (mapX t (glK f k)))) ∧ Out (g + 3) (g + 4) W5 wr) (fun i _ => n - (intOf i).toNat)
  case atStart => exact ⟨0, Nat.zero_le _, rfl, c5, Out.refl⟩
  case round =>
    obtain ⟨k, hk, rfl, hbk, hou⟩ := hrel
    have hs5 := HS5.out
    have hsw := hou.size
    have e0 := d0.out hou (.inl (by omega))
    have e1 := d1.out hou (.inl (by omega))
    have e2 := d2.out hou (.inl (by omega))
    clear c5 d0 d1 d2 E0
    by_cases hlt : k < n
    · have hk10 : k < 10 := by omega
      have ck := e0.at_ (arC_at n f (a := k) hk10)
      have hfk := hf k
      have i1 : (0 : Int) ≤ (k : Int) := by omega
      have i2 : (k : Int) < 10 := by omega
      have HB := Lib.hid hbk
      have HG := Lib.hid (glK_succ f k)
      have HP := Lib.hid (glK_prs f k (by omega))
      have HPR := Lib.hid (rowL_prs f hk10)
      clear hbk
      go_wp2_with fail
      refine (list_any hfk).mono ?_
      rintro e w4 ⟨l, rfl, hrow, hb4⟩
      have HLL := Lib.hid (lsT_len (f k) 10)
      have HRL := Lib.hid (fun (j : Nat) (z : Int) => rowL_take f k (j := j) (z := z))
      have HLM := Lib.hid (fun z => (lsT_mem (f k) 10 z).1)
      have HRN : Hid ((rowL f k).length = (lsT (f k) 10).length) := Lib.hid (by unfold rowL; rw [List.length_map])
      obtain ⟨zs, hzs⟩ : ∃ zs, zs = lsT (f k) 10 := ⟨_, rfl⟩
      rw [← hzs] at hrow HLL HLM HRL HRN
      obtain ⟨Al, cl, rfl, _, _, _⟩ := hrow.rd (n := zs.length) (ivs_len zs)
      have HRW := Lib.hid hrow
      have hs4 := hb4.size
      have bk4 := HB.out.new hb4
      have n0 := e0.new hb4
      have n1 := e1.new hb4
      have n2 := e2.new hb4
      have hou4 := hou.trans (Out.of_below hb4)
      clear hzs hrow ck e0 e1 e2 hou
      go_wp2_with fail
      go_loopw [24] (fun i wr => ∃ j : Nat, j ≤ zs.length ∧ i = .int .i64 j ∧ Bx wr (g + 3) 60 (arC m (att (mapX t (glK f k ++ (rowL f k).take j)))) ∧ Out (g + 3) (g + 4) w4 wr) (fun i _ => zs.length - (intOf i).toNat)
      case atStart => exact ⟨0, Nat.zero_le _, rfl, by simpa using bk4, Out.refl⟩
      case round =>
        obtain ⟨j, hj, rfl, hbj, ho4⟩ := hrel
        have hsz := ho4.size
        have m0 := n0.out ho4 (.inl (by omega))
        have m1 := n1.out ho4 (.inl (by omega))
        have m2 := n2.out ho4 (.inl (by omega))
        clear bk4 n0 n1 n2
        by_cases hjt : j < zs.length
        · obtain ⟨ad, rfl, _, hc⟩ := ivs_at (HRW.out.out ho4 (.inr (by omega))).rd' hjt
          obtain ⟨b, hb10, _, hbz⟩ := HLM.out zs[j] (List.getElem_mem hjt)
          rw [← hbz] at hc
          have HJ := Lib.hid (HRL.out j b hjt hbz.symm)
          have HPX : Hid (Prs 10 (glK f k ++ (rowL f k).take j)) := Lib.hid (prs_app HP.out fun x hx => HPR.out x (List.mem_of_mem_take hx))
          obtain ⟨X, hX⟩ : ∃ X, X = glK f k ++ (rowL f k).take j := ⟨_, rfl⟩
          have HXj : Hid (glK f k ++ (rowL f k).take (j + 1) = X ++ [[(k : Int), (b : Int)]]) := Lib.hid (by rw [HJ.out, ← List.append_assoc, ← hX])
          rw [← hX] at hbj HPX
          have hat := att_lt16 (mapX_prs HT.out HPX.out)
          have hzl := HLL.out
          have j0 : (0 : Int) ≤ (j : Int) := by omega
          have b0 : (0 : Int) ≤ (b : Int) := by omega
          have b1 : (b : Int) < 10 := by omega
          have ta := m1.at_ (nmC_at t hk10)
          have tb := m1.at_ (nmC_at t hb10)
          have HTa := Lib.hid (HT.out k hk10)
          have HTb := Lib.hid (HT.out b hb10)
          clear hbz hX HJ hat
          by_cases h1 : t k = -1
          · have HN := Lib.hid (mapX_no (t := t) X (x := [(k : Int), (b : Int)]) (by unfold keepX; simp [h1]))
            have h1' : (t k != -1) = false := by simp [h1]
            have h1'' : (t k == -1) = true := by simp [h1]
            rw [h1] at ta
            clear h1 h1' h1''
            go_wp2_with fail
            go_roundw
            case rel => exact ⟨j + 1, by omega, by go_num, by rw [HXj.out, HN.out]; exact hbj, ho4⟩
            case measure => simp [intOf]; omega
          · obtain ⟨p, hp⟩ : ∃ p : Nat, t k = p := by
              rcases HTa.out with h | h
              · exact absurd h h1
              · exact ⟨(t k).toNat, by omega⟩
            have hp10 : p < 10 := by have := HTa.out; omega
            rw [hp] at ta
            have hpn : ((p : Int) != -1) = true := by simp
            by_cases h2 : t b = -1
            · have HN := Lib.hid (mapX_no (t := t) X (x := [(k : Int), (b : Int)]) (by unfold keepX; simp [h2]))
              rw [h2] at tb
              clear h1 h2
              go_wp2_with fail
              go_roundw
              case rel => exact ⟨j + 1, by omega, by go_num, by rw [HXj.out, HN.out]; exact hbj, ho4⟩
              case measure => simp [intOf]; omega
            · obtain ⟨q, hq⟩ : ∃ q : Nat, t b = q := by
                rcases HTb.out with h | h
                · exact absurd h h2
                · exact ⟨(t b).toNat, by omega⟩
              have hq10 : q < 10 := by have := HTb.out; omega
              rw [hq] at tb
              have hqn : ((q : Int) != -1) = true := by simp
              have HN := Lib.hid (show att (mapX t (X ++ [[(k : Int), (b : Int)]])) = upd (att (mapX t X)) p q by
                rw [mapX_yes X (by unfold keepX; simp [hp, hq]), att_snoc]
                unfold namX
                simp [hp, hq])
              have hat := att_lt16 (mapX_prs HT.out HPX.out) p
              obtain ⟨F, hF⟩ : ∃ F, F = att (mapX t X) := ⟨_, rfl⟩
              rw [← hF] at hbj HN hat
              obtain ⟨c0, c1, c2, c3, c4, c5, c6, c7, c8, c9, c10⟩ := hbj.eleven
              have HBJ := Lib.hid hbj
              clear h1 h2 hp hq hF hbj
              go_wp2_with fail
              go_region_law (first | (go_simp; go_at_call 38; refine (withAttack_any (n := m) (f := F) (a := p) (b := q) hp10 hq10 hat).mono ?_; rintro e w9 ⟨rfl, hb9⟩; obtain ⟨cs2, hcs2⟩ : ∃ cs2, cs2 = arC m (upd F p q) := ⟨_, rfl⟩; rw [← hcs2]; have hz2 : cs2.size = 11 := (by rw [hcs2]; rfl); have hst := (HBJ.out.drew_.new hb9).store (P := Try.prog) (cs' := cs2) (by rw [hcs2]; rfl) (by rw [hcs2]; exact arC_one _ _); have HS2 := Lib.hid hcs2; clear hcs2))
              all_goals
                have hbx9 := (HBJ.out.drew_.new hb9).setRow cs2
                have ho9 : Out (g + 3) (g + 4) w4 (w9.setRow (g + 3) cs2) := ((ho4.drewN 1).trans (Out.of_below hb9)).trans (setRow_out w9 (g + 3) cs2 (Nat.le_refl _) (Nat.lt_succ_self _))
                go_wp2_with fail
                go_roundw
                case rel => exact ⟨j + 1, by omega, by go_num, by rw [HXj.out, HN.out, ← HS2.out]; exact hbx9, ho9⟩
                case measure => simp [intOf]; omega
        · have e : j = zs.length := by omega
          subst e
          have HE : Hid (glK f k ++ (rowL f k).take zs.length = glK f (k + 1)) := Lib.hid (by rw [HG.out, List.take_of_length_le (by rw [HRN.out]; exact Nat.le_refl _)])
          rw [HE.out] at hbj
          have hfin := hou4.trans ho4
          go_wp2_with fail
          go_roundw
          case rel => exact ⟨k + 1, by omega, by go_num, hbj, hfin⟩
          case measure => simp [intOf]; omega
    · have e : k = n := by omega
      subst e
      obtain ⟨F, hF⟩ : ∃ F, F = att (mapX t (glK f k)) := ⟨_, rfl⟩
      rw [← hF] at hbk
      have HF := Lib.hid hF
      clear hF
      go_wp2_with (first | (refine ldAR rfl (.tmp 7) rfl hbk rfl rfl ?_) | (refine stAR rfl (.tmp 6) (.tmp 48) rfl e2 rfl rfl rfl ?_))
      refine bodyPost_ret (resAR rfl (e2.setRow (arC m F)) rfl rfl) rfl ⟨by rw [HF.out], ?_⟩
      exact hg ▸ ((hb6.trans (hou.below (by omega) (by omega))).trans ((setRow_out _ (g + 2) (arC m F) (Nat.le_refl _) (Nat.lt_succ_self _)).below (by omega) (by omega)))
end Go.Proofs.Ytncndlojceiejaa
