/- Contracts of the draws of graphs: l4Any, l4Set. Condition: as for the cursor's own functions. -/
import Derived.Test.YtjhknafajfpldaaDoorDrawG
import Derived.Test.YtjhknafajfpldaaDoorMg3
namespace Go.Proofs.YtjhknafajfpldaaDoor
open Go.ChangeShapes Go.WideShapes Go.ChangeAt Go.RowKit
set_option maxRecDepth 100000
theorem own_ty {w : World} {lo n b : Nat} {t : TypeId} {v : Value} {xs : List Value} (h : w.ownsRow lo t 1 v n xs) (hb : v.ownBlock = some b) : ∃ cs, w.heap[b]? = some (.cells cs t (0, 0)) := by
  rcases h.2 with ⟨rfl, _⟩ | ⟨g, cap, cur, rfl, _, hg, _⟩
  · simp [Value.ownBlock] at hb
  · have : g = b := by simpa [Value.ownBlock] using hb
    subst this
    exact ⟨cur, hg⟩
/-- The blocks of a list of lists are none of a graph's own. -/
theorem OwnSS.setG {w : World} {lo hi g : Nat} {v : Value} {X : List (List Int)} {cs : Array Value} (h : OwnSS w lo hi v X) (hb : Bx w g 26 cs) (k : Nat) (u : Value) : OwnSS (w.setCell ⟨g, k, none⟩ u) lo hi v X := by
  obtain ⟨F, hrow, hnd, hF⟩ := h
  refine ⟨F, SSR_frames.keep hrow (fun b hbF => heap_setCell_other w ⟨g, k, none⟩ b u (fun e => ?_)), hnd, hF⟩
  have hbg : b = g := e
  subst hbg
  obtain ⟨v0, es, a1, a2, a3, a4, a5, a6, a7⟩ := hrow
  rw [a4, List.mem_append] at hbF
  rcases hbF with hbF | hbF
  · have hv : v0.ownBlock = some b := by
      cases ho : v0.ownBlock with
      | none => rw [ho] at hbF; simp at hbF
      | some z => rw [ho] at hbF; simp at hbF; rw [hbF]
    obtain ⟨cur, hc⟩ := own_ty a3 hv
    rw [hb] at hc
    injection hc with hc
    injection hc with _ ht _
    exact absurd ht (by decide)
  · rw [List.mem_flatMap] at hbF
    obtain ⟨p, hp, hbp⟩ := hbF
    obtain ⟨i, hi, rfl⟩ := List.getElem_of_mem hp
    obtain ⟨u', h1, h2, h3⟩ := a7 i es[i] (X[i]'(by omega)) (List.getElem?_eq_getElem hi) (List.getElem?_eq_getElem (by omega))
    have hv : u'.ownBlock = some b := by
      rw [h3] at hbp
      cases ho : u'.ownBlock with
      | none => rw [ho] at hbp; simp at hbp
      | some z => rw [ho] at hbp; simp at hbp; rw [hbp]
    obtain ⟨cur, hc⟩ := own_ty h2 hv
    rw [hb] at hc
    injection hc with hc
    injection hc with _ ht _
    exact absurd ht (by decide)
theorem step_appSS2 {w : World} {ops : Array Oper} {o : Oper} {a : Act} {Q : Exit → Act → World → Prop} {K : Act → World → Prop} {E : Prop} (hgd : o.guard = none) (s y : Operand) (ho : o.op = .call { callee := .builtin .append, args := #[s, y], argTypes := #[24, 24] })
    {L M lo hi B c : Nat} {v u : Value} {X : List (List Int)} {x : List Int} {ad : Addr} (hs : a.eval s = v) (hy : a.eval y = .slice (some ad) 1 c) (h : OwnSS w L M v X) (hx : Row w lo hi 3 u (ivs x)) (hr : Rd w B (some ad) [u]) (hd : M ≤ lo) (hLM : L ≤ M) (hn : X.length + 1 ≤ 1099511627777) (hL : L ≤ w.heap.size)
    (hK : ∀ v' w', OwnSS w' L w'.heap.size v' (X ++ [x]) → Below L w w' → (∀ b, b < w.heap.size → v.ownBlock ≠ some b → w'.heap[b]? = w.heap[b]?) → K (a.put o.dst v') w') : if Region.wanted o (yielded ops a.tmps) = true then Oper.wp Tryd.prog o a w K Q else E := by
  obtain ⟨v', w', hrun, h2, h3, h4, _⟩ := run_appSS2 o.type (c := c) h hx hr hd hLM hn hL
  have hw : Region.wanted o (yielded ops a.tmps) = true := by simp [Region.wanted, hgd]
  rw [if_pos hw]
  unfold Oper.wp
  simp [execOp, ho, resolve, invoke, builtin, hs, hy, hrun, Result.andThen]
  exact hK v' w' h2 h3 h4
theorem OwnSS.own_lt {w : World} {lo hi b : Nat} {v : Value} {X : List (List Int)} (h : OwnSS w lo hi v X) (hb : v.ownBlock = some b) : b < hi := by
  obtain ⟨F, ⟨v0, es, a1, a2, a3, a4, _⟩, _, hF⟩ := h
  have hvv : v = v0 := by simpa using a1
  subst hvv
  exact (hF b (by rw [a4, hb]; simp)).2
set_option maxHeartbeats 8000000 in
theorem any4_any {w : World} {B : Nat} {A : Option Addr} {n c : Nat} (h : Cur w B A n c) :
    Calls Tryd.prog 40 #[.pointer (some ⟨B, 0, none⟩)] w (DrewG (fun _ => True) 10 B A n c w) := by
  obtain ⟨i0, hi, hz0, hz1, hz2⟩ := info_parts IntS_info
  have hB := h.lt
  have bx0 := Bx.made w 26 #[Value.int .i64 0, .slice none 0 0]
  have hg0 : w.grownBy (w.alloc (Obj.cells #[Value.int .i64 0, .slice none 0 0] 26)) (some B) := only_alloc (only_refl w _) _
  have cur0 := h.alloc (Obj.cells #[Value.int .i64 0, .slice none 0 0] 26)
  have hs0 : (w.alloc (Obj.cells #[Value.int .i64 0, .slice none 0 0] 26)).heap.size = w.heap.size + 1 := by simp
  go_enter Tryd.func40, Tryd.ntmps40
  go_wp2_with fail
  refine (draw4_any cur0).mono ?_
  rintro e w1 ⟨N, X, v, _, hok, rfl, hown1, hg1, cur1⟩
  rw [hs0] at hown1
  obtain ⟨Av, cv, rfl, _, _, _⟩ := hown1.rd (n := X.length) rfl
  have hsz1 : w.heap.size + 1 ≤ w1.heap.size := by have := hg1.size; rw [hs0] at this; exact this
  have br1 := bx0.only hg1 (by omega)
  have hgw1 := only_trans hg0 hg1
  have k2 : Below w1.heap.size w1 (w1.alloc (Obj.cells #[Value.int .i64 N, .slice Av X.length cv] 26)) := (Below.refl _ _).alloc (Nat.le_refl _) _
  have br2 := br1.new k2
  have bg2 := Bx.made w1 26 #[Value.int .i64 N, .slice Av X.length cv]
  have ho2 := hown1.new k2
  have cur2 := cur1.below k2
  have hgw2 := only_alloc hgw1 (Obj.cells #[Value.int .i64 N, .slice Av X.length cv] 26)
  have hs2 : (w1.alloc (Obj.cells #[Value.int .i64 N, .slice Av X.length cv] 26)).heap.size = w1.heap.size + 1 := by simp
  clear bx0 hg0 cur0 br1 cur1 hg1 k2
  go_wp2_with fail
  refine (below_any cur2 14 (by omega)).mono ?_
  rintro e w3 ⟨y, ⟨hy0, hy1⟩, rfl, hg3, cur3⟩
  obtain ⟨i, rfl⟩ := Int.eq_ofNat_of_zero_le hy0
  have hsz3 := hg3.size
  rw [hs2] at hsz3
  have br3 := br2.only hg3 (by omega)
  have bg3 := bg2.only hg3 (by omega)
  have ho3 := ho2.only hg3 (by omega)
  have hgw3 := only_trans hgw2 hg3
  obtain ⟨g, hg⟩ : ∃ g, g = w1.heap.size := ⟨_, rfl⟩
  rw [← hg] at bg3 hsz3 hsz1 ho3 ⊢
  clear hg br2 bg2 ho2 cur2 hgw2 hs2 hown1 hgw1 hg3
  obtain ⟨D0, D1⟩ := bg3.two
  have f0 := bg3.free 0
  have HB := Lib.hid bg3
  have HO := Lib.hid ho3
  have HR := Lib.hid br3
  have HC := Lib.hid cur3
  clear bg3 ho3 br3 cur3
  have HOK := Lib.hid hok
  have hfix : w.heap.size ≠ g := by omega
  have HXl := Lib.hid (show X.length + 1 ≤ 1099511627777 by have := hok.1; omega)
  clear hok
  by_cases y0 : i = 0
  · subst y0
    go_wp2_with fail
    refine (raw4_any HC.out).mono ?_
    rintro e w4 ⟨z, _, rfl, hg4, cur4⟩
    have bg4 := HB.out.only hg4 (by omega)
    have br4 := HR.out.only hg4 (by omega)
    have ho4 := HO.out.only hg4 (by omega)
    have hgw4 := only_trans hgw3 hg4
    obtain ⟨E0, E1⟩ := bg4.two
    have f4 := bg4.free 0
    have bg5 : Bx (w4.setCell ⟨g, 0, none⟩ (.int .i64 z)) g 26 #[.int .i64 z, .slice Av X.length cv] := bg4.set 0 (.int .i64 z)
    have br5 := br4.far (p := ⟨g, 0, none⟩) hfix (.int .i64 z)
    have ho5 := ho4.setG bg4 0 (.int .i64 z)
    have hgw5 := only_setnew hgw4 (p := ⟨g, 0, none⟩) (by show w.heap.size ≤ g; omega) (.int .i64 z)
    have cur5 := cur4.below' ((Below.refl g w4).setCell (p := ⟨g, 0, none⟩) (Nat.le_refl _) (.int .i64 z)) (by omega)
    have hz4 := hg4.size
    obtain ⟨G0, G1⟩ := bg5.two
    clear HB HR HO HC D0 D1
    obtain ⟨w5, hw5⟩ : ∃ u : World, u = w4.setCell ⟨g, 0, none⟩ (.int .i64 z) := ⟨_, rfl⟩
    have hw5' := hw5.symm
    have hz5 : w5.heap.size = w4.heap.size := by rw [hw5]; simp
    rw [← hw5] at bg5 br5 ho5 hgw5 cur5 G0 G1
    clear hw5
    go_wp2_with (first | (refine ldGR rfl (.tmp 3) rfl bg5 rfl rfl ?_) | (refine stGR rfl (.tmp 2) (.tmp 33) rfl br5 rfl rfl rfl rfl ?_))
    refine bodyPost_ret (resGR rfl (br5.setRow _) rfl rfl) rfl ⟨z, X, _, trivial, HOK.out.more (by omega), rfl, ?_, ?_, ?_⟩
    · exact (ho5.out (setRow_out w5 _ _ (Nat.le_refl _) (Nat.lt_succ_self _)) (.inr (by omega))).wide (by omega) (by simp [World.setRow]; omega)
    · exact only_row hgw5 (Nat.le_refl _) _
    · exact cur5.below' ((setRow_out w5 w.heap.size _ (Nat.le_refl _) (Nat.lt_succ_self _)).below (Nat.le_refl _) (hgw5).size) hB
  · by_cases y1 : i = 1
    · subst y1
      have hbl1 : Below w3.heap.size w3 (w3.alloc (Obj.cells #[Value.int .i64 0] 3)) := (Below.refl _ _).alloc (Nat.le_refl _) _
      have hbl2 : Below w3.heap.size w3 ((w3.alloc (Obj.cells #[Value.int .i64 0] 3)).alloc (Obj.cells #[Value.slice (some ⟨w3.heap.size, 0, none⟩) 1 1] 27)) := hbl1.alloc hbl1.size _
      have hown2 := HO.out.new hbl2
      have hrow2 := (Row.made (w := w3) w3.heap.size #[Value.int .i64 0] 1 3 (Nat.le_refl _) rfl (by decide)).new ((Below.refl _ _).alloc (Nat.le_refl _) (Obj.cells #[Value.slice (some ⟨w3.heap.size, 0, none⟩) 1 1] 27))
      have hr2 := Rd.made (w3.alloc (Obj.cells #[Value.int .i64 0] 3)) #[Value.slice (some ⟨w3.heap.size, 0, none⟩) 1 1] 27
      rw [show (w3.alloc (Obj.cells #[Value.int .i64 0] 3)).heap.size = w3.heap.size + 1 by simp] at hr2
      have D1q : (w3.alloc (Obj.cells #[Value.int .i64 0] 3)).cell? ⟨g, 1, none⟩ = some (.slice Av X.length cv) := (HB.out.new hbl1).two.2
      have bgb := HB.out.new hbl2
      have brb := HR.out.new hbl2
      have curb := HC.out.below hbl2
      have hgwb := only_then hgw3 (hbl2.mono (by omega))
      have HBQ := Lib.hid hbl2
      obtain ⟨Wb, hWb⟩ : ∃ z : World, z = (w3.alloc (Obj.cells #[Value.int .i64 0] 3)).alloc (Obj.cells #[Value.slice (some ⟨w3.heap.size, 0, none⟩) 1 1] 27) := ⟨_, rfl⟩
      rw [← hWb] at hown2 hrow2 hr2 bgb brb curb hgwb HBQ
      have hWb' := hWb.symm
      have HGZ := Lib.hid (show g < Wb.heap.size from Nat.lt_of_lt_of_le (by omega) HBQ.out.size)
      have HWZ := Lib.hid (show w.heap.size + 1 ≤ Wb.heap.size by have := HGZ.out; omega)
      clear hWb hbl1 hbl2
      go_wp2_with (first | (refine stGR rfl (.tmp 2) (.tmp 33) rfl brS rfl rfl rfl rfl ?_) | (at_builtin; refine wpList_appSS2 (X := X) (x := [0]) (u := .slice (some ⟨w3.heap.size, 0, none⟩) 1 1) (v := .slice Av X.length cv) (L := w.heap.size + 1) (M := g) (lo := w3.heap.size) (hi := w3.heap.size + 1) (c := 1) (ad := ⟨w3.heap.size + 1, 0, none⟩) rfl (.tmp 16) (.tmp 18) rfl rfl rfl hown2 hrow2 hr2 (by omega) hsz1 HXl.out HWZ.out ?_; intro v7 w7 hown7 hbw7 hkp7 hblk7; obtain ⟨A7, c7, rfl, _, _, _⟩ := hown7.rd (n := X.length + 1) (by simp); have bg7 : Bx w7 g 26 #[Value.int .i64 N, .slice Av X.length cv] := (hkp7 g HGZ.out (fun e => Nat.lt_irrefl _ (HO.out.own_lt e))).trans bgb; have c7q := bg7.two.2; have f7 := bg7.free 1; have br7 : Bx w7 w.heap.size 26 #[Value.int .i64 0, .slice none 0 0] := (hbw7.block _ (Nat.lt_succ_self _)).trans brb; have cur7 := curb.below' hbw7 (Nat.lt_succ_of_lt hB); have hgw7 := only_then hgwb (hbw7.mono (Nat.le_succ _)); have bgS : Bx (w7.setCell ⟨g, 1, none⟩ (.slice A7 (X.length + 1) c7)) g 26 #[.int .i64 N, .slice A7 (X.length + 1) c7] := bg7.set 1 _; have brS : Bx (w7.setCell ⟨g, 1, none⟩ (.slice A7 (X.length + 1) c7)) w.heap.size 26 #[Value.int .i64 0, .slice none 0 0] := br7.far (p := ⟨g, 1, none⟩) hfix _; obtain ⟨q80, q81⟩ := bgS.two))
      have ho8 := hown7.setG bg7 1 (.slice A7 (X.length + 1) c7)
      have hgw8 := only_setnew hgw7 (p := ⟨g, 1, none⟩) (by show w.heap.size ≤ g; omega) (.slice A7 (X.length + 1) c7)
      have cur8 := cur7.below' ((Below.refl g w7).setCell (p := ⟨g, 1, none⟩) (Nat.le_refl _) (.slice A7 (X.length + 1) c7)) (by omega)
      have hz7 := HWZ.out
      have hzq := hbw7.size
      refine bodyPost_ret (resGR rfl (brS.setRow _) rfl rfl) rfl ⟨N, X ++ [[0]], _, trivial, HOK.out.snoc (by simp), rfl, ?_, ?_, ?_⟩
      · exact (ho8.out (setRow_out _ _ _ (Nat.le_refl _) (Nat.lt_succ_self _)) (.inr (Nat.le_refl _))).wide (by omega) (by simp [World.setRow])
      · exact only_row hgw8 (Nat.le_refl _) _
      · exact cur8.below' ((setRow_out _ w.heap.size _ (Nat.le_refl _) (Nat.lt_succ_self _)).below (Nat.le_refl _) (hgw8).size) hB
    · by_cases y2 : i = 2
      · subst y2
        go_wp2_with fail
        go_region_law (first
          | (refine step_appSS2 (X := X) (x := [(p : Int), q]) (u := .slice (some ⟨w6.heap.size, 0, none⟩) 2 2) (v := .slice Av X.length cv) (L := w.heap.size + 1) (M := g) (lo := w6.heap.size) (hi := w6.heap.size + 1) (c := 1) (ad := ⟨w6.heap.size + 1, 0, none⟩) rfl (.tmp 24) (.tmp 30) rfl (by simp [Act.eval]) (by simp [Act.eval]) (by exact hown2) (by exact hrow2) (by exact hr2) (by omega) hsz1 HXl.out (by exact HWZ.out) ?_; intro v7 w7 hown7 hbw7 hkp7; obtain ⟨A7, c7, rfl, _, _, _⟩ := hown7.rd (n := X.length + 1) (by simp); have bg7 : Bx w7 g 26 #[Value.int .i64 N, .slice Av X.length cv] := (hkp7 g (by exact HGZ.out) (fun e => Nat.lt_irrefl _ (HO.out.own_lt e))).trans bgb; have c7q := bg7.two.2; have f7 := bg7.free 1; have br7 : Bx w7 w.heap.size 26 #[Value.int .i64 0, .slice none 0 0] := (hbw7.block _ (Nat.lt_succ_self _)).trans brb; have cur7 := curb.below' hbw7 (Nat.lt_succ_of_lt hB); have hgw7 := only_then hgwb (hbw7.mono (Nat.le_succ _)))
          | (go_simp; go_at_call 41; refine (below_any (by exact cur5) 7 (by omega)).mono ?_; rintro e w6 ⟨q, ⟨q0, q1⟩, rfl, hg6, cur6⟩; have bg6 := bg5.only hg6 (by omega); have br6 := br5.only hg6 (by omega); have ho6 := ho5.only hg6 (by omega); have hgw6 := only_trans hgw5 hg6; have hz6 := hg6.size; have F1 := bg6.two.2; have hbl1 : Below w6.heap.size w6 (w6.alloc (Obj.cells #[Value.int .i64 p, .int .i64 q] 3)) := (Below.refl _ _).alloc (Nat.le_refl _) _; have hbl2 : Below w6.heap.size w6 ((w6.alloc (Obj.cells #[Value.int .i64 p, .int .i64 q] 3)).alloc (Obj.cells #[Value.slice (some ⟨w6.heap.size, 0, none⟩) 2 2] 27)) := hbl1.alloc hbl1.size _; have F1a := (bg6.new hbl1).two.2; have F1b := (bg6.new hbl2).two.2; have hown2 := ho6.new hbl2; have hrow2 : Row _ w6.heap.size (w6.heap.size + 1) 3 (.slice (some ⟨w6.heap.size, 0, none⟩) 2 2) (ivs [p, q]) := (Row.made (w := w6) w6.heap.size #[Value.int .i64 p, .int .i64 q] 2 3 (Nat.le_refl _) rfl (by decide)).new ((Below.refl _ _).alloc (Nat.le_refl _) (Obj.cells #[Value.slice (some ⟨w6.heap.size, 0, none⟩) 2 2] 27)); have hr2 := Rd.made (w6.alloc (Obj.cells #[Value.int .i64 p, .int .i64 q] 3)) #[Value.slice (some ⟨w6.heap.size, 0, none⟩) 2 2] 27; (rw [show (w6.alloc (Obj.cells #[Value.int .i64 p, .int .i64 q] 3)).heap.size = w6.heap.size + 1 by simp] at hr2); have bgb := bg6.new hbl2; have brb := br6.new hbl2; have curb := cur6.below hbl2; have hgwb := only_then hgw6 (hbl2.mono (by omega)); have HGZ := Lib.hid (Nat.lt_of_lt_of_le (show g < w6.heap.size by omega) hbl2.size); have HWZ := Lib.hid (Nat.le_trans (show w.heap.size + 1 ≤ w6.heap.size by omega) hbl2.size); clear hbl1 hbl2)
          | (go_simp; go_at_call 41; refine (below_any (HC.out.drew_) 7 (by omega)).mono ?_; rintro e w5 ⟨p, ⟨p0, p1⟩, rfl, hg5, cur5⟩; have bg5 := HB.out.drew_.only hg5 (by omega); have br5 := HR.out.drew_.only hg5 (by omega); have ho5 := (HO.out.new ((Below.refl _ _).drew)).only hg5 (by omega); have hgw5 := only_trans (only_drew hgw3) hg5; have hz5 : w3.heap.size ≤ w5.heap.size := hg5.size; have E1 := bg5.two.2))
        all_goals
          have bgS : Bx (w7.setCell ⟨g, 1, none⟩ (.slice A7 (X.length + 1) c7)) g 26 #[.int .i64 N, .slice A7 (X.length + 1) c7] := bg7.set 1 _
          have brS : Bx (w7.setCell ⟨g, 1, none⟩ (.slice A7 (X.length + 1) c7)) w.heap.size 26 #[Value.int .i64 0, .slice none 0 0] := br7.far (p := ⟨g, 1, none⟩) hfix _
          obtain ⟨q80, q81⟩ := bgS.two
          go_wp2_with (first | (refine stGR rfl (.tmp 2) (.tmp 33) rfl brS rfl rfl rfl rfl ?_))
          have ho8 := hown7.setG bg7 1 (.slice A7 (X.length + 1) c7)
          have hgw8 := only_setnew hgw7 (p := ⟨g, 1, none⟩) (by show w.heap.size ≤ g; omega) (.slice A7 (X.length + 1) c7)
          have cur8 := cur7.below' ((Below.refl g w7).setCell (p := ⟨g, 1, none⟩) (Nat.le_refl _) (.slice A7 (X.length + 1) c7)) (by omega)
          have hz7 := HWZ.out
          have hzq := hbw7.size
          refine bodyPost_ret (resGR rfl (brS.setRow _) rfl rfl) rfl ⟨N, X ++ [[(p : Int), q]], _, trivial, HOK.out.snoc (by simp), rfl, ?_, ?_, ?_⟩
          · exact (ho8.out (setRow_out _ _ _ (Nat.le_refl _) (Nat.lt_succ_self _)) (.inr (Nat.le_refl _))).wide (by omega) (by simp [World.setRow])
          · exact only_row hgw8 (Nat.le_refl _) _
          · exact cur8.below' ((setRow_out _ w.heap.size _ (Nat.le_refl _) (Nat.lt_succ_self _)).below (Nat.le_refl _) (hgw8).size) hB
      · have n0 : ¬ ((i : Int) = 0) := by omega
        have n1 : ¬ ((i : Int) = 1) := by omega
        have n2 : ¬ ((i : Int) = 2) := by omega
        have m0 : ((i : Int) == 0) = false := beq_eq_false_iff_ne.2 n0
        have m1 : ((i : Int) == 1) = false := beq_eq_false_iff_ne.2 n1
        have m2 : ((i : Int) == 2) = false := beq_eq_false_iff_ne.2 n2
        go_wp2_with (first | (refine ldGR rfl (.tmp 3) rfl HB.out rfl rfl ?_) | (refine stGR rfl (.tmp 2) (.tmp 33) rfl HR.out rfl rfl rfl rfl ?_))
        refine bodyPost_ret (resGR rfl (HR.out.setRow _) rfl rfl) rfl ⟨N, X, _, trivial, HOK.out.more (by omega), rfl, ?_, ?_, ?_⟩
        · exact (HO.out.out (setRow_out w3 _ _ (Nat.le_refl _) (Nat.lt_succ_self _)) (.inr (by omega))).wide (by omega) (by simp [World.setRow]; omega)
        · exact only_row hgw3 (Nat.le_refl _) _
        · exact HC.out.below' ((setRow_out w3 w.heap.size _ (Nat.le_refl _) (Nat.lt_succ_self _)).below (Nat.le_refl _) (hgw3).size) hB
end Go.Proofs.YtjhknafajfpldaaDoor
