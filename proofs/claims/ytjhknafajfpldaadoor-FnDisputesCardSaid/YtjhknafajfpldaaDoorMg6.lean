/- Contract of the code's rowsOf. No conditions but that the slices have at most 2^40 elements. -/
import Derived.Test.YtjhknafajfpldaaDoorMg5
import Derived.Test.YtjhknafajfpldaaDoorMg2
import Derived.Test.YtjhknafajfpldaaDoorMg3
namespace Go.Proofs.YtjhknafajfpldaaDoor
open Go.ChangeShapes Go.WideShapes Go.ChangeAt Go.RowKit
theorem arC_lit (n : Int) : #[Value.int .i64 n, .int .u16 0, .int .u16 0, .int .u16 0, .int .u16 0, .int .u16 0, .int .u16 0, .int .u16 0, .int .u16 0, .int .u16 0, .int .u16 0] = arC n fun _ => 0 := rfl
theorem Bx.eleven {w : World} {g : Nat} {t : TypeId} {n : Int} {f : Nat → Nat} (h : Bx w g t (arC n f)) :
    w.cell? ⟨g, 0, none⟩ = some (.int .i64 n) ∧ w.cell? ⟨g, 1, none⟩ = some (.int .u16 (f 0 : Nat)) ∧ w.cell? ⟨g, 2, none⟩ = some (.int .u16 (f 1 : Nat)) ∧ w.cell? ⟨g, 3, none⟩ = some (.int .u16 (f 2 : Nat)) ∧ w.cell? ⟨g, 4, none⟩ = some (.int .u16 (f 3 : Nat)) ∧ w.cell? ⟨g, 5, none⟩ = some (.int .u16 (f 4 : Nat)) ∧ w.cell? ⟨g, 6, none⟩ = some (.int .u16 (f 5 : Nat)) ∧ w.cell? ⟨g, 7, none⟩ = some (.int .u16 (f 6 : Nat)) ∧ w.cell? ⟨g, 8, none⟩ = some (.int .u16 (f 7 : Nat)) ∧ w.cell? ⟨g, 9, none⟩ = some (.int .u16 (f 8 : Nat)) ∧ w.cell? ⟨g, 10, none⟩ = some (.int .u16 (f 9 : Nat)) :=
  ⟨h.at_ rfl, h.at_ rfl, h.at_ rfl, h.at_ rfl, h.at_ rfl, h.at_ rfl, h.at_ rfl, h.at_ rfl, h.at_ rfl, h.at_ rfl, h.at_ rfl⟩
theorem att_take {X : List (List Int)} {k : Nat} (hk : k < X.length) {p q : Nat} (hx : X[k] = [(p : Int), (q : Int)]) : att (X.take (k + 1)) = upd (att (X.take k)) p q := by
  rw [List.take_succ_eq_append_getElem hk, att_snoc, hx]; simp
set_option maxHeartbeats 8000000 in
set_option maxRecDepth 100000 in
theorem rowsOf_any {w : World} {A : Option Addr} {n c : Nat} {N : Int} {X : List (List Int)} (hl : Hid (X.length = n)) (hn : n ≤ 1099511627776) (hr : RdSS w w.heap.size A X) :
    Calls Tryd.prog 23 #[.agg #[.int .i64 N, .slice A n c]] w (fun e w' => e = .returned (.agg (arC (rn N X) (rf N X))) ∧ Below w.heap.size w w') := by
  have hb1 : Below w.heap.size w (w.alloc (Obj.cells #[Value.int IntKind.i64 N, Value.slice A n c] 26)) := (Below.refl _ _).alloc (Nat.le_refl _) _
  have bx1 := Bx.made w 26 #[Value.int IntKind.i64 N, Value.slice A n c]
  obtain ⟨Wa, hWa⟩ : ∃ u : World, u = w.alloc (Obj.cells #[Value.int IntKind.i64 N, Value.slice A n c] 26) := ⟨_, rfl⟩
  have hsa : Wa.heap.size = w.heap.size + 1 := by rw [hWa]; simp
  rw [← hWa] at hb1 bx1
  have hb2 : Below w.heap.size w (Wa.alloc (Obj.cells (arC 0 fun _ => 0) 49)) := hb1.alloc (by rw [hsa]; omega) _
  have bx2 := Bx.made Wa 49 (arC 0 fun _ => 0)
  have bx1' := bx1.new ((Below.refl Wa.heap.size Wa).alloc (Nat.le_refl _) (Obj.cells (arC 0 fun _ => 0) 49))
  obtain ⟨W2, hW2⟩ : ∃ u : World, u = Wa.alloc (Obj.cells (arC 0 fun _ => 0) 49) := ⟨_, rfl⟩
  have hs2 : W2.heap.size = w.heap.size + 2 := by rw [hW2]; simp [hsa]
  rw [← hW2] at hb2 bx2 bx1'
  rw [hsa] at bx2
  have hr2 := (hr.below hb2).more hb2.size
  obtain ⟨C0, C1⟩ := bx1'.two
  have hWe : (w.alloc (Obj.cells #[Value.int IntKind.i64 N, Value.slice A n c] 26)).alloc (Obj.cells (arC 0 fun _ => 0) 49) = W2 := by rw [hW2, hWa]
  have HR := Lib.hid hr
  clear bx1 hW2 hWa hb1 hr
  by_cases hg : gB N X = true
  case neg =>
    have hg' : gB N X = false := by simpa using hg
    have HG := Lib.hid hg'
    have HV := Lib.hid (show arC (rn N X) (rf N X) = arC 0 fun _ => 0 by unfold rn rf; rw [hg']; rfl)
    clear hg hg'
    have HW := Lib.hid hWe
    clear hWe
    go_enter Tryd.func23, Tryd.ntmps23
    go_wp2_with fail
    rw [arC_zero, HW.out]
    refine (impIsGraph_any (N := N) (X := X) (c := c) hl hn hr2).mono ?_
    rintro e w3 ⟨rfl, hb3⟩
    rw [HG.out]
    have bx3 := bx2.new hb3
    have hb4 := hb2.trans (hb3.mono hb2.size)
    go_wp2_with (first | (refine stAR (n := 0) (f := fun _ => 0) rfl (.tmp 2) (.tmp 9) rfl bx3 rfl rfl rfl ?_))
    refine bodyPost_ret (resAR rfl (bx3.setRow (arC 0 fun _ => 0)) rfl rfl) rfl ⟨by rw [HV.out], hb4.trans ((setRow_out w3 _ _ (Nat.le_refl _) (Nat.lt_succ_self _)).below (by omega) (by have := hb3.size; omega))⟩
  case pos =>
    obtain ⟨nn, rfl, hn10, hP, hA⟩ := gB_ok hg
    have HG := Lib.hid hg
    have HV := Lib.hid (show arC (rn nn X) (rf nn X) = arC nn (att X) by unfold rn rf; rw [hg]; rfl)
    have HP := Lib.hid hP
    clear hg hA hP
    have HW := Lib.hid hWe
    clear hWe
    go_enter Tryd.func23, Tryd.ntmps23
    go_wp2_with fail
    rw [arC_zero, HW.out]
    refine (impIsGraph_any (N := nn) (X := X) (c := c) hl hn hr2).mono ?_
    rintro e w3 ⟨rfl, hb3⟩
    rw [HG.out]
    have bx3 := bx2.new hb3
    have hb4 := hb2.trans (hb3.mono hb2.size)
    obtain ⟨D0, D1⟩ := (bx1'.new hb3).two
    have hs3 := hb3.size
    have hb5 : Below w.heap.size w (w3.alloc (Obj.cells (arC 0 fun _ => 0) 49)) := hb4.alloc (by omega) _
    have k5 := (Below.refl w3.heap.size w3).alloc (Nat.le_refl _) (Obj.cells (arC 0 fun _ => 0) 49)
    have bx5 := bx3.new k5
    have bx6 := Bx.made w3 49 (arC 0 fun _ => 0)
    have bx7 := ((bx1'.new hb3).new k5)
    clear k5
    obtain ⟨W4, hW4⟩ : ∃ u : World, u = w3.alloc (Obj.cells (arC 0 fun _ => 0) 49) := ⟨_, rfl⟩
    have hs4 : W4.heap.size = w3.heap.size + 1 := by rw [hW4]; simp
    rw [← hW4] at hb5 bx5 bx6 bx7
    rw [← arC_lit 0] at hW4
    have hW4' := hW4.symm
    have o5 := setRow_out W4 w3.heap.size (arC nn fun _ => 0) (Nat.le_refl _) (Nat.lt_succ_self _)
    have hb6 : Below w.heap.size w _ := hb5.trans (o5.below (by omega) (by omega))
    have bx8 := bx6.setRow (arC nn fun _ => 0)
    have bx9 := bx5.out o5 (.inl (by omega))
    have bx10 := bx7.out o5 (.inl (by omega))
    obtain ⟨W5, hW5⟩ : ∃ u : World, u = W4.setRow w3.heap.size (arC nn fun _ => 0) := ⟨_, rfl⟩
    rw [← hW5] at o5 hb6 bx8 bx9 bx10
    have HX := Lib.hid hW5.symm
    obtain ⟨E0, E1⟩ := bx10.two
    have hs5 := o5.size
    clear hW4 hW5 bx3 bx5 bx7 bx10 o5
    go_wp2_with (first | (refine stAR (n := nn) (f := fun _ => 0) rfl (.tmp 3) (.tmp 12) rfl bx6 rfl rfl rfl ?_; rw [HX.out]))
    have hr5 := (HR.out.below hb6)
    generalize hgg : w3.heap.size = g at *
    have hP := HP.out
    clear hr2 hb2 hb4 hb5 D0 D1 C0 C1 bx1' bx2 bx6
    go_loopw [16] (fun i wr => ∃ k : Nat, k ≤ n ∧ i = .int .i64 k ∧ Bx wr g 49 (arC nn (att (X.take k))) ∧ Out g (g + 1) W5 wr) (fun i _ => n - (intOf i).toNat)
    case atStart => exact ⟨0, Nat.zero_le _, rfl, bx8, Out.refl⟩
    case round =>
      obtain ⟨k, hk, rfl, hbk, hou⟩ := hrel
      have hbw : Below w.heap.size w _ := hb6.trans (hou.below (by omega) (by omega))
      have hrw := hr5.below (hou.below (by omega) (by omega))
      by_cases hlt : k < n
      · have hkz : k < X.length := by rw [hl.out]; exact hlt
        obtain ⟨ad, Aj, cj, rfl, hab, hc, _, _, hrd⟩ := hrw.at_ hkz
        obtain ⟨p, q, hx, hp, hq⟩ := hP X[k] (List.getElem_mem hkz)
        have HT := Lib.hid (att_take hkz hx)
        have hlt2 := Nat.lt_trans (att_lt hn10 (hP.take k) p) (show 2 ^ 10 < 65536 by decide)
        obtain ⟨f, hf⟩ : ∃ f, f = att (X.take k) := ⟨_, rfl⟩
        rw [← hf] at hbk HT hlt2
        rw [hx] at hc hrd
        rw [show ([(p : Int), (q : Int)] : List Int).length = 2 from rfl] at hc
        obtain ⟨ag, ao, rfl, ha2, e0, e1⟩ := rd2 hrd
        obtain ⟨c0, c1, c2, c3, c4, c5, c6, c7, c8, c9, c10⟩ := hbk.eleven
        have HF := Lib.hid hf
        have HB := Lib.hid hbk
        have i0 : (0 : Int) ≤ (k : Int) := by omega
        have i1 : (k : Int) < (n : Int) := by omega
        clear hbk hx hf hrd
        go_wp2
        go_region_law (first | (go_simp; go_at_call 51; refine (withAttack_any (n := nn) (f := f) (a := p) (b := q) (by omega) (by omega) hlt2).mono ?_; rintro e w9 ⟨rfl, hb9⟩; obtain ⟨cs2, hcs2⟩ : ∃ cs2, cs2 = arC nn (upd f p q) := ⟨_, rfl⟩; rw [← hcs2]; have hz2 : cs2.size = 11 := (by rw [hcs2]; rfl); have hst := (HB.out.drew_.new hb9).store (P := Tryd.prog) (cs' := cs2) (by rw [hcs2]; rfl) (by rw [hcs2]; exact arC_one _ _); have HS2 := Lib.hid hcs2; clear hcs2))
        all_goals
          have hbx9 := (HB.out.drew_.new hb9).setRow cs2
          have ho9 : Out g (g + 1) W5 (w9.setRow g cs2) := ((hou.drewN 1).trans (Out.of_below hb9)).trans (setRow_out w9 g cs2 (Nat.le_refl _) (Nat.lt_succ_self _))
          go_wp2
          go_roundw
          case rel => exact ⟨k + 1, by omega, by go_num, by rw [HT.out, ← HS2.out]; exact hbx9, ho9⟩
          case measure => simp [intOf]; omega
      · have e : k = n := by omega
        subst e
        rw [List.take_of_length_le (by rw [hl.out]; exact Nat.le_refl _)] at hbk
        have bxr := bx9.out hou (.inl (by omega))
        obtain ⟨f, hf⟩ : ∃ f, f = att X := ⟨_, rfl⟩
        rw [← hf] at hbk HV
        clear hf
        go_wp2_with (first | (refine ldAR rfl (.tmp 3) rfl hbk rfl rfl ?_) | (refine stAR rfl (.tmp 2) (.tmp 29) rfl bxr rfl rfl rfl ?_))
        refine bodyPost_ret (resAR rfl (bxr.setRow (arC nn f)) rfl rfl) rfl ⟨by rw [HV.out], hbw.trans ((setRow_out _ _ _ (Nat.le_refl _) (Nat.lt_succ_self _)).below (by omega) (by have := hou.size; omega))⟩
end Go.Proofs.YtjhknafajfpldaaDoor

/- Appending one list of integers to a list of lists: as an operation of a stretch and as a step of a region that draws. -/
namespace Go.Proofs.YtjhknafajfpldaaDoor
open Go.ChangeShapes Go.WideShapes Go.ChangeAt Go.RowKit
section
variable {w : World} {ops : Array Oper} {rest : List Oper} {o : Oper} {a : Act} {Q : Exit → Act → World → Prop}
theorem row_cell {lo hi : Nat} {u : Value} {zs : List Int} (h : Row w lo hi 3 u (ivs zs)) : u.oneCell' = true := by
  obtain ⟨A, c, rfl, _⟩ := h.rd rfl
  rfl
theorem run_appSS (ty : TypeId) {L M lo hi B c : Nat} {v u : Value} {X : List (List Int)} {x : List Int} {ad : Addr} (h : OwnSS w L M v X) (hx : Row w lo hi 3 u (ivs x)) (hr : Rd w B (some ad) [u]) (hd : M ≤ lo) (hLM : L ≤ M) (hn : X.length + 1 ≤ 1099511627777) (hL : L ≤ w.heap.size) :
    ∃ v' w', (Builtin.append_ #[24, 24] ty #[v, .slice (some ad) 1 c]).run Tryd.prog w = .ok v' w' ∧ OwnSS w' L w'.heap.size v' (X ++ [x]) ∧ Below L w w' := by
  obtain ⟨i0, hi0, hz0, hz1, hz2⟩ := info_parts IntSS_info
  obtain ⟨F, k1, k2, k3⟩ := Row.owns hx
  exact run_appR (R := IntsR .i64 3) (e := 27) (size := 1) (x := x) (us := [u]) (M' := hi) (IntsR.frames _ _) 24 ty i0 _ 24 Tryd.underlying24 hi0 hz0 hz1 hz2 rfl (by omega) h ⟨F, k1, k2, fun b hb => ⟨by have := (k3 b hb).1; omega, (k3 b hb).2⟩⟩ rfl hr (by simp [row_cell hx]) hLM (by unfold maxLen; omega) (by omega) hL
theorem wpList_appSS (hgd : o.guard = none) (s y : Operand) (ho : o.op = .call { callee := .builtin .append, args := #[s, y], argTypes := #[24, 24] })
    {L M lo hi B c : Nat} {v u : Value} {X : List (List Int)} {x : List Int} {ad : Addr} (hs : a.eval s = v) (hy : a.eval y = .slice (some ad) 1 c) (h : OwnSS w L M v X) (hx : Row w lo hi 3 u (ivs x)) (hr : Rd w B (some ad) [u]) (hd : M ≤ lo) (hLM : L ≤ M) (hn : X.length + 1 ≤ 1099511627777) (hL : L ≤ w.heap.size)
    (K : ∀ v' w', OwnSS w' L w'.heap.size v' (X ++ [x]) → Below L w w' → wpList Tryd.prog ops Q rest (a.put o.dst v') w') : wpList Tryd.prog ops Q (o :: rest) a w := by
  obtain ⟨v', w', hrun, h2, h3⟩ := run_appSS o.type (c := c) h hx hr hd hLM hn hL
  refine wpList_plain hgd fun K' hK' => ?_
  unfold Oper.wp
  simp [execOp, ho, resolve, invoke, builtin, hs, hy, hrun, Result.andThen]
  exact hK' _ _ (K v' w' h2 h3)
theorem step_appSS {K : Act → World → Prop} {E : Prop} (hgd : o.guard = none) (s y : Operand) (ho : o.op = .call { callee := .builtin .append, args := #[s, y], argTypes := #[24, 24] })
    {L M lo hi B c : Nat} {v u : Value} {X : List (List Int)} {x : List Int} {ad : Addr} (hs : a.eval s = v) (hy : a.eval y = .slice (some ad) 1 c) (h : OwnSS w L M v X) (hx : Row w lo hi 3 u (ivs x)) (hr : Rd w B (some ad) [u]) (hd : M ≤ lo) (hLM : L ≤ M) (hn : X.length + 1 ≤ 1099511627777) (hL : L ≤ w.heap.size)
    (hK : ∀ v' w', OwnSS w' L w'.heap.size v' (X ++ [x]) → Below L w w' → K (a.put o.dst v') w') : if Region.wanted o (yielded ops a.tmps) = true then Oper.wp Tryd.prog o a w K Q else E := by
  obtain ⟨v', w', hrun, h2, h3⟩ := run_appSS o.type (c := c) h hx hr hd hLM hn hL
  have hw : Region.wanted o (yielded ops a.tmps) = true := by simp [Region.wanted, hgd]
  rw [if_pos hw]
  unfold Oper.wp
  simp [execOp, ho, resolve, invoke, builtin, hs, hy, hrun, Result.andThen]
  exact hK v' w' h2 h3
end
section
variable {w0 w1 w2 : World} {L : Nat} {a b c : Addr} {u v x : Value}
theorem cell_below (h : w1.cell? a = some v) (hb : Below L w1 w2) (hl : a.block < L) : w2.cell? a = some v := (World.cell?_of_block (hb.block _ hl)).trans h
/-- One cell, or three, below L, and all memory below L as it was. -/
def H1 (L : Nat) (a : Addr) (v : Value) (w0 w : World) : Prop := w.cell? a = some v ∧ Below L w0 w
theorem h1_to (h : w1.cell? a = some v ∧ Below L w0 w1) (hl : a.block < L) (hb : Below L w1 w2) : w2.cell? a = some v ∧ Below L w0 w2 := ⟨cell_below h.1 hb hl, h.2.trans hb⟩
theorem h1_drew (h : w1.cell? a = some v ∧ Below L w0 w1) : w1.drew.cell? a = some v ∧ Below L w0 w1.drew := ⟨h.1, h.2.drew⟩
theorem h1_alloc (h : w1.cell? a = some v ∧ Below L w0 w1) (hl : a.block < L) (hL : L ≤ w0.heap.size) (o : Obj) : (w1.alloc o).cell? a = some v ∧ Below L w0 (w1.alloc o) :=
  h1_to h hl ((Below.refl _ _).alloc (Nat.le_trans hL h.2.size) o)
theorem h2_to (h : w1.cell? a = some u ∧ w1.cell? b = some v ∧ Below L w0 w1) (ha : a.block < L) (hb : b.block < L) (h2 : Below L w1 w2) : w2.cell? a = some u ∧ w2.cell? b = some v ∧ Below L w0 w2 :=
  ⟨cell_below h.1 h2 ha, cell_below h.2.1 h2 hb, h.2.2.trans h2⟩
theorem h2_drew (h : w1.cell? a = some u ∧ w1.cell? b = some v ∧ Below L w0 w1) : w1.drew.cell? a = some u ∧ w1.drew.cell? b = some v ∧ Below L w0 w1.drew := ⟨h.1, h.2.1, h.2.2.drew⟩
theorem h2_alloc (h : w1.cell? a = some u ∧ w1.cell? b = some v ∧ Below L w0 w1) (ha : a.block < L) (hb : b.block < L) (hL : L ≤ w0.heap.size) (o : Obj) : (w1.alloc o).cell? a = some u ∧ (w1.alloc o).cell? b = some v ∧ Below L w0 (w1.alloc o) :=
  h2_to h ha hb ((Below.refl _ _).alloc (Nat.le_trans hL h.2.2.size) o)
theorem h2_set (h : w1.cell? a = some u ∧ w1.cell? b = some v ∧ Below L w0 w1) (ha : a.block < L) (hb : b.block < L) {p : Addr} (hp : L ≤ p.block) (x : Value) : (w1.setCell p x).cell? a = some u ∧ (w1.setCell p x).cell? b = some v ∧ Below L w0 (w1.setCell p x) :=
  h2_to h ha hb ((Below.refl _ _).setCell hp x)
theorem h3_to (h : w1.cell? a = some u ∧ w1.cell? b = some v ∧ w1.cell? c = some x ∧ Below L w0 w1) (ha : a.block < L) (hb : b.block < L) (hc : c.block < L) (h2 : Below L w1 w2) : w2.cell? a = some u ∧ w2.cell? b = some v ∧ w2.cell? c = some x ∧ Below L w0 w2 :=
  ⟨cell_below h.1 h2 ha, cell_below h.2.1 h2 hb, cell_below h.2.2.1 h2 hc, h.2.2.2.trans h2⟩
theorem h3_drew (h : w1.cell? a = some u ∧ w1.cell? b = some v ∧ w1.cell? c = some x ∧ Below L w0 w1) : w1.drew.cell? a = some u ∧ w1.drew.cell? b = some v ∧ w1.drew.cell? c = some x ∧ Below L w0 w1.drew := ⟨h.1, h.2.1, h.2.2.1, h.2.2.2.drew⟩
theorem h3_alloc (h : w1.cell? a = some u ∧ w1.cell? b = some v ∧ w1.cell? c = some x ∧ Below L w0 w1) (ha : a.block < L) (hb : b.block < L) (hc : c.block < L) (hL : L ≤ w0.heap.size) (o : Obj) : (w1.alloc o).cell? a = some u ∧ (w1.alloc o).cell? b = some v ∧ (w1.alloc o).cell? c = some x ∧ Below L w0 (w1.alloc o) :=
  h3_to h ha hb hc ((Below.refl _ _).alloc (Nat.le_trans hL h.2.2.2.size) o)
end
end Go.Proofs.YtjhknafajfpldaaDoor
