/- Contract of the code's AddAttack. Condition: the slices have at most 2^40 elements. -/
import Derived.Test.YtncndlojceiejaaRowsOf
import Derived.Test.YtncndlojceiejaaCopyC
import Derived.Test.YtncndlojceiejaaAddMath
import Derived.Test.YtncndlojceiejaaRowEq
import Derived.Laws.ResultCell
namespace Go.Proofs.Ytncndlojceiejaa
open Go.ChangeShapes Go.WideShapes Go.ChangeAt Go.RowKit
set_option maxRecDepth 100000
/-- A graph and a flag are returned; the graph's memory is new. -/
def FreshGB (N : Int) (Y : List (List Int)) (ok : Bool) (w : World) (e : Ending) (w' : World) : Prop :=
  ∃ v, e = .returned (.tuple #[.agg #[.int .i64 N, v], .bool ok]) ∧ OwnSS w' w.heap.size w'.heap.size v Y ∧ Below w.heap.size w w'
theorem resGB {w : World} {fn : Func} {p u : Tmp} {tmps : Array Value} {g : Nat} {cs : Array Value} {x : Value} (h : fn.results = #[.cell p 26, .tmp u]) (hb : Bx w g 26 cs) (hs : cs.size = 2) (hp : tmps.getD p undef = .pointer (some ⟨g, 0, none⟩)) (hu : tmps.getD u undef = x) : (results fn tmps).run Try.prog w = .ok (.tuple #[.agg cs, x]) w := by
  rw [results_cell_tmp h, hp, hu]
  simp [asAddr, run_loadVar_row w g _ _ cs (0, 0) _ hb Try.underlying26 rfl (by rw [GR_info, hs])]
theorem two_graphs (w : World) (c1 c2 : Array Value) (t : TypeId) : ∃ W1 : World, W1 = (w.alloc (Obj.cells c1 t)).alloc (Obj.cells c2 t) ∧ Bx W1 w.heap.size t c1 ∧ Bx W1 (w.heap.size + 1) t c2 ∧ Below w.heap.size w W1 ∧ W1.heap.size = w.heap.size + 2 := by
  have a1 := (Bx.made w t c1).new ((Below.refl _ _).alloc (Nat.le_refl _) (Obj.cells c2 t))
  have a2 := Bx.made (w.alloc (Obj.cells c1 t)) t c2
  exact ⟨_, rfl, a1, by simpa using a2, ((Below.refl _ _).alloc (Nat.le_refl _) _).alloc (by simp) _, by simp⟩
/-- A value is put into a new block for rows. -/
theorem new_rows (w : World) (n : Int) (f : Nat → Nat) : ∃ W4 W5 : World, w.alloc (Obj.cells (arC 0 fun _ => 0) 60) = W4 ∧ W4.setRow w.heap.size (arC n f) = W5 ∧ Bx W4 w.heap.size 60 (arC 0 fun _ => 0) ∧ Bx W5 w.heap.size 60 (arC n f) ∧ Below w.heap.size w W5 ∧ W5.heap.size = w.heap.size + 1 := by
  have bx4 := Bx.made w 60 (arC 0 fun _ => 0)
  have o5 := setRow_out (w.alloc (Obj.cells (arC 0 fun _ => 0) 60)) w.heap.size (arC n f) (Nat.le_refl _) (Nat.lt_succ_self _)
  exact ⟨_, _, rfl, rfl, bx4, bx4.setRow (arC n f), ((Below.refl _ _).alloc (Nat.le_refl _) _).trans (o5.below (Nat.le_refl _) (by simp)), by simp [World.setRow]⟩
theorem AR_guard : Try.prog.eqGuardType Try.prog.depth 60 = false := by kernel_rfl
theorem eqAR {w : World} {ops : Array Oper} {rest : List Oper} {o : Oper} {a : Act} {Q : Exit → Act → World → Prop} (hgd : o.guard = none) (x y : Operand) (ho : o.op = .binOp .eql 60 x y 60) {n : Int} {f g : Nat → Nat} (hx : a.eval x = .agg (arC n f)) (hy : a.eval y = .agg (arC n g)) (K : wpList Try.prog ops Q rest (a.put o.dst (.bool (sameR f g [0, 1, 2, 3, 4, 5, 6, 7, 8, 9]))) w) : wpList Try.prog ops Q (o :: rest) a w := by
  refine wpList_plain hgd fun K' hK' => ?_
  have h1 := arC_eql n f g w
  have h2 := run_eqGuard_agg (P := Try.prog) w .eql 60 x y (arC n f) (arC n g) AR_guard
  unfold Oper.wp execOp
  simp only [ho, hx, hy, Sem.run_bind, Sem.run_pure, h1, h2, Result.andThen_ok]
  exact hK' _ _ K
/-- The result's cell is written last. -/
theorem keep_result {w W6 : World} {M : Nat} {v : Value} {X : List (List Int)} (cs : Array Value) (hown : OwnSS W6 M W6.heap.size v X) (hb : Below w.heap.size w W6) (hM : w.heap.size + 2 ≤ M) (hz : w.heap.size + 2 ≤ W6.heap.size) :
    OwnSS (W6.setRow (w.heap.size + 1) cs) w.heap.size (W6.setRow (w.heap.size + 1) cs).heap.size v X ∧ Below w.heap.size w (W6.setRow (w.heap.size + 1) cs) :=
  ⟨(hown.out (setRow_out W6 _ cs (Nat.le_refl _) (Nat.lt_succ_self _)) (.inr hM)).wide (by omega) (by simp [World.setRow]), hb.trans ((setRow_out W6 _ cs (Nat.le_refl _) (Nat.lt_succ_self _)).below (by omega) (by omega))⟩
set_option maxHeartbeats 8000000 in
theorem impAddAttack_any {w : World} {A : Option Addr} {n c : Nat} {N a b : Int} {X : List (List Int)} (hl : Hid (X.length = n)) (hn : n ≤ 1099511627776) (hs : Hid (∀ x ∈ X, x.length ≤ 1099511627776)) (hr : RdSS w w.heap.size A X) :
    Calls Try.prog 10 #[.agg #[.int .i64 N, .slice A n c], .int .i64 a, .int .i64 b] w (FreshGB N (addL N X a b) (canA N X a b) w) := by
  obtain ⟨W2, hW2, bx1, bx2, hb2, hs2⟩ := two_graphs w #[Value.int IntKind.i64 N, Value.slice A n c] #[Value.int IntKind.i64 0, Value.slice none 0 0] 26
  have HR := Lib.hid (hr.below hb2)
  obtain ⟨C0, C1⟩ := bx1.two
  have hW2' := hW2.symm
  have HS2 := Lib.hid hs2
  clear hW2 hr hs2
  go_enter Try.func10, Try.ntmps10
  go_wp2_with fail
  refine (rowsOf_any hl hn (HR.out.more hb2.size)).mono ?_
  rintro e w3 ⟨rfl, hb3⟩
  have hb4 := hb2.trans (hb3.mono hb2.size)
  have bx13 := bx1.new hb3
  have bx23 := bx2.new hb3
  have hs3 := hb3.size
  have r0 := (rn_le N X).1
  have r1 := (rn_le N X).2
  have hfl := rf_lt N X
  obtain ⟨rN, hrN⟩ : ∃ z, z = rn N X := ⟨_, rfl⟩
  obtain ⟨f, hf⟩ : ∃ f, f = rf N X := ⟨_, rfl⟩
  rw [← hrN] at r0 r1 ⊢
  rw [← hf] at hfl ⊢
  have HN := Lib.hid hrN
  have HF := Lib.hid hf
  clear hrN hf hW2' C0 C1 bx1 bx2
  obtain ⟨W4, W5, hW4, hW5, bx4, bx5, hb5, hs5⟩ := new_rows w3 rN f
  rw [← arC_lit 0] at hW4
  have HX := Lib.hid hW5
  have bx15 := bx13.new hb5
  have bx25 := bx23.new hb5
  have hb6 := hb4.trans (hb5.mono hb4.size)
  have hrd5 := (HR.out.below (hb3.mono hb2.size)).below (hb5.mono hb4.size)
  have E0 := bx5.at_ (k := 0) (v := .int .i64 rN) rfl
  obtain ⟨D0, D1⟩ := bx15.two
  have HS5 := Lib.hid hs5
  have HM := Lib.hid (show w.heap.size + 2 ≤ W5.heap.size by rw [hs5]; have := HS2.out; omega)
  clear hs5 hW5
  by_cases ha : inr a 0 (rN - 1) = true
  case neg =>
    have HCf := Lib.hid (show canA N X a b = false from canA_out (by rw [← HN.out]; exact fun h => ha h.1))
    have HLx := Lib.hid (show addL N X a b = X by unfold addL; rw [HCf.out]; rfl)
    have HA := Lib.hid (show inr a 0 (rN - 1) = false by simpa using ha)
    clear ha
    go_wp2_with (first | (refine stAR (n := rN) (f := f) rfl (.tmp 8) (.tmp 11) rfl bx4 rfl rfl rfl ?_; rw [HX.out]) | (go_at_call 36; refine (isClaim_any (by omega) (by omega)).mono ?_; rintro e w1 ⟨he, rfl⟩; rw [HA.out] at he; subst he))
    refine (impCopy_any hl hn hs (hrd5.more hb6.size)).mono ?_
    rintro e w6 ⟨v, rfl, hown, hb7⟩
    have bx26 := bx25.new hb7
    have hv1 := hown.one
    have hk := keep_result #[.int .i64 N, v] hown (hb6.trans (hb7.mono hb6.size)) HM.out (Nat.le_trans HM.out hb7.size)
    go_wp2_with (first | (refine stGR rfl (.tmp 6) (.tmp 25) rfl bx26 rfl hv1 rfl rfl ?_))
    refine bodyPost_ret (resGB rfl (bx26.setRow _) rfl rfl rfl) rfl ⟨v, by rw [HCf.out]; rfl, by rw [HLx.out]; exact hk.1, hk.2⟩
  case pos =>
    have HA := Lib.hid ha
    by_cases hb : inr b 0 (rN - 1) = true
    case neg =>
      have HCf := Lib.hid (show canA N X a b = false from canA_out (by rw [← HN.out]; exact fun h => hb h.2))
      have HLx := Lib.hid (show addL N X a b = X by unfold addL; rw [HCf.out]; rfl)
      have HB := Lib.hid (show inr b 0 (rN - 1) = false by simpa using hb)
      clear ha hb
      go_wp2_with (first | (refine stAR (n := rN) (f := f) rfl (.tmp 8) (.tmp 11) rfl bx4 rfl rfl rfl ?_; rw [HX.out]) | (go_at_call 36; refine (isClaim_any (by omega) (by omega)).mono ?_; rintro e w1 ⟨he, rfl⟩; first | (rw [HA.out] at he; subst he) | (rw [HB.out] at he; subst he)))
      refine (impCopy_any hl hn hs (hrd5.more hb6.size)).mono ?_
      rintro e w6 ⟨v, rfl, hown, hb7⟩
      have bx26 := bx25.new hb7
      have hv1 := hown.one
      have hk := keep_result #[.int .i64 N, v] hown (hb6.trans (hb7.mono hb6.size)) HM.out (Nat.le_trans HM.out hb7.size)
      go_wp2_with (first | (refine stGR rfl (.tmp 6) (.tmp 25) rfl bx26 rfl hv1 rfl rfl ?_))
      refine bodyPost_ret (resGB rfl (bx26.setRow _) rfl rfl rfl) rfl ⟨v, by rw [HCf.out]; rfl, by rw [HLx.out]; exact hk.1, hk.2⟩
    case pos =>
      have HB := Lib.hid hb
      rw [HN.out] at ha hb
      obtain ⟨m, p, q, rfl, hm, rfl, rfl, hp, hq, hg, hrm⟩ := in_rows ha hb
      have HG := Lib.hid hg
      have e := HN.out.trans hrm
      clear ha hb hg hrm HN
      subst e
      have hfp := hfl p
      go_wp2_with (first | (refine stAR (n := m) (f := f) rfl (.tmp 8) (.tmp 11) rfl bx4 rfl rfl rfl ?_; rw [HX.out]) | (refine ldAR rfl (.tmp 8) rfl bx5 rfl rfl ?_) | (go_at_call 36; refine (isClaim_any (by omega) (by omega)).mono ?_; rintro e w1 ⟨he, rfl⟩; first | (rw [HA.out] at he; subst he) | (rw [HB.out] at he; subst he)))
      refine (withAttack_any (n := m) (f := f) (a := p) (b := q) (by omega) (by omega) hfp).mono ?_
      rintro e w7 ⟨rfl, hb7⟩
      obtain ⟨W8, W9, hW8, hW9, bx8, bx9, hb9, hs9⟩ := new_rows w7 m (upd f p q)
      rw [← arC_lit 0] at hW8
      have HX9 := Lib.hid hW9
      have bx59 := (bx5.new hb7).new hb9
      have bx29 := (bx25.new hb7).new hb9
      have hb8 := hb6.trans (hb7.mono hb6.size)
      have hb10 := hb8.trans (hb9.mono hb8.size)
      have hrd9 := (hrd5.below (hb7.mono hb6.size)).below (hb9.mono hb8.size)
      obtain ⟨F0, F1⟩ := ((bx15.new hb7).new hb9).two
      have HM9 := Lib.hid (show w.heap.size + 2 ≤ W9.heap.size by rw [hs9]; have := hb7.size; have := HM.out; omega)
      have hfu : ∀ k, upd f p q k < 65536 := fun k => by
        unfold upd
        split
        · exact Nat.or_lt_two_pow (n := 16) (hfl k) (Nat.pow_lt_pow_right (by omega) (by omega))
        · exact hfl k
      have HFU := Lib.hid hfu
      clear hW9 hs9 hW4 bx4 hb5 hb3 bx13 bx23 D0 D1 E0 hfu
      by_cases hbit : (f p).testBit q = true
      · have HE := Lib.hid (show sameR (upd f p q) f [0, 1, 2, 3, 4, 5, 6, 7, 8, 9] = true by rw [upd_same hbit]; exact sameR_refl _ _)
        have HCf := Lib.hid (show canA m X p q = false from canA_there HG.out (by rw [← HF.out]; exact hbit))
        have HLx := Lib.hid (show addL m X p q = X by unfold addL; rw [HCf.out]; rfl)
        clear hbit
        go_wp2_with (first | (refine stAR (n := m) (f := upd f p q) rfl (.tmp 9) (.tmp 29) rfl bx8 rfl rfl rfl ?_; rw [HX9.out]) | (refine ldAR rfl (.tmp 9) rfl bx9 rfl rfl ?_) | (refine ldAR rfl (.tmp 8) rfl bx59 rfl rfl ?_) | (refine eqAR rfl (.tmp 30) (.tmp 31) rfl rfl rfl ?_; rw [HE.out]))
        refine (impCopy_any hl hn hs (hrd9.more hb10.size)).mono ?_
        rintro e w6 ⟨v, rfl, hown, hb11⟩
        have bx26 := bx29.new hb11
        have hv1 := hown.one
        have hk := keep_result #[.int .i64 m, v] hown (hb10.trans (hb11.mono hb10.size)) HM9.out (Nat.le_trans HM9.out hb11.size)
        go_wp2_with (first | (refine stGR rfl (.tmp 6) (.tmp 34) rfl bx26 rfl hv1 rfl rfl ?_))
        refine bodyPost_ret (resGB rfl (bx26.setRow _) rfl rfl rfl) rfl ⟨v, by rw [HCf.out]; rfl, by rw [HLx.out]; exact hk.1, hk.2⟩
      · have hbit' : (f p).testBit q = false := by simpa using hbit
        have hp10 : p ∈ [0, 1, 2, 3, 4, 5, 6, 7, 8, 9] := by
          rcases lt10 (show p < 10 by omega) with rfl | rfl | rfl | rfl | rfl | rfl | rfl | rfl | rfl | rfl <;> simp
        have HE := Lib.hid (show sameR (upd f p q) f [0, 1, 2, 3, 4, 5, 6, 7, 8, 9] = false from sameR_no (upd_other hbit') hp10)
        have hgi := glK_ins HG.out hp hq (by rw [← HF.out]; exact hbit')
        rw [← HF.out] at hgi
        have HCf := Lib.hid hgi.2
        have HLx := Lib.hid (show addL m X p q = glK (upd f p q) m by unfold addL; rw [HCf.out, hgi.1]; rfl)
        clear hbit hbit' hp10 hgi
        go_wp2_with (first | (refine stAR (n := m) (f := upd f p q) rfl (.tmp 9) (.tmp 29) rfl bx8 rfl rfl rfl ?_; rw [HX9.out]) | (refine ldAR rfl (.tmp 9) rfl bx9 rfl rfl ?_) | (refine ldAR rfl (.tmp 8) rfl bx59 rfl rfl ?_) | (refine eqAR rfl (.tmp 30) (.tmp 31) rfl rfl rfl ?_; rw [HE.out]))
        refine (impGraph_any (n := m) (f := upd f p q) hm HFU.out).mono ?_
        rintro e w6 ⟨v, rfl, hown, hb11⟩
        have bx26 := bx29.new hb11
        have hv1 := hown.one
        have hk := keep_result #[.int .i64 m, v] hown (hb10.trans (hb11.mono hb10.size)) HM9.out (Nat.le_trans HM9.out hb11.size)
        go_wp2_with (first | (refine stGR rfl (.tmp 6) (.tmp 36) rfl bx26 rfl hv1 rfl rfl ?_))
        refine bodyPost_ret (resGB rfl (bx26.setRow _) rfl rfl rfl) rfl ⟨v, by rw [HCf.out]; rfl, by rw [HLx.out]; exact hk.1, hk.2⟩
end Go.Proofs.Ytncndlojceiejaa
