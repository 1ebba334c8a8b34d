/- Contracts of the draws of AddAttack and HitBy. Condition: the code's bytes lie in old memory. -/
import Derived.Test.YtncndlojceiejaaDrawG2
namespace Go.Proofs.Ytncndlojceiejaa
open Go.ChangeShapes Go.WideShapes Go.ChangeAt Go.RowKit
set_option maxRecDepth 100000
theorem mn12 (N : Int) : mn 12 N ≤ 12 := by unfold mn; split <;> omega
/-- A set was drawn; its memory is new. -/
def DrewS (B : Nat) (A : Option Addr) (n c : Nat) (w : World) (e : Ending) (w' : World) : Prop :=
  ∃ (zs : List Int) (v : Value), zs.length ≤ 12 ∧ e = .returned v ∧ Row w' w.heap.size w'.heap.size 3 v (ivs zs) ∧ w.grownBy w' (some B) ∧ Cur w' B A n c
set_option maxHeartbeats 4000000 in
theorem set4_any {w : World} {B : Nat} {A : Option Addr} {n c : Nat} {N : Int} {v : Value} (h : Cur w B A n c) :
    Calls Try.prog 52 #[.pointer (some ⟨B, 0, none⟩), .agg #[.int .i64 N, v]] w (DrewS B A n c w) := by
  obtain ⟨ti, hti, hz0, hz1, hz2⟩ := info_parts IntS_info
  have hB := h.lt
  have bx0 := Bx.made w 26 #[Value.int IntKind.i64 N, v]
  obtain ⟨Wa, hWa⟩ : ∃ u : World, u = w.alloc (Obj.cells #[Value.int IntKind.i64 N, v] 26) := ⟨_, rfl⟩
  have hsa : Wa.heap.size = w.heap.size + 1 := by rw [hWa]; simp
  have cura := h.alloc (Obj.cells #[Value.int IntKind.i64 N, v] 26)
  have hga : w.grownBy _ (some B) := only_alloc (only_refl w _) (Obj.cells #[Value.int IntKind.i64 N, v] 26)
  rw [← hWa] at bx0 cura hga
  have hrow0 := (Row.made (w := Wa) (w.heap.size + 1) #[] 0 3 (by omega) rfl (Nat.zero_le _)).wide (hi' := (Wa.alloc (Obj.cells #[] 3)).heap.size) (Nat.le_refl _) (by simp)
  have bx1 := bx0.new ((Below.refl Wa.heap.size Wa).alloc (Nat.le_refl _) (Obj.cells #[] 3))
  have cur1 := cura.alloc (Obj.cells #[] 3)
  have hg1 := only_alloc hga (Obj.cells #[] 3)
  obtain ⟨W1, hW⟩ : ∃ u : World, u = Wa.alloc (Obj.cells #[] 3) := ⟨_, rfl⟩
  have hsw : W1.heap.size = w.heap.size + 2 := by rw [hW]; simp [hsa]
  rw [← hW] at hrow0 bx1 cur1 hg1
  rw [hsa] at hrow0
  have hWf : (w.alloc (Obj.cells #[Value.int IntKind.i64 N, v] 26)).alloc (Obj.cells #[] 3) = W1 := by rw [hW, hWa]
  have HS := Lib.hid hsw
  clear hW hWa bx0 hsa cura hga hsw
  have HM := Lib.hid (mn12 N)
  go_enter Try.func52, Try.ntmps52
  go_wp2_with fail
  try rw [hWf]
  clear hWf
  go_loopw [5, 6] (fun b i wr => ∃ (k : Nat) (zs : List Int), k ≤ 12 ∧ i = .int .i64 k ∧ zs.length ≤ k ∧ Row wr (w.heap.size + 1) wr.heap.size 3 b (ivs zs) ∧ Bx wr w.heap.size 26 #[Value.int IntKind.i64 N, v] ∧ Cur wr B A n c ∧ w.grownBy wr (some B) ∧ w.heap.size + 2 ≤ wr.heap.size) (fun _ i _ => 12 - (intOf i).toNat)
  case atStart => exact ⟨0, [], by omega, rfl, by simp, hrow0, bx1, cur1, hg1, Nat.le_of_eq HS.out.symm⟩
  case round =>
    obtain ⟨k, zs, hk, rfl, hzl, hrow, bxk, curk, hgk, hzk⟩ := hrel
    obtain ⟨C0, C1⟩ := bxk.two
    have HC := Lib.hid curk
    clear curk
    obtain ⟨M, hMe⟩ : ∃ M, M = mn 12 N := ⟨_, rfl⟩
    have HMe := Lib.hid hMe.symm
    have hM := HM.out
    rw [← hMe] at hM
    clear hMe
    by_cases hlt : (k : Int) < M
    · have hk12 : k < 12 := by omega
      go_wp2_with (go_at_call 69; refine (smin_any 12 N _).mono ?_; rintro e w1 ⟨he, rfl⟩; rw [HMe.out] at he; subst he)
      refine (once_any HC.out 3 (by omega)).mono ?_
      rintro e w4 ⟨b, rfl, hg4, cur4⟩
      have bx4 := bxk.only hg4 (by omega)
      have hrow4 := hrow.out (Out.of_only hg4) (.inr (by omega))
      have hgw4 := only_trans hgk hg4
      have hz4 := hg4.size
      have hrow4 := hrow4.wide (Nat.le_refl _) hz4
      have HC4 := Lib.hid cur4
      clear hrow C0 C1 cur4
      cases b
      · go_wp2_with fail
        go_roundw
        case rel => exact ⟨k + 1, zs, by omega, by go_num, by omega, hrow4, bx4, HC4.out, hgw4, by omega⟩
        case measure => simp [intOf] <;> omega
      · have hbl : Below w4.heap.size w4 (w4.alloc (Obj.cells #[Value.int .i64 k] 3)) := (Below.refl _ _).alloc (Nat.le_refl _) _
        have hrow2 := hrow4.new hbl
        have hmade := Rd.made w4 #[Value.int .i64 k] 3
        have L : (ivs zs).length + 1 ≤ maxLen ∧ ((ivs zs).length + 1) * 8 ≤ 140737488355328 := by rw [ivs_len]; unfold maxLen; omega
        have L1 := Lib.hid L
        clear L
        go_wp2_with (at_builtin; refine wpList_app rfl (.tmp 17) (.tmp 19) 40 rfl 3 ti _ 8 Try.underlying40 hti hz0 hz1 hz2 rfl rfl rfl hrow2 rfl hmade (by simp [Value.oneCell']) L1.out.1 L1.out.2 (by simp; omega) ?_; intro v1 w1 hrow1 ho1)
        have hob := ho1.below (B := w.heap.size + 1) (Nat.le_refl _) (by simp; omega)
        have hzo := hob.size
        have hbo := (hbl.mono (show w.heap.size + 1 ≤ w4.heap.size by omega)).trans hob
        have hbz := hbo.size
        go_roundw
        case rel => exact ⟨k + 1, zs ++ [(k : Int)], by omega, by go_num, by rw [List.length_append]; simp; omega, by rw [← ivs_snoc_l]; exact hrow1, (bx4.new hbl).out ho1 (by first | exact .inl (by omega) | exact .inr (by omega)), HC4.out.below' hbo (by omega), only_then hgw4 (hbo.mono (by omega)), by omega⟩
        case measure => simp [intOf] <;> omega
    · go_wp2_with (go_at_call 69; refine (smin_any 12 N _).mono ?_; rintro e w1 ⟨he, rfl⟩; rw [HMe.out] at he; subst he)
      go_ret
      exact ⟨zs, _, by omega, rfl, hrow.wide (by omega) (Nat.le_refl _), hgk, HC.out⟩
/-- A graph and an integer were drawn; nothing old has turned. -/
def DrewGI (w : World) (e : Ending) (w' : World) : Prop :=
  ∃ (N : Int) (X : List (List Int)) (v : Value) (x : Int), GOK 10 X ∧ e = .returned (.tuple #[.agg #[.int .i64 N, v], .int .i64 x]) ∧ OwnSS w' w.heap.size w'.heap.size v X ∧ Below w.heap.size w w'
theorem drew_result {w w2 : World} {M : Nat} {v : Value} {X : List (List Int)} (cs : Array Value) (hown : OwnSS w2 M w2.heap.size v X) (hb : Below w.heap.size w w2) (hM : w.heap.size + 1 ≤ M) (hz : w.heap.size ≤ w2.heap.size) :
    OwnSS (w2.setRow w.heap.size cs) w.heap.size (w2.setRow w.heap.size cs).heap.size v X ∧ Below w.heap.size w (w2.setRow w.heap.size cs) :=
  ⟨(hown.out (setRow_out w2 _ cs (Nat.le_refl _) (Nat.lt_succ_self _)) (.inr hM)).wide (by omega) (by simp [World.setRow]), hb.trans ((setRow_out w2 _ cs (Nat.le_refl _) (Nat.lt_succ_self _)).below (Nat.le_refl _) hz)⟩
theorem cells_result {w w2 : World} {M : Nat} {v a b : Value} {X : List (List Int)} (hown : OwnSS w2 M w2.heap.size v X) (hb : Below w.heap.size w w2) (hM : w.heap.size + 1 ≤ M) :
    OwnSS ((w2.setCell ⟨w.heap.size, 0, none⟩ a).setCell ⟨w.heap.size, 1, none⟩ b) w.heap.size ((w2.setCell ⟨w.heap.size, 0, none⟩ a).setCell ⟨w.heap.size, 1, none⟩ b).heap.size v X ∧ Below w.heap.size w ((w2.setCell ⟨w.heap.size, 0, none⟩ a).setCell ⟨w.heap.size, 1, none⟩ b) :=
  ⟨((hown.setFar (p := ⟨w.heap.size, 0, none⟩) (.inl hM) _).setFar (p := ⟨w.heap.size, 1, none⟩) (.inl hM) _).wide (by omega) (by simp), (hb.setCell (Nat.le_refl _) _).setCell (Nat.le_refl _) _⟩
theorem results_cell_tmp2 {fn : Func} {p u v : Tmp} {ty : TypeId} (h : fn.results = #[.cell p ty, .tmp u, .tmp v]) (tmps : Array Value) (P : Program) (w : World) :
    (results fn tmps).run P w = ((asAddr (tmps.getD p undef)).run P w).andThen fun a w₁ => ((loadVar ty a).run P w₁).andThen fun x w₂ => .ok (.tuple #[x, tmps.getD u undef, tmps.getD v undef]) w₂ := by
  simp only [results, h]
  simp [Sem.run_bind, Result.andThen]
theorem resGII {w : World} {fn : Func} {p u v : Tmp} {tmps : Array Value} {g : Nat} {cs : Array Value} {x y : Value} (h : fn.results = #[.cell p 26, .tmp u, .tmp v]) (hb : Bx w g 26 cs) (hs : cs.size = 2) (hp : tmps.getD p undef = .pointer (some ⟨g, 0, none⟩)) (hu : tmps.getD u undef = x) (hv : tmps.getD v undef = y) : (results fn tmps).run Try.prog w = .ok (.tuple #[.agg cs, x, y]) w := by
  rw [results_cell_tmp2 h, hp, hu, hv]
  simp [asAddr, run_loadVar_row w g _ _ cs (0, 0) _ hb Try.underlying26 rfl (by rw [GR_info, hs])]
set_option maxHeartbeats 8000000 in
theorem drawAtk {w : World} {A : Option Addr} {n c : Nat} (h : Code8 w A n) :
    Calls Try.prog 64 #[.slice A n c] w (DrewGI w) := by
  have bx0 := Bx.made w 26 #[Value.int .i64 0, .slice none 0 0]
  have hb0 : Below w.heap.size w (w.alloc (Obj.cells #[Value.int .i64 0, .slice none 0 0] 26)) := (Below.refl _ _).alloc (Nat.le_refl _) _
  have h0 := h.below hb0
  have hs0 : (w.alloc (Obj.cells #[Value.int .i64 0, .slice none 0 0] 26)).heap.size = w.heap.size + 1 := by simp
  go_enter Try.func64, Try.ntmps64
  go_wp2_with fail
  refine (new_any h0).mono ?_
  rintro e w1 ⟨rfl, hb1, cur1⟩
  have br1 := bx0.new hb1
  have hz1 := hb1.size
  have hbw1 := hb0.trans (hb1.mono hb0.size)
  rw [hs0] at hz1 cur1 ⊢
  go_wp2_with fail
  refine (any4_any cur1).mono ?_
  rintro e w2 ⟨N, X, v, _, hok, rfl, hown2, hg2, cur2⟩
  obtain ⟨Av, cv, rfl, _, _, _⟩ := hown2.rd (n := X.length) rfl
  have hl1 := cur1.lt
  have hz2 := hg2.size
  have br2 := br1.only hg2 (by omega)
  have hbw2 := cur_below hbw1 hg2 (by omega)
  have k3 : Below w2.heap.size w2 (w2.alloc (Obj.cells #[Value.int .i64 N, .slice Av X.length cv] 26)) := (Below.refl _ _).alloc (Nat.le_refl _) _
  have br3 := br2.new k3
  have bg3 := Bx.made w2 26 #[Value.int .i64 N, .slice Av X.length cv]
  have ho3 := (hown2.new k3).wide (hi' := (w2.alloc (Obj.cells #[Value.int .i64 N, .slice Av X.length cv] 26)).heap.size) (Nat.le_refl _) k3.size
  have cur3 := cur2.below k3
  have hbw3 := hbw2.trans (k3.mono hbw2.size)
  have HOK := Lib.hid hok
  have hx3 : (w2.alloc (Obj.cells #[Value.int .i64 N, .slice Av X.length cv] 26)).heap.size = w2.heap.size + 1 := by simp
  obtain ⟨w3, hw3⟩ : ∃ u : World, u = w2.alloc (Obj.cells #[Value.int .i64 N, .slice Av X.length cv] 26) := ⟨_, rfl⟩
  rw [← hw3] at br3 bg3 ho3 cur3 hbw3 hx3
  obtain ⟨g, hg⟩ : ∃ g, g = w2.heap.size := ⟨_, rfl⟩
  have hHW := Lib.hid hw3.symm
  clear bx0 hb0 h0 br1 hb1 hbw1 cur1 br2 hbw2 k3 hown2 hg2 cur2 hok hw3 hs0
  go_wp2_with fail
  rw [hHW.out]
  clear hHW
  rw [← hg] at bg3 hx3 hz2 ⊢
  clear hg
  have hHB := Lib.hid bg3
  have HR := Lib.hid br3
  have HO := Lib.hid ho3
  have HC := Lib.hid cur3
  obtain ⟨D0, D1⟩ := bg3.two
  have hBg : w.heap.size + 1 ≠ g := by omega
  have hBr : w.heap.size + 1 ≠ w.heap.size := by omega
  clear bg3 br3 ho3 cur3
  go_region_law (first
    | (go_simp; go_at_call 72; refine (int_any (fun _ => True) (by exact cur6a) _ 3 (by omega) (by omega) (by omega) (by exact hir)).mono ?_; rintro e w7 ⟨x, _, rfl, hg7, cur7⟩; have bg7 := bg6a.only hg7 hBg; have br7 := br6a.only hg7 hBr; have ho7 := ho6a.only hg7 (by omega); have hz7 : w6.heap.size + 1 ≤ w7.heap.size := (by have := hg7.size; simpa using this); have hbw7 : Below w.heap.size w w7 := cur_below hbw6a hg7 (by omega); obtain ⟨P0, P1⟩ := bg7.two; obtain ⟨R0, R1⟩ := br7.two; have r0 := br7.free 0; have r1 := br7.free 1)
    | (go_simp; go_at_call 68; refine (raw4_any (by exact cur5)).mono ?_; rintro e w6 ⟨z, _, rfl, hg6, cur6⟩; have bg6 := bg5.only hg6 hBg; have br6 := br5.only hg6 hBr; have ho6 := ho5.only hg6 (by omega); have hz6 := hg6.size; have hbw6 : Below w.heap.size w w6 := cur_below hbw5 hg6 (by omega); have hbl : Below w6.heap.size w6 (w6.alloc (Obj.cells #[Value.int .i64 p, .int .i64 q, .int .i64 z] 3)) := (Below.refl _ _).alloc (Nat.le_refl _) _; obtain ⟨G0, G1⟩ := bg6.two; have bg6a := bg6.new hbl; have br6a := br6.new hbl; have ho6a := ho6.new hbl; have cur6a := cur6.alloc (Obj.cells #[Value.int .i64 p, .int .i64 q, .int .i64 z] 3); have hbw6a := hbw6.trans (hbl.mono (by omega)); obtain ⟨G2, G3⟩ := bg6a.two; have hir : IntRow (fun _ => True) (w6.alloc (Obj.cells #[Value.int .i64 p, .int .i64 q, .int .i64 z] 3)) w6.heap.size 3 := introw_alloc (fun _ => True) w6 [p, q, z] 3 (by simp); have hl6 := cur6.lt; clear hbl)
    | (go_simp; go_at_call 65; refine (below_any (by exact cur4) 7 (by omega)).mono ?_; rintro e w5 ⟨q, _, rfl, hg5, cur5⟩; have bg5 := bg4.only hg5 hBg; have br5 := br4.only hg5 hBr; have ho5 := ho4.only hg5 (by omega); have hz5 := hg5.size; have hbw5 : Below w.heap.size w w5 := cur_below hbw4 hg5 (by omega); obtain ⟨F0, F1⟩ := bg5.two)
    | (go_simp; go_at_call 65; refine (below_any (HC.out.drew_) 7 (by omega)).mono ?_; rintro e w4 ⟨p, _, rfl, hg4, cur4⟩; have bg4 := hHB.out.drew_.only hg4 hBg; have br4 := HR.out.drew_.only hg4 hBr; have ho4 := (HO.out.new ((Below.refl _ _).drew)).only hg4 (by omega); have hz4 : w3.heap.size ≤ w4.heap.size := hg4.size; have hbw4 : Below w.heap.size w w4 := cur_below hbw3.drew hg4 (by omega); obtain ⟨E0, E1⟩ := bg4.two))
  all_goals
    go_wp2
    refine bodyPost_ret (resGB rfl ((br7.set 0 _).set 1 _) rfl rfl rfl) rfl ⟨N, X, .slice Av X.length cv, x, HOK.out, rfl, ?_⟩
    exact cells_result (ho7.wide (Nat.le_refl _) (by omega)) hbw7 (by omega)
end Go.Proofs.Ytncndlojceiejaa
