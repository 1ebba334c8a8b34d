/- Contracts of the draws of AddAttack and HitBy. Condition: the code's bytes lie in old memory. -/
import Derived.Test.YtjhknafajfpldaaDoorDrawG2
import Derived.Test.YtjhknafajfpldaaDoorMg1
namespace Go.Proofs.YtjhknafajfpldaaDoor
open Go.ChangeShapes Go.WideShapes Go.ChangeAt Go.RowKit
set_option maxRecDepth 100000
theorem mn12 (N : Int) : mn 12 N ≤ 12 := by unfold mn; split <;> omega
/-- A set was drawn; its memory is new. -/
def DrewS (B : Nat) (A : Option Addr) (n c : Nat) (w : World) (e : Ending) (w' : World) : Prop :=
  ∃ (zs : List Int) (v : Value), zs.length ≤ 12 ∧ e = .returned v ∧ Row w' w.heap.size w'.heap.size 3 v (ivs zs) ∧ w.grownBy w' (some B) ∧ Cur w' B A n c
set_option maxHeartbeats 4000000 in
theorem set4_any {w : World} {B : Nat} {A : Option Addr} {n c : Nat} {N : Int} {v : Value} (h : Cur w B A n c) :
    Calls Tryd.prog 46 #[.pointer (some ⟨B, 0, none⟩), .agg #[.int .i64 N, v]] w (DrewS B A n c w) := by
  obtain ⟨ti, hti, hz0, hz1, hz2⟩ := info_parts IntS_info
  have hB := h.lt
  have bx0 := Bx.made w 26 #[Value.int IntKind.i64 N, v]
  obtain ⟨Wa, hWa⟩ : ∃ u : World, u = w.alloc (Obj.cells #[Value.int IntKind.i64 N, v] 26) := ⟨_, rfl⟩
  have hsa : Wa.heap.size = w.heap.size + 1 := by rw [hWa]; simp
  have cura := h.alloc (Obj.cells #[Value.int IntKind.i64 N, v] 26)
  have hga : w.grownBy _ (some B) := only_alloc (only_refl w _) (Obj.cells #[Value.int IntKind.i64 N, v] 26)
  rw [← hWa] at bx0 cura hga
  have hrow0 := (Row.made (w := Wa) (w.heap.size + 1) #[] 0 3 (by omega) rfl (Nat.zero_le _)).wide (hi' := (Wa.alloc (Obj.cells #[] 3)).heap.size) (Nat.le_refl _) (by simp)
  have bx1 := bx0.new ((Below.refl Wa.heap.size Wa).alloc (Nat.le_refl _) (Obj.cells #[] 3))
  have cur1 := cura.alloc (Obj.cells #[] 3)
  have hg1 := only_alloc hga (Obj.cells #[] 3)
  obtain ⟨W1, hW⟩ : ∃ u : World, u = Wa.alloc (Obj.cells #[] 3) := ⟨_, rfl⟩
  have hsw : W1.heap.size = w.heap.size + 2 := by rw [hW]; simp [hsa]
  rw [← hW] at hrow0 bx1 cur1 hg1
  rw [hsa] at hrow0
  have hWf : (w.alloc (Obj.cells #[Value.int IntKind.i64 N, v] 26)).alloc (Obj.cells #[] 3) = W1 := by rw [hW, hWa]
  have HS := Lib.hid hsw
  clear hW hWa bx0 hsa cura hga hsw
  have HM := Lib.hid (mn12 N)
  go_enter Tryd.func46, Tryd.ntmps46
  go_wp2_with fail
  try rw [hWf]
  clear hWf
  go_loopw [5, 6] (fun b i wr => ∃ (k : Nat) (zs : List Int), k ≤ 12 ∧ i = .int .i64 k ∧ zs.length ≤ k ∧ Row wr (w.heap.size + 1) wr.heap.size 3 b (ivs zs) ∧ Bx wr w.heap.size 26 #[Value.int IntKind.i64 N, v] ∧ Cur wr B A n c ∧ w.grownBy wr (some B) ∧ w.heap.size + 2 ≤ wr.heap.size) (fun _ i _ => 12 - (intOf i).toNat)
  case atStart => exact ⟨0, [], by omega, rfl, by simp, hrow0, bx1, cur1, hg1, Nat.le_of_eq HS.out.symm⟩
  case round =>
    obtain ⟨k, zs, hk, rfl, hzl, hrow, bxk, curk, hgk, hzk⟩ := hrel
    obtain ⟨C0, C1⟩ := bxk.two
    have HC := Lib.hid curk
    clear curk
    obtain ⟨M, hMe⟩ : ∃ M, M = mn 12 N := ⟨_, rfl⟩
    have HMe := Lib.hid hMe.symm
    have hM := HM.out
    rw [← hMe] at hM
    clear hMe
    by_cases hlt : (k : Int) < M
    · have hk12 : k < 12 := by omega
      go_wp2_with (go_at_call 27; refine (smin_any 12 N _).mono ?_; rintro e w1 ⟨he, rfl⟩; rw [HMe.out] at he; subst he)
      refine (once_any HC.out 3 (by omega)).mono ?_
      rintro e w4 ⟨b, rfl, hg4, cur4⟩
      have bx4 := bxk.only hg4 (by omega)
      have hrow4 := hrow.out (Out.of_only hg4) (.inr (by omega))
      have hgw4 := only_trans hgk hg4
      have hz4 := hg4.size
      have hrow4 := hrow4.wide (Nat.le_refl _) hz4
      have HC4 := Lib.hid cur4
      clear hrow C0 C1 cur4
      cases b
      · go_wp2_with fail
        go_roundw
        case rel => exact ⟨k + 1, zs, by omega, by go_num, by omega, hrow4, bx4, HC4.out, hgw4, by omega⟩
        case measure => simp [intOf] <;> omega
      · have hbl : Below w4.heap.size w4 (w4.alloc (Obj.cells #[Value.int .i64 k] 3)) := (Below.refl _ _).alloc (Nat.le_refl _) _
        have hrow2 := hrow4.new hbl
        have hmade := Rd.made w4 #[Value.int .i64 k] 3
        have L : (ivs zs).length + 1 ≤ maxLen ∧ ((ivs zs).length + 1) * 8 ≤ 140737488355328 := by rw [ivs_len]; unfold maxLen; omega
        have L1 := Lib.hid L
        clear L
        go_wp2_with (at_builtin; refine wpList_app rfl (.tmp 17) (.tmp 19) 27 rfl 3 ti _ 8 Tryd.underlying27 hti hz0 hz1 hz2 rfl rfl rfl hrow2 rfl hmade (by simp [Value.oneCell']) L1.out.1 L1.out.2 (by simp; omega) ?_; intro v1 w1 hrow1 ho1)
        have hob := ho1.below (B := w.heap.size + 1) (Nat.le_refl _) (by simp; omega)
        have hzo := hob.size
        have hbo := (hbl.mono (show w.heap.size + 1 ≤ w4.heap.size by omega)).trans hob
        have hbz := hbo.size
        go_roundw
        case rel => exact ⟨k + 1, zs ++ [(k : Int)], by omega, by go_num, by rw [List.length_append]; simp; omega, by rw [← ivs_snoc_l]; exact hrow1, (bx4.new hbl).out ho1 (by first | exact .inl (by omega) | exact .inr (by omega)), HC4.out.below' hbo (by omega), only_then hgw4 (hbo.mono (by omega)), by omega⟩
        case measure => simp [intOf] <;> omega
    · go_wp2_with (go_at_call 27; refine (smin_any 12 N _).mono ?_; rintro e w1 ⟨he, rfl⟩; rw [HMe.out] at he; subst he)
      go_ret
      exact ⟨zs, _, by omega, rfl, hrow.wide (by omega) (Nat.le_refl _), hgk, HC.out⟩
/-- A graph and an integer were drawn; nothing old has turned. -/
def DrewGI (w : World) (e : Ending) (w' : World) : Prop :=
  ∃ (N : Int) (X : List (List Int)) (v : Value) (x : Int), GOK 10 X ∧ e = .returned (.tuple #[.agg #[.int .i64 N, v], .int .i64 x]) ∧ OwnSS w' w.heap.size w'.heap.size v X ∧ Below w.heap.size w w'
theorem drew_result {w w2 : World} {M : Nat} {v : Value} {X : List (List Int)} (cs : Array Value) (hown : OwnSS w2 M w2.heap.size v X) (hb : Below w.heap.size w w2) (hM : w.heap.size + 1 ≤ M) (hz : w.heap.size ≤ w2.heap.size) :
    OwnSS (w2.setRow w.heap.size cs) w.heap.size (w2.setRow w.heap.size cs).heap.size v X ∧ Below w.heap.size w (w2.setRow w.heap.size cs) :=
  ⟨(hown.out (setRow_out w2 _ cs (Nat.le_refl _) (Nat.lt_succ_self _)) (.inr hM)).wide (by omega) (by simp [World.setRow]), hb.trans ((setRow_out w2 _ cs (Nat.le_refl _) (Nat.lt_succ_self _)).below (Nat.le_refl _) hz)⟩
theorem cells_result {w w2 : World} {M : Nat} {v a b : Value} {X : List (List Int)} (hown : OwnSS w2 M w2.heap.size v X) (hb : Below w.heap.size w w2) (hM : w.heap.size + 1 ≤ M) :
    OwnSS ((w2.setCell ⟨w.heap.size, 0, none⟩ a).setCell ⟨w.heap.size, 1, none⟩ b) w.heap.size ((w2.setCell ⟨w.heap.size, 0, none⟩ a).setCell ⟨w.heap.size, 1, none⟩ b).heap.size v X ∧ Below w.heap.size w ((w2.setCell ⟨w.heap.size, 0, none⟩ a).setCell ⟨w.heap.size, 1, none⟩ b) :=
  ⟨((hown.setFar (p := ⟨w.heap.size, 0, none⟩) (.inl hM) _).setFar (p := ⟨w.heap.size, 1, none⟩) (.inl hM) _).wide (by omega) (by simp), (hb.setCell (Nat.le_refl _) _).setCell (Nat.le_refl _) _⟩
theorem results_cell_tmp2 {fn : Func} {p u v : Tmp} {ty : TypeId} (h : fn.results = #[.cell p ty, .tmp u, .tmp v]) (tmps : Array Value) (P : Program) (w : World) :
    (results fn tmps).run P w = ((asAddr (tmps.getD p undef)).run P w).andThen fun a w₁ => ((loadVar ty a).run P w₁).andThen fun x w₂ => .ok (.tuple #[x, tmps.getD u undef, tmps.getD v undef]) w₂ := by
  simp only [results, h]
  simp [Sem.run_bind, Result.andThen]
theorem resGII {w : World} {fn : Func} {p u v : Tmp} {tmps : Array Value} {g : Nat} {cs : Array Value} {x y : Value} (h : fn.results = #[.cell p 26, .tmp u, .tmp v]) (hb : Bx w g 26 cs) (hs : cs.size = 2) (hp : tmps.getD p undef = .pointer (some ⟨g, 0, none⟩)) (hu : tmps.getD u undef = x) (hv : tmps.getD v undef = y) : (results fn tmps).run Tryd.prog w = .ok (.tuple #[.agg cs, x, y]) w := by
  rw [results_cell_tmp2 h, hp, hu, hv]
  simp [asAddr, run_loadVar_row w g _ _ cs (0, 0) _ hb Tryd.underlying26 rfl (by rw [GR_info, hs])]
end Go.Proofs.YtjhknafajfpldaaDoor

/- Contracts of the draw of HitBy, and of the law's contains and ascends. Condition: the code's bytes lie in old memory. -/
namespace Go.Proofs.YtjhknafajfpldaaDoor
open Go.ChangeShapes Go.WideShapes Go.ChangeAt Go.RowKit
set_option maxRecDepth 100000
/-- A graph and a set were drawn; nothing old has turned. -/
def DrewGS (w : World) (e : Ending) (w' : World) : Prop :=
  ∃ (N : Int) (X : List (List Int)) (v : Value) (zs : List Int) (u : Value), GOK 10 X ∧ zs.length ≤ 12 ∧ e = .returned (.tuple #[.agg #[.int .i64 N, v], u]) ∧ OwnSS w' w.heap.size w'.heap.size v X ∧ Row w' w.heap.size w'.heap.size 3 u (ivs zs) ∧ Below w.heap.size w w'
/-- The same; the set's row lies behind the graph's. -/
def DrewGS2 (k : Nat) (w : World) (e : Ending) (w' : World) : Prop :=
  ∃ (N : Int) (X : List (List Int)) (v : Value) (zs : List Int) (u : Value) (M : Nat), GOK 10 X ∧ zs.length ≤ k ∧ e = .returned (.tuple #[.agg #[.int .i64 N, v], u]) ∧ w.heap.size ≤ M ∧ M ≤ w'.heap.size ∧ OwnSS w' w.heap.size M v X ∧ Row w' M w'.heap.size 3 u (ivs zs) ∧ Below w.heap.size w w'
set_option maxHeartbeats 1000000 in
theorem drawHit2 {w : World} {A : Option Addr} {n c : Nat} (h : Code8 w A n) :
    Calls Tryd.prog 47 #[.slice A n c] w (DrewGS2 12 w) := by
  have bx0 := Bx.made w 26 #[Value.int .i64 0, .slice none 0 0]
  have hb0 : Below w.heap.size w (w.alloc (Obj.cells #[Value.int .i64 0, .slice none 0 0] 26)) := (Below.refl _ _).alloc (Nat.le_refl _) _
  have h0 := h.below hb0
  have hs0 : (w.alloc (Obj.cells #[Value.int .i64 0, .slice none 0 0] 26)).heap.size = w.heap.size + 1 := by simp
  go_enter Tryd.func47, Tryd.ntmps47
  go_wp2_with fail
  refine (new_any h0).mono ?_
  rintro e w1 ⟨rfl, hb1, cur1⟩
  have br1 := bx0.new hb1
  have hz1 := hb1.size
  have hbw1 := hb0.trans (hb1.mono hb0.size)
  rw [hs0] at hz1 cur1 ⊢
  go_wp2_with fail
  refine (any4_any cur1).mono ?_
  rintro e w2 ⟨N, X, v, _, hok, rfl, hown2, hg2, cur2⟩
  obtain ⟨Av, cv, rfl, _, _, _⟩ := hown2.rd (n := X.length) rfl
  have hl1 := cur1.lt
  have hz2 := hg2.size
  have br2 := br1.only hg2 (by omega)
  have hbw2 := cur_below hbw1 hg2 (by omega)
  have k3 : Below w2.heap.size w2 (w2.alloc (Obj.cells #[Value.int .i64 N, .slice Av X.length cv] 26)) := (Below.refl _ _).alloc (Nat.le_refl _) _
  have br3 := br2.new k3
  have bg3 := Bx.made w2 26 #[Value.int .i64 N, .slice Av X.length cv]
  have ho3 := (hown2.new k3).wide (hi' := (w2.alloc (Obj.cells #[Value.int .i64 N, .slice Av X.length cv] 26)).heap.size) (Nat.le_refl _) k3.size
  have cur3 := cur2.below k3
  have hbw3 := hbw2.trans (k3.mono hbw2.size)
  have HOK := Lib.hid hok
  have hx3 : (w2.alloc (Obj.cells #[Value.int .i64 N, .slice Av X.length cv] 26)).heap.size = w2.heap.size + 1 := by simp
  obtain ⟨w3, hw3⟩ : ∃ u : World, u = w2.alloc (Obj.cells #[Value.int .i64 N, .slice Av X.length cv] 26) := ⟨_, rfl⟩
  rw [← hw3] at br3 bg3 ho3 cur3 hbw3 hx3
  obtain ⟨g, hg⟩ : ∃ g, g = w2.heap.size := ⟨_, rfl⟩
  have hHW := Lib.hid hw3.symm
  clear bx0 hb0 h0 br1 hb1 hbw1 cur1 br2 hbw2 k3 hown2 hg2 cur2 hok hw3 hs0
  go_wp2_with fail
  rw [hHW.out]
  clear hHW
  rw [← hg] at bg3 hx3 hz2 ⊢
  clear hg
  have hHB := Lib.hid bg3
  have HR := Lib.hid br3
  have HO := Lib.hid ho3
  have HC := Lib.hid cur3
  obtain ⟨D0, D1⟩ := bg3.two
  have hBg : w.heap.size + 1 ≠ g := by omega
  have hBr : w.heap.size + 1 ≠ w.heap.size := by omega
  clear bg3 br3 ho3 cur3
  go_region_law (first
    | (go_simp; go_at_call 46; refine (set4_any (HC.out.drew_)).mono ?_; rintro e w7 ⟨zs, u, hzl, rfl, hrow7, hg7, cur7⟩; have bg7 := hHB.out.drew_.only hg7 hBg; have br7 := HR.out.drew_.only hg7 hBr; have ho7 := (HO.out.new ((Below.refl _ _).drew)).only hg7 (by omega); have hz7 : w3.heap.size ≤ w7.heap.size := hg7.size; have hbw7 : Below w.heap.size w w7 := cur_below hbw3.drew hg7 (by omega); obtain ⟨E0, E1⟩ := bg7.two; obtain ⟨R0, R1⟩ := br7.two; have r0 := br7.free 0; have r1 := br7.free 1; have hrw7 : Row w7 w3.heap.size w7.heap.size 3 u (ivs zs) := hrow7))
  all_goals
    go_wp2
    have hk := cells_result (a := .int .i64 N) (b := .slice Av X.length cv) (ho7.wide (Nat.le_refl _) hz7) hbw7 (by omega)
    have hk2 := ((ho7.setFar (p := ⟨w.heap.size, 0, none⟩) (.inl (by simp; omega)) (.int .i64 N)).setFar (p := ⟨w.heap.size, 1, none⟩) (.inl (by simp; omega)) (.slice Av X.length cv)).wide (lo' := w.heap.size) (by omega) (Nat.le_refl _)
    refine bodyPost_ret (resGB rfl ((br7.set 0 _).set 1 _) rfl rfl rfl) rfl ⟨N, X, .slice Av X.length cv, zs, u, w3.heap.size, HOK.out, hzl, rfl, hbw3.size, by simpa using hz7, hk2, ?_, hk.2⟩
    exact ((hrw7.out (Out.setCell w7 (lo := w.heap.size) (hi := w.heap.size + 1) (Nat.le_refl _) (Nat.lt_succ_self _) 0 _) (.inr (by omega))).out (Out.setCell _ (lo := w.heap.size) (hi := w.heap.size + 1) (Nat.le_refl _) (Nat.lt_succ_self _) 1 _) (.inr (by omega))).wide (Nat.le_refl _) (by simp)
theorem drawHit {w : World} {A : Option Addr} {n c : Nat} (h : Code8 w A n) :
    Calls Tryd.prog 47 #[.slice A n c] w (DrewGS w) := (drawHit2 h).mono fun _ _ ⟨N, X, v, zs, u, _, hok, hz, he, h1, h2, hs, hr, hb⟩ => ⟨N, X, v, zs, u, hok, hz, he, hs.wide (Nat.le_refl _) h2, hr.wide h1 (Nat.le_refl _), hb⟩
theorem contains_any {w : World} {A : Option Addr} {n c : Nat} {a : Int} {S : List Int} (hl : Hid (S.length = n)) (hn : n ≤ 1099511627776) (hr : Rd w w.heap.size A (ivs S)) :
    Calls Tryd.prog 13 #[.slice A n c, .int .i64 a] w (fun e w' => e = .returned (.bool (S.contains a)) ∧ w = w') := by
  go_enter Tryd.func13, Tryd.ntmps13
  go_wp2_with fail
  go_loopw [5] (fun i wr => ∃ k : Nat, k ≤ n ∧ i = .int .i64 k ∧ wr = w ∧ Hid ((S.take k).contains a = false)) (fun i _ => n - (intOf i).toNat)
  case atStart => exact ⟨0, Nat.zero_le _, rfl, rfl, Lib.hid rfl⟩
  case round =>
    obtain ⟨k, hk, rfl, rfl, hno⟩ := hrel
    by_cases hlt : k < n
    · have hkz : k < S.length := by rw [hl.out]; exact hlt
      obtain ⟨ad, rfl, hab, hc⟩ := ivs_at hr hkz
      have i0 : (0 : Int) ≤ (k : Int) := by omega
      by_cases h1 : S[k] = a
      · have HY := Lib.hid (show S.contains a = true by rw [List.contains_iff_mem]; exact h1 ▸ List.getElem_mem hkz)
        rw [h1] at hc
        clear h1
        go_wp2_with fail
        go_ret
        exact ⟨ret_b HY.out.symm, rfl⟩
      · have HN := Lib.hid (show (S.take (k + 1)).contains a = false by
          rw [List.take_succ_eq_append_getElem hkz]
          have := hno.out
          simp only [List.contains_eq_mem, decide_eq_false_iff_not, List.mem_append, List.mem_singleton, not_or] at this ⊢
          exact ⟨this, fun e => h1 e.symm⟩)
        have h1' : (S[k] == a) = false := by simpa using h1
        obtain ⟨z, hz⟩ : ∃ z, z = S[k] := ⟨_, rfl⟩
        rw [← hz] at hc h1 h1'
        clear hz
        go_wp2_with fail
        go_roundw
        case rel => exact ⟨k + 1, by omega, by go_num, trivial, HN⟩
        case measure => simp [intOf]; omega
    · have e : k = n := by omega
      subst e
      have HF := Lib.hid (show S.contains a = false by have := hno.out; rwa [List.take_of_length_le (by rw [hl.out]; exact Nat.le_refl _)] at this)
      go_wp2_with fail
      go_ret
      exact ⟨ret_b HF.out.symm, rfl⟩
end Go.Proofs.YtjhknafajfpldaaDoor

/- Contracts of the draws of chapters 5 and 6: IsGraph, IsSet, IsStable, Grounded; of the law's within. Condition: the code's bytes lie in old memory. -/
namespace Go.Proofs.YtjhknafajfpldaaDoor
open Go.ChangeShapes Go.WideShapes Go.ChangeAt Go.RowKit
set_option maxRecDepth 100000
set_option maxHeartbeats 4000000 in
theorem drawSet {w : World} {A : Option Addr} {n c : Nat} (h : Code8 w A n) :
    Calls Tryd.prog 20 #[.slice A n c] w (DrewGS2 13 w) := by
  obtain ⟨ti, hti, hz0, hz1, hz2⟩ := info_parts IntS_info
  have br0 := Bx.made w 26 #[Value.int .i64 0, .slice none 0 0]
  have hb0 : Below w.heap.size w (w.alloc (Obj.cells #[Value.int .i64 0, .slice none 0 0] 26)) := (Below.refl _ _).alloc (Nat.le_refl _) _
  have h0 := h.below hb0
  have hs0 : (w.alloc (Obj.cells #[Value.int .i64 0, .slice none 0 0] 26)).heap.size = w.heap.size + 1 := by simp
  go_enter Tryd.func20, Tryd.ntmps20
  go_wp2_with fail
  refine (drawHit2 h0).mono ?_
  rintro e w2 ⟨N, X, v, zs, u, M, hok, hzl, rfl, hM1, hM2, hown2, hrow2, hb2⟩
  rw [hs0] at hM1 hown2
  obtain ⟨Av, cv, rfl, _, _, _⟩ := hown2.rd (n := X.length) rfl
  have br2 := br0.new hb2
  have hbw2 := hb0.trans (hb2.mono hb0.size)
  have k3 : Below w2.heap.size w2 (w2.alloc (Obj.cells #[Value.int .i64 N, .slice Av X.length cv] 26)) := (Below.refl _ _).alloc (Nat.le_refl _) _
  have br3 := br2.new k3
  have bg3 := Bx.made w2 26 #[Value.int .i64 N, .slice Av X.length cv]
  have ho3 := hown2.new k3
  have hrow3 := hrow2.new k3
  have h3 := h.below (hbw2.trans (k3.mono hbw2.size))
  have hbw3 := hbw2.trans (k3.mono hbw2.size)
  have HOK := Lib.hid hok
  have hx3 : (w2.alloc (Obj.cells #[Value.int .i64 N, .slice Av X.length cv] 26)).heap.size = w2.heap.size + 1 := by simp
  obtain ⟨w3, hw3⟩ : ∃ u : World, u = w2.alloc (Obj.cells #[Value.int .i64 N, .slice Av X.length cv] 26) := ⟨_, rfl⟩
  rw [← hw3] at br3 bg3 ho3 hrow3 h3 hbw3 hx3
  have hHW := Lib.hid hw3.symm
  have hsz2 := hbw2.size
  clear br0 hb0 h0 br2 hbw2 k3 hown2 hrow2 hok hw3 hs0 hb2
  go_wp2_with fail
  rw [hHW.out]
  clear hHW
  refine (new_any h3).mono ?_
  rintro e w4 ⟨rfl, hb4, cur4⟩
  rw [hx3] at cur4
  have br4 := br3.new hb4
  have bg4 := bg3.new hb4
  have ho4 := ho3.new hb4
  have hrow4 := hrow3.new hb4
  have hbw4 := hbw3.trans (hb4.mono hbw3.size)
  have hz4 := hb4.size
  clear br3 bg3 ho3 hrow3 hbw3
  go_wp2_with fail
  refine (once_any cur4 8 (by omega)).mono ?_
  rintro e w5 ⟨x, rfl, hg5, cur5⟩
  have br5 := br4.only hg5 (by omega)
  have bg5 := bg4.only hg5 (by omega)
  have ho5 := ho4.out (Out.of_only hg5) (by omega)
  have hrow5 := hrow4.out (Out.of_only hg5) (by omega)
  have hbw5 := cur_below hbw4 hg5 (by omega)
  have hz5 := hg5.size
  clear br4 bg4 ho4 hrow4 hbw4 cur4
  cases x
  · obtain ⟨D0, D1⟩ := bg5.two
    obtain ⟨R0, R1⟩ := br5.two
    have r0 := br5.free 0
    have r1 := br5.free 1
    have hHB := Lib.hid br5
    go_wp2_with fail
    have br5 := hHB.out
    refine bodyPost_ret (resGB rfl ((br5.set 0 _).set 1 _) rfl rfl rfl) rfl ⟨N, X, .slice Av X.length cv, zs, u, M, HOK.out, by omega, rfl, by omega, by simp; omega, ?_, ?_, (hbw5.setCell (p := ⟨w.heap.size, 0, none⟩) (Nat.le_refl _) _).setCell (p := ⟨w.heap.size, 1, none⟩) (Nat.le_refl _) _⟩
    · exact ((ho5.setFar (p := ⟨w.heap.size, 0, none⟩) (.inl (by simp)) _).setFar (p := ⟨w.heap.size, 1, none⟩) (.inl (by simp)) _).wide (by omega) (Nat.le_refl _)
    · exact ((hrow5.out (Out.setCell w5 (lo := w.heap.size) (hi := w.heap.size + 1) (Nat.le_refl _) (Nat.lt_succ_self _) 0 _) (.inr (by omega))).out (Out.setCell _ (lo := w.heap.size) (hi := w.heap.size + 1) (Nat.le_refl _) (Nat.lt_succ_self _) 1 _) (.inr (by omega))).wide (Nat.le_refl _) (by simp; omega)
  · go_wp2_with fail
    refine (below_any cur5 8 (by omega)).mono ?_
    rintro e w6 ⟨x, _, rfl, hg6, _⟩
    have br6 := br5.only hg6 (by omega)
    have bg6 := bg5.only hg6 (by omega)
    have ho6 := ho5.out (Out.of_only hg6) (by omega)
    have hrow6 := hrow5.out (Out.of_only hg6) (by omega)
    have hbw6 := cur_below hbw5 hg6 (by omega)
    have hz6 := hg6.size
    clear br5 bg5 ho5 hrow5 hbw5 cur5
    have hbl : Below w6.heap.size w6 (w6.alloc (Obj.cells #[Value.int .i64 x] 3)) := (Below.refl _ _).alloc (Nat.le_refl _) _
    have hrowA := hrow6.new hbl
    have hmade := Rd.made w6 #[Value.int .i64 x] 3
    have L : (ivs zs).length + 1 ≤ maxLen ∧ ((ivs zs).length + 1) * 8 ≤ 140737488355328 := by rw [ivs_len]; unfold maxLen; omega
    have L1 := Lib.hid L
    clear L
    have brA := br6.new hbl
    have bgA := bg6.new hbl
    have hoA := ho6.new hbl
    have hbwA := hbw6.trans (hbl.mono hbw6.size)
    have hsA : (w6.alloc (Obj.cells #[Value.int .i64 x] 3)).heap.size = w6.heap.size + 1 := by simp
    have HSA := Lib.hid hsA
    clear br6 bg6 ho6 hrow6 hbw6 hbl hsA
    go_wp2_with (at_builtin; refine wpList_app rfl (.tmp 16) (.tmp 19) 27 rfl 3 ti _ 8 Tryd.underlying27 hti hz0 hz1 hz2 rfl rfl rfl hrowA rfl hmade (by simp [Value.oneCell']) L1.out.1 L1.out.2 (by simp; omega) ?_; intro v1 w7 hrow7 ho7; have br7 := brA.out ho7 (by omega); have bg7 := bgA.out ho7 (by omega); obtain ⟨D0, D1⟩ := bg7.two; obtain ⟨R0, R1⟩ := br7.two; have r0 := br7.free 0; have r1 := br7.free 1; have hHB := Lib.hid br7; clear br7)
    have ho8 := hoA.out ho7 (by omega)
    have hz7 := ho7.size
    rw [HSA.out] at hz7
    have hbw7 := hbwA.trans (ho7.below (B := w.heap.size) (by omega) (by rw [HSA.out]; omega))
    have hrow8 : Row w7 M w7.heap.size 3 v1 (ivs (zs ++ [x])) := by rw [← ivs_snoc_l]; exact hrow7
    have br7 := hHB.out
    refine bodyPost_ret (resGB rfl ((br7.set 0 _).set 1 _) rfl rfl rfl) rfl ⟨N, X, .slice Av X.length cv, zs ++ [x], v1, M, HOK.out, by simp; omega, rfl, by omega, by simp; omega, ?_, ?_, (hbw7.setCell (p := ⟨w.heap.size, 0, none⟩) (Nat.le_refl _) _).setCell (p := ⟨w.heap.size, 1, none⟩) (Nat.le_refl _) _⟩
    · exact ((ho8.setFar (p := ⟨w.heap.size, 0, none⟩) (.inl (by simp)) _).setFar (p := ⟨w.heap.size, 1, none⟩) (.inl (by simp)) _).wide (by omega) (Nat.le_refl _)
    · exact ((hrow8.out (Out.setCell w7 (lo := w.heap.size) (hi := w.heap.size + 1) (Nat.le_refl _) (Nat.lt_succ_self _) 0 _) (.inr (by omega))).out (Out.setCell _ (lo := w.heap.size) (hi := w.heap.size + 1) (Nat.le_refl _) (Nat.lt_succ_self _) 1 _) (.inr (by omega))).wide (Nat.le_refl _) (by simp)
end Go.Proofs.YtjhknafajfpldaaDoor
