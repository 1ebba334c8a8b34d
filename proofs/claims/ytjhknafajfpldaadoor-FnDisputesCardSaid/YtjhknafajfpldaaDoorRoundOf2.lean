/- Contract of the code's RoundOf. No conditions but that the slices have at most 2^40 elements. -/
import Derived.Test.YtjhknafajfpldaaDoorMg26
namespace Go.Proofs.YtjhknafajfpldaaDoor
open Go.ChangeShapes Go.WideShapes Go.ChangeAt Go.RowKit Go.Shelf
attribute [local go_sem] Oper.semAt_some
set_option maxRecDepth 100000
/-- 'has' at a round. -/
def hasR (m : Int) (f : Nat → Nat) (c : Int) (x : Nat) : Bool := inr c 0 9 && (itB m f (x + 1)).testBit c.toNat
set_option maxHeartbeats 8000000 in
theorem impRoundOf_any {w : World} {A : Option Addr} {n c : Nat} {N a : Int} {X : List (List Int)} (hl : Hid (X.length = n)) (hn : n ≤ 1099511627776) (hr : RdSS w w.heap.size A X) :
    Calls Tryd.prog 18 #[.agg #[.int .i64 N, .slice A n c], .int .i64 a] w (fun e w' => e = .returned (.int .i64 (rnd N X a)) ∧ Below w.heap.size w w') := by
  refine (callsIn_wide (n := 3)).1 ?_
  have h1 : 1 ≤ 3 := by omega
  obtain ⟨Wa, hWa, bxa, hba⟩ := one_graph w #[Value.int IntKind.i64 N, Value.slice A n c] 26
  have hsa : Wa.heap.size = w.heap.size + 1 := by rw [hWa]; simp
  have kb := one_made Wa (.int .i64 a) 3
  have hbb : Below w.heap.size w (Wa.alloc (Obj.cells #[.int .i64 a] 3)) := hba.alloc (by omega) _
  have bxb := bxa.new ((Below.refl Wa.heap.size Wa).alloc (Nat.le_refl _) (Obj.cells #[.int .i64 a] 3))
  obtain ⟨Wb, hWb⟩ : ∃ u : World, u = Wa.alloc (Obj.cells #[.int .i64 a] 3) := ⟨_, rfl⟩
  have hsb : Wb.heap.size = w.heap.size + 2 := by rw [hWb]; simp [hsa]
  rw [← hWb, hsa] at kb
  rw [← hWb] at hbb bxb
  have kc := one_made Wb (.int .i64 0) 3
  have kk := (Below.refl Wb.heap.size Wb).alloc (Nat.le_refl _) (Obj.cells #[.int .i64 0] 3)
  have hbc : Below w.heap.size w (Wb.alloc (Obj.cells #[.int .i64 0] 3)) := hbb.alloc (by omega) _
  have bxc := bxb.new kk
  have kb' := (kk.cell (p := ⟨w.heap.size + 1, 0, none⟩) (by simp; omega)).trans kb.1
  obtain ⟨Wc, hWc⟩ : ∃ u : World, u = Wb.alloc (Obj.cells #[.int .i64 0] 3) := ⟨_, rfl⟩
  have hsc : Wc.heap.size = w.heap.size + 3 := by rw [hWc]; simp [hsb]
  rw [← hWc, hsb] at kc
  rw [← hWc] at hbc bxc kb'
  have HR := Lib.hid ((hr.below hbc).more hbc.size)
  obtain ⟨C0, C1⟩ := bxc.two
  have HW1 := hWa.symm
  have HW2 := hWb.symm
  have HW3 := hWc.symm
  clear hWa hWb hWc kb kk hr bxa bxb
  refine callsIn_of_wp_marks Tryd.func18 rfl trivial ?_ rfl
  simp only [Tryd.ntmps18, List.size_toArray, List.length_cons, List.length_nil, Nat.reduceAdd, Nat.reduceSub, Array.replicate_succ, Array.replicate_zero, List.push_toArray, List.append_toArray, List.nil_append, List.cons_append]
  gi_wp2_with fail
  refine ⟨trivial, ?_⟩
  clear HW1 HW2 HW3
  refine (callsIn_wide.2 (rowsOf_any (N := N) (X := X) (c := c) hl hn HR.out)).mono ?_
  rintro e w2 ⟨rfl, hb2⟩
  have hb3 := hbc.trans (hb2.mono hbc.size)
  have d1 := (hb2.cell (p := ⟨w.heap.size + 1, 0, none⟩) (by simp; omega)).trans kb'
  have d2 := (hb2.cell (p := ⟨w.heap.size + 2, 0, none⟩) (by simp; omega)).trans kc.1
  have g2 := (hb2.frozen (p := ⟨w.heap.size + 2, 0, none⟩) (by simp; omega)).trans kc.2
  have hs2 := hb2.size
  clear bxc C0 C1 kb' kc HR
  obtain ⟨K, hK10, hK, hgrow⟩ := stop_ex N X
  have HH := Lib.hid (fun (x : Nat) (hx : x < K) (h : hasR (rn N X) (rf N X) a x = true) (hno : ∀ y, y < x → hasR (rn N X) (rf N X) a y = false) => rnd_hit hK hgrow hx h hno)
  have HM := Lib.hid (fun (hno : ∀ y, y < K → hasR (rn N X) (rf N X) a y = false) => rnd_miss (c := a) hK hno)
  obtain ⟨r0, r1⟩ := rn_le N X
  have hfl := rf_lt N X
  generalize rf N X = f at hfl HH HM hK hgrow ⊢
  generalize rn N X = m at r0 r1 HH HM hK hgrow ⊢
  gi_wp2_with fail
  refine ⟨trivial, ?_⟩
  refine (callsIn_wide.2 rounds_any).mono ?_
  rintro e w5 ⟨rfl, rfl⟩
  obtain ⟨g, hg⟩ : ∃ g, g = w2.heap.size := ⟨_, rfl⟩
  have bx4 := Bx.made w2 49 (arC m f)
  have k4 : Below w2.heap.size w2 (w2.alloc (Obj.cells (arC m f) 49)) := (Below.refl w2.heap.size w2).alloc (Nat.le_refl _) _
  have hb4 : Below w.heap.size w (w2.alloc (Obj.cells (arC m f) 49)) := hb3.alloc (by omega) _
  have d3 := (k4.cell (p := ⟨w.heap.size + 1, 0, none⟩) (by simp; omega)).trans d1
  have d4 := (k4.cell (p := ⟨w.heap.size + 2, 0, none⟩) (by simp; omega)).trans d2
  have g4 := (k4.frozen (p := ⟨w.heap.size + 2, 0, none⟩) (by simp; omega)).trans g2
  have hs4 : (w2.alloc (Obj.cells (arC m f) 49)).heap.size = g + 1 := by simp [hg]
  rw [← hg] at bx4 ⊢
  generalize w2.alloc (Obj.cells (arC m f) 49) = W4 at *
  have hsz4 := hb4.size
  clear hg hs2 hb3 hb2 k4 d1 d2 g2
  have hlt10 : ∀ x, itB m f (x + 1) < 65536 := fun x => Nat.lt_trans (itB_lt r1 f _) (by decide)
  gi_wp2_with fail
  refine wpIn_rangeFunc_ownF rfl h1 (gf := 56) (lb := #[.pointer (some ⟨g, 0, none⟩)]) rfl trivial (enters_of Tryd.func56 (by kernel_rfl) rfl)
    (rounds_stops 2 (by omega) g r0 r1 hfl hK10 hK hgrow bx4 (by omega)) keepB_t (keepB_b (by omega)) (Below.refl _ _) (fun _ => rfl)
    (fun pre W => ((∀ y ∈ pre, hasR m f a y = false) ∧ W.cell? ⟨w.heap.size + 1, 0, none⟩ = some (.int .i64 a) ∧ W.cell? ⟨w.heap.size + 2, 0, none⟩ = some (.int .i64 0) ∧ W.frozen? ⟨w.heap.size + 2, 0, none⟩ = false) ∧ Below w.heap.size w W)
    (fun c pre W => (c = .ret ∧ ∃ p x, pre = p ++ [x] ∧ (∀ y ∈ p, hasR m f a y = false) ∧ hasR m f a x = true ∧ W.cell? ⟨w.heap.size + 2, 0, none⟩ = some (.int .i64 ((x : Int) + 1))) ∧ Below w.heap.size w W)
    (OwnFrom.and (Own.from (fun s A B row hs hg hr => ⟨hs.1, cell_kept hs.2.1 hg hr, cell_kept hs.2.2.1 hg hr, (frozen_kept hs.2.2.1 hg hr).trans hs.2.2.2⟩) _) (ownFrom_below (Nat.le_refl _) (by omega)))
    (fun c => OwnFrom.and (Own.from (fun s A B row hs hg hr => by obtain ⟨hc, p, x, e1, e2, e3, e4⟩ := hs; exact ⟨hc, p, x, e1, e2, e3, cell_kept e4 hg hr⟩) _) (ownFrom_below (Nat.le_refl _) (by omega)))
    ⟨⟨by simp, d3, d4, g4⟩, hb4⟩
    (fun x => { tmps := #[.agg #[.int .i64 N, .slice A n c], .int .i64 a, .pointer (some ⟨w.heap.size, 0, none⟩), .pointer (some ⟨w.heap.size + 1, 0, none⟩), .pointer (some ⟨w.heap.size + 2, 0, none⟩), .int .i64 ((x : Int) + 1), .int .u16 (itB m f (x + 1) : Nat), .agg #[.int .i64 N, .slice A n c], .agg (arC m f), .func (.func 56) #[] #[.pointer (some ⟨g, 0, none⟩)], .int .i64 ((x : Int) + 1), .int .u16 (itB m f (x + 1) : Nat), undef, undef, undef, undef], defers := [] }) ?assign ?body ?done ?stop
  case assign =>
    intro l x W K hK
    gi_wp2
    exact hK
  case body =>
    rintro l pre x W ⟨⟨hp, hca, hcr, hfr⟩, hB⟩ _
    have hx := hlt10 x
    by_cases hh : hasR m f a x = true
    · have HI := Lib.hid hh
      gi_wp2_with (refine ⟨trivial, ?_⟩; gi_at_call 44; refine (CallsIn.inRound l (callsIn_wide.2 (has_any hx))).mono ?_; rintro e w9 ⟨he, rfl⟩; rw [show (inr a 0 9 && (itB m f (x + 1)).testBit a.toNat) = true from HI.out] at he; subst he)
      exact ⟨KeepsOthers.setCell _ _ _, ⟨rfl, pre, x, rfl, hp, HI.out, World.cell?_setCell_same' _ _ _ (by rw [hcr]; rfl)⟩, hB.setCell (p := ⟨w.heap.size + 2, 0, none⟩) (by simp) _⟩
    · have hh' : hasR m f a x = false := by simpa using hh
      have HI := Lib.hid hh'
      clear hh hh'
      gi_wp2_with (refine ⟨trivial, ?_⟩; gi_at_call 44; refine (CallsIn.inRound l (callsIn_wide.2 (has_any hx))).mono ?_; rintro e w9 ⟨he, rfl⟩; rw [show (inr a 0 9 && (itB m f (x + 1)).testBit a.toNat) = false from HI.out] at he; subst he)
      exact ⟨KeepsOthers.refl _, rfl, ⟨fun y hy => (List.mem_append.1 hy).elim (hp y) (fun e => by simp at e; subst e; exact HI.out), hca, hcr, hfr⟩, hB⟩
  case done =>
    rintro D ys W hD rfl ⟨⟨hne, _, hcr, hfr⟩, hB⟩ hK'
    have HR := Lib.hid (HM.out (fun y hy => hne y (List.mem_range.2 hy)))
    clear hne
    gi_wp2
    have hK2 := (KeepsOthers.setCell W ⟨w.heap.size + 2, 0, none⟩ (.int .i64 (-1))).same D _ hK' rfl
    refine ⟨by simp, .inl ⟨_, _, rfl, run_takeDeferred hK2, ?_⟩⟩
    have hc5 := cell_kept (World.cell?_setCell_same' W ⟨w.heap.size + 2, 0, none⟩ (.int .i64 (-1)) (by rw [hcr]; rfl)) (grownBy_putObj' _ D (.deferred none)) (fun r e => by cases e; exact ⟨_, hK2, rfl⟩)
    refine ⟨.int .i64 (-1), ?_, by rw [HR.out], (hB.setCell (p := ⟨w.heap.size + 2, 0, none⟩) (by simp) _).trans (belowK_b (w := w) (Nat.le_refl _) _ D _ _ (by omega) hK2 rfl rfl)⟩
    simp [results, Tryd.f18, go_sem, hc5]
  case stop =>
    rintro D c pre W hD ⟨j, hj, hpre⟩ ⟨⟨rfl, p, x, e1, e2, e3, hcr⟩, hB⟩ hK'
    have hx : x < K ∧ ∀ y, y < x → hasR m f a y = false := by
      rw [e1] at hpre
      cases j with
      | zero => simp at hpre
      | succ j =>
        rw [List.range_succ] at hpre
        obtain ⟨h1, h2⟩ := List.append_inj' hpre rfl
        injection h2 with h2 _
        subst h2
        exact ⟨by omega, fun y hy => e2 y (by rw [h1]; exact List.mem_range.2 hy)⟩
    have HR := Lib.hid (HH.out x hx.1 e3 hx.2)
    gi_wp2
    refine ⟨by simp, .inl ⟨_, _, rfl, run_takeDeferred hK', ?_⟩⟩
    have hc5 := cell_kept hcr (grownBy_putObj' _ D (.deferred none)) (fun r e => by cases e; exact ⟨_, hK', rfl⟩)
    refine ⟨.int .i64 ((x : Int) + 1), ?_, by rw [HR.out], hB.trans (belowK_b (w := w) (Nat.le_refl _) W D _ _ (by omega) hK' rfl rfl)⟩
    simp [results, Tryd.f18, go_sem, hc5]
end Go.Proofs.YtjhknafajfpldaaDoor
