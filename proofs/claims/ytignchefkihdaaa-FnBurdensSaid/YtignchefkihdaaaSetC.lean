/- Contract of the code's IsSettled. Condition: the points have at most 2^40 elements. -/
import Derived.Test.YtignchefkihdaaaDueC
import Derived.Test.YtignchefkihdaaaBits
namespace Go.Proofs.Ytignchefkihdaaa
open Go.ChangeShapes Go.WideShapes Go.ChangeAt Go.RowKit Go.Shelf
attribute [local go_sem] Oper.semAt_some
set_option maxRecDepth 100000
theorem due_stops (n : Nat) (hn : 1 ≤ n) (Bn n₀ : Nat) {A : Option Addr} {N cc : Nat} {X : List T3} (hl : Hid (X.length = N)) (hN : N ≤ 1099511627776) {w : World} (hBn : w.cell? ⟨Bn, 0, none⟩ = some (.slice A N cc)) (hr : Rd w n₀ A (t3s X)) (hn0 : n₀ ≤ w.heap.size) :
    SeqStopsK Fence.wide n Try.prog 140 #[.pointer (some ⟨Bn, 0, none⟩)] encD (Below n₀) (fun ys => ys = dueL X) (fun pre => pre <+: dueL X) N w := fun l J Jx W hW hJ _ hY h0 =>
  due1_in n hn l Bn n₀ hl hN J Jx W (cell_nw hW hBn) (hr.below (hW.mono hn0)) (Nat.le_trans hn0 hW.size) hJ hY h0
set_option maxHeartbeats 4000000 in
theorem impIsSettled_any {w : World} {A : Option Addr} {N c : Nat} {X : List T3} (hl : Hid (X.length = N)) (hN : N ≤ 1099511627776) (hr : Rd w w.heap.size A (t3s X)) :
    Calls Try.prog 33 #[.slice A N c] w (Tells (setP X) w) := by
  refine (callsIn_wide (n := 3)).1 ?_
  have h1 : 1 ≤ 3 := by omega
  have b1 := alloc_new' w (Obj.cells #[.bool false] 4)
  have c1 := Bx.made w 4 #[.bool false]
  obtain ⟨W1, hW1⟩ : ∃ u : World, w.alloc (Obj.cells #[.bool false] 4) = u := ⟨_, rfl⟩
  have hs1 : W1.heap.size = w.heap.size + 1 := by rw [← hW1]; simp
  rw [hW1] at b1 c1
  have HW1 := Lib.hid hW1
  have b2 := alloc_new' W1 (Obj.cells #[.slice A N c] 35)
  have c2 := Bx.made W1 35 #[.slice A N c]
  obtain ⟨W2, hW2⟩ : ∃ u : World, W1.alloc (Obj.cells #[.slice A N c] 35) = u := ⟨_, rfl⟩
  have hs2 : W2.heap.size = w.heap.size + 2 := by rw [← hW2]; simp [hs1]
  rw [hW2] at b2 c2
  have HW2 := Lib.hid hW2
  have c12 := c1.new b2
  have b12 := b1.trans (b2.mono b1.size)
  rw [hs1] at c2
  have e1 := c12.at_ (k := 0) rfl
  have f1 := c12.free 0
  have e2 := c2.at_ (k := 0) rfl
  have HR := Lib.hid hr
  clear hW1 hW2 c1 c2 b1 b2 hr
  refine callsIn_of_wp_marks Try.func33 rfl trivial ?_ rfl
  simp only [Try.ntmps33, List.size_toArray, List.length_cons, List.length_nil, Nat.reduceAdd, Nat.reduceSub, Array.replicate_succ, Array.replicate_zero, List.push_toArray, List.append_toArray, List.nil_append, List.cons_append]
  gi_wp2_with fail
  refine ⟨trivial, ?_⟩
  rw [HW1.out]
  refine (callsIn_wide.2 due_any).mono ?_
  rintro e w5 ⟨rfl, rfl⟩
  rw [HW2.out]
  rw [hs1]
  gi_wp2_with fail
  have hrW := (HR.out.below b12).more b12.size
  have HRW := Lib.hid hrW
  have HB12 := Lib.hid b12
  refine wpIn_rangeFunc_ownG rfl h1 (gf := 140) (lb := #[.pointer (some ⟨w.heap.size + 1, 0, none⟩)]) rfl trivial (enters_of Try.func140 (by kernel_rfl) rfl)
    (due_stops 2 (by omega) (w.heap.size + 1) w.heap.size hl hN e2 (HR.out.below b12) b12.size) belowK_t (belowK_b (by omega)) (Below.refl _ _) (fun _ => rfl)
    (fun pre W => (pre = [] ∧ W.cell? ⟨w.heap.size, 0, none⟩ = some (.bool false) ∧ W.frozen? ⟨w.heap.size, 0, none⟩ = false) ∧ Below w.heap.size w W)
    (fun c pre W => (c = .ret ∧ pre ≠ [] ∧ W.cell? ⟨w.heap.size, 0, none⟩ = some (.bool false)) ∧ Below w.heap.size w W)
    (OwnFrom.and (Own.from (fun s A B row hs hg hr => ⟨hs.1, cell_kept hs.2.1 hg hr, (frozen_kept hs.2.1 hg hr).trans hs.2.2⟩) _) (ownFrom_below (Nat.le_refl _) (by omega)))
    (fun c => OwnFrom.and (Own.from (fun s A B row hs hg hr => ⟨hs.1, hs.2.1, cell_kept hs.2.2 hg hr⟩) _) (ownFrom_below (Nat.le_refl _) (by omega)))
    ⟨⟨rfl, e1, f1⟩, b12⟩
    (fun x => { tmps := #[.slice A N c, undef, .pointer (some ⟨w.heap.size, 0, none⟩), .slice A N c, .func (.func 140) #[] #[.pointer (some ⟨w.heap.size + 1, 0, none⟩)], .int .i64 (spkA x), .int .i64 x.1, undef, undef], defers := [] }) ?assign ?body ?done ?stop
  case assign =>
    intro l x W K hK
    gi_wp2
    simpa [encD] using hK
  case body =>
    rintro l pre x W ⟨⟨hp, hc, hf⟩, hB⟩ _
    gi_wp2
    exact ⟨(KeepsOthers.setCell _ _ _).from _, ⟨rfl, by simp, World.cell?_setCell_same' _ _ _ (by rw [hc]; rfl)⟩, hB.setCell (p := ⟨w.heap.size, 0, none⟩) (Nat.le_refl _) _⟩
  case done =>
    rintro D ys W hD rfl ⟨⟨hnil, hcr, hfr⟩, hB⟩ hK
    have HN := Lib.hid hnil
    have hrr := (HR.out.below hB).more hB.size
    obtain ⟨b, hb⟩ : ∃ b, ptB X = b := ⟨_, rfl⟩
    have HPB := Lib.hid hb
    have HV := Lib.hid (show setP X = b by rw [set_due, hnil, hb]; cases b <;> rfl)
    have HRR := Lib.hid hrr
    clear hnil hb hrr
    gi_wp2_with fail
    refine ⟨trivial, ?_⟩
    refine (callsIn_wide.2 (impArePoints_any (X := X) hl hN HRR.out)).mono ?_
    rintro e u ⟨rfl, r⟩
    rw [HPB.out]
    have hlD : D < W.heap.size := (Array.getElem?_eq_some_iff.1 hK).1
    have hKu := (r.block D hlD).trans hK
    have hcu := cell_nw r hcr
    have hfu := (r.frozen (p := ⟨w.heap.size, 0, none⟩) (cell_lt hcr)).trans hfr
    have hBu := hB.trans (r.mono hB.size)
    clear r hK hcr hfr hB
    gi_wp2
    have hK' := (KeepsOthers.setCell u ⟨w.heap.size, 0, none⟩ (.bool b)).same D _ hKu rfl
    refine ⟨by simp, .inl ⟨_, _, rfl, run_takeDeferred hK', ?_⟩⟩
    have hc5 := cell_kept (World.cell?_setCell_same' u ⟨w.heap.size, 0, none⟩ (.bool b) (by rw [hcu]; rfl)) (grownBy_putObj' _ D (.deferred none)) (fun r e => by cases e; exact ⟨_, hK', rfl⟩)
    refine ⟨.bool b, ?_, by rw [HV.out], (hBu.setCell (p := ⟨w.heap.size, 0, none⟩) (Nat.le_refl _) _).trans (belowK_b (w := w) (Nat.le_refl _) _ D _ _ (by omega) hK' rfl rfl)⟩
    simp [results, Try.f33, go_sem, hc5]
  case stop =>
    rintro D c pre W hD hpre ⟨⟨rfl, hne, hcr⟩, hB⟩ hK
    gi_wp2
    refine ⟨by simp, .inl ⟨_, _, rfl, run_takeDeferred hK, ?_⟩⟩
    have hc5 := cell_kept hcr (grownBy_putObj' _ D (.deferred none)) (fun r e => by cases e; exact ⟨_, hK, rfl⟩)
    have hS : setP X = false := by
      rw [set_due]
      cases hd : dueL X with
      | nil => rw [hd] at hpre; exact absurd (List.prefix_nil.1 hpre) hne
      | cons y l => simp
    refine ⟨.bool false, ?_, by rw [hS], hB.trans (belowK_b (w := w) (Nat.le_refl _) W D _ _ (by omega) hK rfl rfl)⟩
    simp [results, Try.f33, go_sem, hc5]
end Go.Proofs.Ytignchefkihdaaa
