/- Contracts of HallWinner, the model's and the code's. Condition: the slice has at most 2^40 elements. -/
import Derived.Test.YtjfmpgplbcpakaaHalM
import Derived.Test.YtjfmpgplbcpakaaHalC
import Derived.Test.YtjfmpgplbcpakaaOrN
import Derived.Test.YtjfmpgplbcpakaaBits
import Derived.Deep.RegionHeld3
namespace Go.Proofs.Ytjfmpgplbcpakaa
open Go.ChangeShapes Go.WideShapes Go.ChangeAt Go.RowKit
set_option maxRecDepth 100000
/-- The cells of a hall's table. -/
abbrev h9 (f : Nat → Int) : Array Value := #[.int .i64 (f 0), .int .i64 (f 1), .int .i64 (f 2), .int .i64 (f 3), .int .i64 (f 4), .int .i64 (f 5), .int .i64 (f 6), .int .i64 (f 7), .int .i64 (f 8)]
theorem h9_get (f : Nat → Int) {k : Nat} (hk : k < 9) : (h9 f)[k]? = some (.int .i64 (f k)) := by
  have : k = 0 ∨ k = 1 ∨ k = 2 ∨ k = 3 ∨ k = 4 ∨ k = 5 ∨ k = 6 ∨ k = 7 ∨ k = 8 := by omega
  rcases this with rfl | rfl | rfl | rfl | rfl | rfl | rfl | rfl | rfl <;> rfl
theorem h9_set (f : Nat → Int) (k : Nat) (v : Int) (hk : k < 9) : (h9 f).setIfInBounds k (.int .i64 v) = h9 (fun j => if j = k then v else f j) := by
  have : k = 0 ∨ k = 1 ∨ k = 2 ∨ k = 3 ∨ k = 4 ∨ k = 5 ∨ k = 6 ∨ k = 7 ∨ k = 8 := by omega
  rcases this with rfl | rfl | rfl | rfl | rfl | rfl | rfl | rfl | rfl <;> rfl
def tabF (X : List T2) (k : Nat) : Int := X.countP (mvF ((k / 3 : Nat) : Int) ((k % 3 : Nat) : Int))
theorem tab_snoc {X : List T2} {k a b : Nat} (hk : k < X.length) (ha : X[k].1 = (b : Int)) (hb : X[k].2 = (a : Int)) (ha3 : a < 3) (hb3 : b < 3) (v : Int) (hv : v = tabF (X.take k) (b * 3 + a) + 1) :
    ∀ j, j < 9 → (if j = b * 3 + a then v else tabF (X.take k) j) = tabF (X.take (k + 1)) j := by
  intro j hj
  have hs : tabF (X.take (k + 1)) j = tabF (X.take k) j + (if mvF ((j / 3 : Nat) : Int) ((j % 3 : Nat) : Int) X[k] then 1 else 0) := by
    unfold tabF
    rw [List.take_succ_eq_append_getElem hk, List.countP_append, List.countP_singleton]
    split <;> simp
  rw [hs]
  unfold mvF
  rw [ha, hb]
  by_cases e : j = b * 3 + a
  · subst e
    rw [if_pos rfl, hv]
    have e1 : (b * 3 + a) / 3 = b := by omega
    have e2 : (b * 3 + a) % 3 = a := by omega
    rw [e1, e2]
    simp
  · rw [if_neg e]
    have : ((b : Int) == ((j / 3 : Nat) : Int) && (a : Int) == ((j % 3 : Nat) : Int)) = false := by
      rw [Bool.and_eq_false_iff]
      by_cases e1 : b = j / 3
      · right
        have : a ≠ j % 3 := fun h => e (by omega)
        simp; omega
      · left; simp; omega
    rw [this]; simp
theorem after_sum {X : List T2} (h : X.all hrOk = true) (s : Nat) (hs : s < 3) : (aftN X s : Int) = tabF X s + tabF X (3 + s) + tabF X (6 + s) := by
  unfold tabF aftN
  rw [show s / 3 = 0 by omega, show s % 3 = s by omega, show (3 + s) / 3 = 1 by omega, show (3 + s) % 3 = s by omega, show (6 + s) / 3 = 2 by omega, show (6 + s) % 3 = s by omega]
  induction X with
  | nil => rfl
  | cons x X ih =>
    rw [List.all_cons, Bool.and_eq_true] at h
    have h1 := ih h.2
    have hx := h.1
    unfold hrOk inr at hx
    simp at hx
    simp only [List.countP_cons]
    have hx1 : x.1 = 0 ∨ x.1 = 1 ∨ x.1 = 2 := by omega
    unfold afF mvF
    unfold afF mvF at h1
    rcases hx1 with e | e | e <;> rw [e] <;> by_cases e2 : x.2 = (s : Int) <;> simp [e2] <;> (try simp at h1) <;> omega
theorem before_sum {X : List T2} (h : X.all hrOk = true) (s : Nat) (hs : s < 3) : (befN X s : Int) = tabF X (s * 3) + tabF X (s * 3 + 1) + tabF X (s * 3 + 2) := by
  unfold tabF befN
  rw [show s * 3 / 3 = s by omega, show s * 3 % 3 = 0 by omega, show (s * 3 + 1) / 3 = s by omega, show (s * 3 + 1) % 3 = 1 by omega, show (s * 3 + 2) / 3 = s by omega, show (s * 3 + 2) % 3 = 2 by omega]
  induction X with
  | nil => rfl
  | cons x X ih =>
    rw [List.all_cons, Bool.and_eq_true] at h
    have h1 := ih h.2
    have hx := h.1
    unfold hrOk inr at hx
    simp at hx
    simp only [List.countP_cons]
    have hx1 : x.2 = 0 ∨ x.2 = 1 ∨ x.2 = 2 := by omega
    unfold beF mvF
    unfold beF mvF at h1
    rcases hx1 with e | e | e <;> rw [e] <;> by_cases e2 : x.1 = (s : Int) <;> simp [e2] <;> (try simp at h1) <;> omega
set_option maxHeartbeats 4000000 in
theorem hallTableOf_any {w : World} {A : Option Addr} {n c : Nat} {X : List T2} (hl : Hid (X.length = n)) (hn : n ≤ 100) (hok : Hid (X.all hrOk = true)) (hr : Rd w w.heap.size A (t2s X)) :
    Calls Try.prog 13 #[.slice A n c] w (fun e w' => ∃ f, e = .returned (.agg (h9 f)) ∧ (∀ j, j < 9 → f j = tabF X j) ∧ Below w.heap.size w w') := by
  have bx2 := Bx.made (w.alloc (Obj.cells (h9 fun _ => 0) 32)) 32 (h9 fun _ => 0)
  have hb0 : Below w.heap.size w ((w.alloc (Obj.cells (h9 fun _ => 0) 32)).alloc (Obj.cells (h9 fun _ => 0) 32)) := ((Below.refl _ _).alloc (Nat.le_refl _) _).alloc (by simp) _
  obtain ⟨W2, hW⟩ : ∃ u, (w.alloc (Obj.cells (h9 fun _ => 0) 32)).alloc (Obj.cells (h9 fun _ => 0) 32) = u := ⟨_, rfl⟩
  rw [hW] at bx2 hb0
  rw [show (w.alloc (Obj.cells (h9 fun _ => 0) 32)).heap.size = w.heap.size + 1 by simp] at bx2
  have bx1 : Bx W2 w.heap.size 32 (h9 fun _ => 0) := by
    rw [← hW]
    exact ((Below.refl _ _).alloc (Nat.le_refl _) _).block _ (by simp) |>.trans (Bx.made w _ _)
  have HW := Lib.hid hW
  have HB2 := Lib.hid bx2
  have HB1 := Lib.hid bx1
  have hz : w.heap.size + 2 ≤ W2.heap.size := by rw [← hW]; simp
  clear hW bx2 bx1
  go_enter Try.func13, Try.ntmps13
  go_wp2_with fail
  rw [HW.out]
  try (go_wp2_with fail)
  have hr2 := (hr.below hb0).more hb0.size
  go_loopw [9] (fun i wr => ∃ (k : Nat) (f : Nat → Int), k ≤ n ∧ i = .int .i64 k ∧ Bx wr (w.heap.size + 1) 32 (h9 f) ∧ Bx wr w.heap.size 32 (h9 fun _ => 0) ∧ Hid (∀ j, j < 9 → f j = tabF (X.take k) j) ∧ Below w.heap.size w wr ∧ w.heap.size + 2 ≤ wr.heap.size) (fun i _ => n - (intOf i).toNat)
  case atStart => exact ⟨0, _, Nat.zero_le _, rfl, HB2.out, HB1.out, Lib.hid (fun j _ => by simp [tabF]), hb0, hz⟩
  case round =>
    obtain ⟨k, f, hk, rfl, b2, b1, hf, hb, hsz⟩ := hrel
    by_cases hlt : k < n
    · have hkz : k < X.length := by rw [hl.out]; exact hlt
      obtain ⟨ad, p, rfl, hp, hab, c0, c1⟩ := t2_cells ((hr.below hb).more hb.size) hkz
      have i0 : (0 : Int) ≤ (k : Int) := by omega
      have i1 : (k : Int) < (n : Int) := by omega
      have hv := List.all_eq_true.1 hok.out X[k] (List.getElem_mem _)
      unfold hrOk inr at hv
      simp at hv
      have HT := Lib.hid (fun (a b : Nat) ha hb' ha3 hb3 v hv => tab_snoc (X := X) (k := k) (a := a) (b := b) hkz ha hb' ha3 hb3 v hv)
      have hcb := fun (j : Nat) => cnt2_le (mvF ((j / 3 : Nat) : Int) ((j % 3 : Nat) : Int)) X k
      obtain ⟨x, hx⟩ : ∃ x, x = X[k] := ⟨_, rfl⟩
      rw [← hx] at c0 c1 hv HT
      obtain ⟨b, hbe⟩ : ∃ b : Nat, x.1 = (b : Int) := ⟨x.1.toNat, by omega⟩
      obtain ⟨a, hae⟩ : ∃ a : Nat, x.2 = (a : Int) := ⟨x.2.toNat, by omega⟩
      have hb3 : b < 3 := by omega
      have ha3 : a < 3 := by omega
      rw [hbe] at c0
      rw [hae] at c1
      have hf9 := hf.out (b * 3 + a) (by omega)
      have hfb : 0 ≤ f (b * 3 + a) ∧ f (b * 3 + a) ≤ 100 := by
        rw [hf9]
        have := hcb (b * 3 + a)
        unfold cnt2 at this
        unfold tabF
        omega
      have HN := Lib.hid (HT.out a b hbe hae ha3 hb3 (f (b * 3 + a) + 1) (by rw [hf9]))
      have HFF := Lib.hid hf.out
      -- the box of the hearer
      obtain ⟨W3, hW3, bx, hb1', hz3⟩ := box2 wr 40 (.int .i64 (b : Int)) (.int .i64 (a : Int))
      have HW3 := Lib.hid hW3
      obtain ⟨d0, d1⟩ := bx.two
      have b2' := b2.new hb1'
      have b1'' := b1.new hb1'
      have hg : W3.cell? ⟨w.heap.size + 1, b * 3 + a, none⟩ = some (.int .i64 (f (b * 3 + a))) := by rw [cell_of_row _ _ _ _ _ _ b2']; exact h9_get f (by omega)
      have hfz : W3.frozen? ⟨w.heap.size + 1, b * 3 + a, none⟩ = false := b2'.free _
      have b0' : (0 : Int) ≤ (b : Int) := by omega
      have b3' : (b : Int) < 3 := by omega
      have a0' : (0 : Int) ≤ (a : Int) := by omega
      have a3' : (a : Int) < 3 := by omega
      have ww : IntKind.i64.wrap (f (b * 3 + a) + 1) = f (b * 3 + a) + 1 := IntWalk.i64_in _ (by omega)
      have n2 := b2'.set (b * 3 + a) (.int .i64 (f (b * 3 + a) + 1))
      rw [h9_set _ _ _ (by omega)] at n2
      have n1 := b1''.far (p := ⟨w.heap.size + 1, b * 3 + a, none⟩) (by show w.heap.size ≠ w.heap.size + 1; omega) (.int .i64 (f (b * 3 + a) + 1))
      have hbn : Below w.heap.size w (W3.setCell ⟨w.heap.size + 1, b * 3 + a, none⟩ (.int .i64 (f (b * 3 + a) + 1))).drew := ((hb.trans (hb1'.mono hb.size)).setCell (p := ⟨w.heap.size + 1, b * 3 + a, none⟩) (by show w.heap.size ≤ w.heap.size + 1; omega) _).drew
      have HALL := Lib.hid (And.intro n2 (And.intro n1 hbn))
      have HNN : Hid (∀ j, j < 9 → (if j = b * 3 + a then f (b * 3 + a) + 1 else f j) = tabF (X.take (k + 1)) j) := Lib.hid (fun j hj => by
        have := HN.out j hj
        by_cases e : j = b * 3 + a
        · rw [if_pos e] at this ⊢; exact this
        · rw [if_neg e] at this ⊢; rw [HFF.out j hj]; exact this)
      have hsz3 : w.heap.size + 2 ≤ W3.heap.size := by omega
      obtain ⟨z, hz'⟩ : ∃ z, f (b * 3 + a) = z := ⟨_, rfl⟩
      rw [hz'] at hg ww HALL HNN
      obtain ⟨gb, hgb⟩ : ∃ gb, wr.heap.size = gb := ⟨_, rfl⟩
      rw [hgb] at d0 d1
      have HGB := Lib.hid hgb
      clear hx hW3 bx n2 n1 hbn b2 b1 b2' b1'' hz' hf9 hfb hgb hz3 hcb hv hbe hae
      go_wp2_with fail
      rw [HW3.out]
      try rw [HGB.out]
      go_region
      go_wp2_with fail
      go_roundw
      case rel => exact ⟨k + 1, _, by omega, by go_num, HALL.out.1, HALL.out.2.1, HNN, HALL.out.2.2, by simpa using hsz3⟩
      case measure => simp [intOf]; omega
    · have e : k = n := by omega
      subst e
      have HF := Lib.hid (show ∀ j, j < 9 → f j = tabF X j by have := hf.out; rwa [List.take_of_length_le (by rw [hl.out]; exact Nat.le_refl _)] at this)
      have q0 : wr.cell? ⟨w.heap.size + 1, 0, none⟩ = some (.int .i64 (f 0)) := by rw [cell_of_row _ _ _ _ _ _ b2]; rfl
      have q1 : wr.cell? ⟨w.heap.size + 1, 1, none⟩ = some (.int .i64 (f 1)) := by rw [cell_of_row _ _ _ _ _ _ b2]; rfl
      have q2 : wr.cell? ⟨w.heap.size + 1, 2, none⟩ = some (.int .i64 (f 2)) := by rw [cell_of_row _ _ _ _ _ _ b2]; rfl
      have q3 : wr.cell? ⟨w.heap.size + 1, 3, none⟩ = some (.int .i64 (f 3)) := by rw [cell_of_row _ _ _ _ _ _ b2]; rfl
      have q4 : wr.cell? ⟨w.heap.size + 1, 4, none⟩ = some (.int .i64 (f 4)) := by rw [cell_of_row _ _ _ _ _ _ b2]; rfl
      have q5 : wr.cell? ⟨w.heap.size + 1, 5, none⟩ = some (.int .i64 (f 5)) := by rw [cell_of_row _ _ _ _ _ _ b2]; rfl
      have q6 : wr.cell? ⟨w.heap.size + 1, 6, none⟩ = some (.int .i64 (f 6)) := by rw [cell_of_row _ _ _ _ _ _ b2]; rfl
      have q7 : wr.cell? ⟨w.heap.size + 1, 7, none⟩ = some (.int .i64 (f 7)) := by rw [cell_of_row _ _ _ _ _ _ b2]; rfl
      have q8 : wr.cell? ⟨w.heap.size + 1, 8, none⟩ = some (.int .i64 (f 8)) := by rw [cell_of_row _ _ _ _ _ _ b2]; rfl
      have z0 := b1.free 0
      have z1 := b1.free 1
      have z2 := b1.free 2
      have z3 := b1.free 3
      have z4 := b1.free 4
      have z5 := b1.free 5
      have z6 := b1.free 6
      have z7 := b1.free 7
      have z8 := b1.free 8
      have y0 : wr.cell? ⟨w.heap.size, 0, none⟩ = some (.int .i64 0) := by rw [cell_of_row _ _ _ _ _ _ b1]; rfl
      have y1 : wr.cell? ⟨w.heap.size, 1, none⟩ = some (.int .i64 0) := by rw [cell_of_row _ _ _ _ _ _ b1]; rfl
      have y2 : wr.cell? ⟨w.heap.size, 2, none⟩ = some (.int .i64 0) := by rw [cell_of_row _ _ _ _ _ _ b1]; rfl
      have y3 : wr.cell? ⟨w.heap.size, 3, none⟩ = some (.int .i64 0) := by rw [cell_of_row _ _ _ _ _ _ b1]; rfl
      have y4 : wr.cell? ⟨w.heap.size, 4, none⟩ = some (.int .i64 0) := by rw [cell_of_row _ _ _ _ _ _ b1]; rfl
      have y5 : wr.cell? ⟨w.heap.size, 5, none⟩ = some (.int .i64 0) := by rw [cell_of_row _ _ _ _ _ _ b1]; rfl
      have y6 : wr.cell? ⟨w.heap.size, 6, none⟩ = some (.int .i64 0) := by rw [cell_of_row _ _ _ _ _ _ b1]; rfl
      have y7 : wr.cell? ⟨w.heap.size, 7, none⟩ = some (.int .i64 0) := by rw [cell_of_row _ _ _ _ _ _ b1]; rfl
      have y8 : wr.cell? ⟨w.heap.size, 8, none⟩ = some (.int .i64 0) := by rw [cell_of_row _ _ _ _ _ _ b1]; rfl
      have bN : Bx (((((((((wr.setCell ⟨w.heap.size, 0, none⟩ (.int .i64 (f 0))).setCell ⟨w.heap.size, 1, none⟩ (.int .i64 (f 1))).setCell ⟨w.heap.size, 2, none⟩ (.int .i64 (f 2))).setCell ⟨w.heap.size, 3, none⟩ (.int .i64 (f 3))).setCell ⟨w.heap.size, 4, none⟩ (.int .i64 (f 4))).setCell ⟨w.heap.size, 5, none⟩ (.int .i64 (f 5))).setCell ⟨w.heap.size, 6, none⟩ (.int .i64 (f 6))).setCell ⟨w.heap.size, 7, none⟩ (.int .i64 (f 7))).setCell ⟨w.heap.size, 8, none⟩ (.int .i64 (f 8))) w.heap.size 32 (h9 f) := (((((((((b1.set 0 (.int .i64 (f 0))).set 1 (.int .i64 (f 1))).set 2 (.int .i64 (f 2))).set 3 (.int .i64 (f 3))).set 4 (.int .i64 (f 4))).set 5 (.int .i64 (f 5))).set 6 (.int .i64 (f 6))).set 7 (.int .i64 (f 7))).set 8 (.int .i64 (f 8)))
      have e0 := bN.at_ (k := 0) (v := .int .i64 (f 0)) rfl
      have e1 := bN.at_ (k := 1) (v := .int .i64 (f 1)) rfl
      have e2 := bN.at_ (k := 2) (v := .int .i64 (f 2)) rfl
      have e3 := bN.at_ (k := 3) (v := .int .i64 (f 3)) rfl
      have e4 := bN.at_ (k := 4) (v := .int .i64 (f 4)) rfl
      have e5 := bN.at_ (k := 5) (v := .int .i64 (f 5)) rfl
      have e6 := bN.at_ (k := 6) (v := .int .i64 (f 6)) rfl
      have e7 := bN.at_ (k := 7) (v := .int .i64 (f 7)) rfl
      have e8 := bN.at_ (k := 8) (v := .int .i64 (f 8)) rfl
      have hbN : Below w.heap.size w (((((((((wr.setCell ⟨w.heap.size, 0, none⟩ (.int .i64 (f 0))).setCell ⟨w.heap.size, 1, none⟩ (.int .i64 (f 1))).setCell ⟨w.heap.size, 2, none⟩ (.int .i64 (f 2))).setCell ⟨w.heap.size, 3, none⟩ (.int .i64 (f 3))).setCell ⟨w.heap.size, 4, none⟩ (.int .i64 (f 4))).setCell ⟨w.heap.size, 5, none⟩ (.int .i64 (f 5))).setCell ⟨w.heap.size, 6, none⟩ (.int .i64 (f 6))).setCell ⟨w.heap.size, 7, none⟩ (.int .i64 (f 7))).setCell ⟨w.heap.size, 8, none⟩ (.int .i64 (f 8))) := by
        iterate 9 refine Below.setCell ?_ (by exact Nat.le_refl _) _
        exact hb
      have HE := Lib.hid (And.intro hbN HF.out)
      clear b2 b1 bN hbN
      go_wp2_with fail
      refine bodyPost_ret (v := .agg (h9 f)) (by simp [results, Try.results13, go_sem, e0, e1, e2, e3, e4, e5, e6, e7, e8]) rfl ⟨f, rfl, HE.out.2, HE.out.1⟩
end Go.Proofs.Ytjfmpgplbcpakaa
