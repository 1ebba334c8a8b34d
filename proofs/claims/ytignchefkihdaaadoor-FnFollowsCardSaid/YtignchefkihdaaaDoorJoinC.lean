/- Contracts of the code's formulaOf, NotOf, Join. Condition: the slices have at most 2^36 elements. -/
import Derived.Test.YtignchefkihdaaaDoorConcat
import Derived.Test.YtignchefkihdaaaDoorFmlC
import Derived.Test.YtignchefkihdaaaDoorBits
namespace Go.Proofs.YtignchefkihdaaaDoor
open Go.ChangeShapes Go.WideShapes Go.ChangeAt Go.RowKit
set_option maxRecDepth 100000
def fmlL (f : List Int) : List Int := if isF f then f else []
set_option maxHeartbeats 400000 in
theorem formulaOf_any {w : World} {A : Option Addr} {n c : Nat} {X : List (List Int)} {F : List Int} (hF : Hid (X.flatten = F)) (hl : Hid (X.length = n)) (hn : n ≤ 1048576) (hp : Hid (psum X X.length ≤ 137438953472)) (hr : RdSS w w.heap.size A X) :
    Calls Tryd.prog 20 #[.slice A n c] w (Fresh 3 (ivs (fmlL F)) w) := by
  have HC := Lib.hid (concat_any (c := c) hl hn hp hr)
  rw [hF.out] at HC
  clear hr hp hF
  go_enter Tryd.func20, Tryd.ntmps20
  go_wp2_with fail
  refine HC.out.mono ?_
  rintro e w1 ⟨v, rfl, hrow, hb⟩
  obtain ⟨q, hq⟩ : ∃ q, q = F.length := ⟨_, rfl⟩
  have HQ := Lib.hid hq.symm
  clear hq
  obtain ⟨A1, c1, rfl, hrd, _, _⟩ := hrow.rd (n := q) (by rw [ivs_len, HQ.out])
  have HB := Lib.hid hb
  have HRW := Lib.hid hrow
  have HRD := Lib.hid hrd
  clear hb hrow hrd
  by_cases hf : isF F = true
  · have HF := Lib.hid hf
    have HN := Lib.hid (show fmlL F = F by unfold fmlL; rw [if_pos hf])
    clear hf
    go_wp2_with fail
    refine (impIsFormula_any (f := F) HQ HRD.out).mono ?_
    rintro e w2 ⟨rfl, hb2⟩
    rw [HF.out]
    go_wp2_with fail
    go_ret
    exact ⟨_, rfl, by rw [HN.out]; exact (HRW.out.new hb2).wide (Nat.le_refl _) hb2.size, HB.out.trans (hb2.mono HB.out.size)⟩
  · have HF := Lib.hid (show isF F = false by simpa using hf)
    have HN := Lib.hid (show fmlL F = [] by unfold fmlL; rw [if_neg hf])
    clear hf
    go_wp2_with fail
    refine (impIsFormula_any (f := F) HQ HRD.out).mono ?_
    rintro e w2 ⟨rfl, hb2⟩
    rw [HF.out]
    have hb3 := HB.out.trans (hb2.mono HB.out.size)
    have hrow9 := Row.made (w := w2) w.heap.size #[] 0 3 hb3.size rfl (Nat.zero_le _)
    have hb9 := hb3.alloc (B := w.heap.size) hb3.size (Obj.cells #[] 3)
    go_wp2_with fail
    go_ret
    exact ⟨_, rfl, by rw [HN.out]; exact hrow9.wide (Nat.le_refl _) (by simp), hb9⟩
/-- A list of slices in a new block. -/
theorem rdSS_list {w : World} {B g : Nat} {t : TypeId} {cs : Array Value} {X : List (List Int)} (h : Bx w g t cs) (hg : g < B) (hX : ∀ (k : Nat) (x : List Int), X[k]? = some x → ∃ (Aj : Option Addr) (cj : Nat), cs[k]? = some (.slice Aj x.length cj) ∧ x.length ≤ cj ∧ cj ≤ maxLen ∧ Rd w B Aj (ivs x)) : RdSS w B (some ⟨g, 0, none⟩) X := by
  intro k x hx
  obtain ⟨Aj, cj, h1, h2, h3, h4⟩ := hX k x hx
  exact ⟨_, Aj, cj, rfl, hg, by rw [add0]; exact h.at_ h1, h2, h3, h4⟩
set_option maxHeartbeats 400000 in
theorem impNotOf_any {w : World} {A : Option Addr} {n c : Nat} {f : List Int} (hl : Hid (f.length = n)) (hn : n ≤ 68719476736) (hc : n ≤ c) (hcm : c ≤ maxLen) (hr : Rd w w.heap.size A (ivs f)) :
    Calls Tryd.prog 6 #[.slice A n c] w (Fresh 3 (ivs (fmlL (f ++ [-1]))) w) := by
  have b0 := (Bx.made w 3 #[Value.int .i64 (-1)]).new (alloc_new _ (Obj.cells #[Value.slice A n c, .slice (some ⟨w.heap.size, 0, none⟩) 1 1] 25))
  have b1 := Bx.made (w.alloc (Obj.cells #[Value.int .i64 (-1)] 3)) 25 #[Value.slice A n c, .slice (some ⟨w.heap.size, 0, none⟩) 1 1]
  have hb1 : Below w.heap.size w ((w.alloc (Obj.cells #[Value.int .i64 (-1)] 3)).alloc (Obj.cells #[Value.slice A n c, .slice (some ⟨w.heap.size, 0, none⟩) 1 1] 25)) := ((Below.refl _ _).alloc (Nat.le_refl _) _).alloc (by simp) _
  obtain ⟨W1, hW⟩ : ∃ u : World, u = (w.alloc (Obj.cells #[Value.int .i64 (-1)] 3)).alloc (Obj.cells #[Value.slice A n c, .slice (some ⟨w.heap.size, 0, none⟩) 1 1] 25) := ⟨_, rfl⟩
  have hs1 : W1.heap.size = w.heap.size + 2 := by rw [hW]; simp
  rw [← hW] at b0 b1 hb1
  rw [show (w.alloc (Obj.cells #[Value.int .i64 (-1)] 3)).heap.size = w.heap.size + 1 by simp] at b1
  have HW := Lib.hid hW.symm
  have HRS := Lib.hid (rdSS_list (B := W1.heap.size) (X := [f, [-1]]) b1 (by omega) (fun k x hx => by
    match k, hx with
    | 0, hx => injection hx with hx; subst hx; exact ⟨A, c, by rw [hl.out]; rfl, by rw [hl.out]; exact hc, hcm, (hr.below hb1).more hb1.size⟩
    | 1, hx => injection hx with hx; subst hx; exact ⟨_, 1, rfl, Nat.le_refl _, by unfold maxLen; omega, fun j u hu => by
        match j, hu with
        | 0, hu => injection hu with hu; subst hu; exact ⟨_, rfl, by show w.heap.size < _; omega, by rw [add0]; exact b0.at_ rfl⟩
        | j + 1, hu => simp [ivs] at hu⟩))
  have HP := Lib.hid (show psum [f, [-1]] [f, [-1]].length ≤ 137438953472 by simp [psum, hl.out]; omega)
  have HFL := Lib.hid (show ([f, [-1]] : List (List Int)).flatten = f ++ [-1] by simp)
  clear hW hr b0 b1
  go_enter Tryd.func6, Tryd.ntmps6
  go_wp2_with fail
  rw [HW.out]
  refine (formulaOf_any (n := 2) (c := 2) (X := [f, [-1]]) HFL (Lib.hid rfl) (by omega) HP HRS.out).mono ?_
  rintro e w2 ⟨v, rfl, hrow, hb2⟩
  go_wp2_with fail
  go_ret
  exact ⟨_, rfl, hrow.wide hb1.size (Nat.le_refl _), hb1.trans (hb2.mono hb1.size)⟩
theorem notL_eq (f : List Int) : fmlL (f ++ [-1]) = notL f := rfl
end Go.Proofs.YtignchefkihdaaaDoor
