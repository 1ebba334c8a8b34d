/- Contracts of the code's IsSet, Defends, DefendedBy. Condition: the library's variable errors.errorType reads as the program's text lays it; the slices have at most 2^40 elements. -/
import Derived.Test.YtjhknafajfpldaaDoorMg24
import Derived.Test.YtjhknafajfpldaaDoorMg30
namespace Go.Proofs.YtjhknafajfpldaaDoor
open Go.ChangeShapes Go.WideShapes Go.ChangeAt Go.RowKit
set_option maxRecDepth 100000
theorem as_hit2 (k : Int) (t : Addr) (old : Value) (w : World) (hg : w.cell? ⟨0, 0, none⟩ = some asE) (ht0 : w.cell? t = some old) (hf0 : w.frozen? t = false) :
    Calls Tryd.prog 48 #[.iface 75 (.int .i64 k), .iface 80 (.pointer (some t))] w fun ev w' => ev = .returned (.bool true) ∧ w'.cell? t = some (.int .i64 k) ∧ Below t.block w w' := by
  refine (as_hit k t old w hg ht0 hf0).mono ?_
  rintro e w' ⟨rfl, rfl⟩
  have htl := cell_lt ht0
  refine ⟨rfl, ?_, ?_⟩
  · refine World.cell?_setCell_same' _ _ _ ?_
    rw [World.cell?_alloc_lt _ _ t (by simp; omega), World.cell?_alloc_lt _ _ t (by simp; omega), World.cell?_alloc_lt _ _ t (by simp; omega), World.cell?_alloc_lt _ _ t htl, ht0]
    rfl
  · exact ((((((Below.refl t.block w).alloc (by omega) _).alloc (by simp; omega) _).alloc (by simp; omega) _).alloc (by simp; omega) _)).setCell (p := t) (Nat.le_refl _) _
theorem asE_lt {w : World} (h : w.cell? ⟨0, 0, none⟩ = some asE) : 0 < w.heap.size := cell_lt h
theorem asE_new {a b : World} (h : a.cell? ⟨0, 0, none⟩ = some asE) (hb : Below a.heap.size a b) : b.cell? ⟨0, 0, none⟩ = some asE := (hb.cell (p := ⟨0, 0, none⟩) (asE_lt h)).trans h
section
variable {w : World} {A A' : Option Addr} {n c n' c' : Nat} {N : Int} {X : List (List Int)} {S : List Int} (hE : w.cell? ⟨0, 0, none⟩ = some asE) (hl : Hid (X.length = n)) (hn : n ≤ 1099511627776) (hr : RdSS w w.heap.size A X) (hl' : Hid (S.length = n')) (hn' : n' ≤ 1099511627776) (hr' : Rd w w.heap.size A' (ivs S))
include hE hl hn hr hl' hn' hr'
set_option maxHeartbeats 2000000 in
theorem impIsSet_any : Calls Tryd.prog 21 #[.agg #[.int .i64 N, .slice A n c], .slice A' n' c'] w (Tells (setB N X S) w) := by
  obtain ⟨Wa, hWa, bxa, hba⟩ := one_graph w #[Value.int IntKind.i64 N, Value.slice A n c] 26
  have hsa : Wa.heap.size = w.heap.size + 1 := by rw [hWa]; simp
  have hEa := asE_new hE (show Below w.heap.size w Wa from hba)
  have kb := Bx.made Wa 75 #[.int .i64 0]
  have kk := (Below.refl Wa.heap.size Wa).alloc (Nat.le_refl _) (Obj.cells #[.int .i64 0] 75)
  have hbb : Below w.heap.size w (Wa.alloc (Obj.cells #[.int .i64 0] 75)) := hba.alloc (by omega) _
  have bxb := bxa.new kk
  have hEb := asE_new hEa kk
  obtain ⟨W1, hW⟩ : ∃ u : World, u = Wa.alloc (Obj.cells #[.int .i64 0] 75) := ⟨_, rfl⟩
  have hs1 : W1.heap.size = w.heap.size + 2 := by rw [hW]; simp [hsa]
  rw [← hW] at kb hbb bxb hEb
  rw [hsa] at kb
  have HR := Lib.hid ((hr.below hbb).more hbb.size)
  have HS := Lib.hid ((hr'.below hbb).more hbb.size)
  have HW1 := hWa.symm
  have HW2 := hW.symm
  obtain ⟨C0, C1⟩ := bxb.two
  clear hW hWa hr hr' hE hEa kk bxa
  go_enter Tryd.func21, Tryd.ntmps21
  go_wp2_with fail
  clear HW1 HW2
  refine (faultOf_any (N := N) (X := X) (S := S) (c := c) (c' := c') hl hn HR.out hl' hn' HS.out).mono ?_
  rintro e w3 ⟨rfl, hb3⟩
  have hb4 := hbb.trans (hb3.mono hbb.size)
  have kb3 := kb.new hb3
  have hE3 := asE_new hEb hb3
  by_cases hf : freeB N X S = true
  · have HB := Lib.hid (free_set hf)
    rw [flt_free hf]
    clear hf
    go_wp2_with fail
    refine (as_nil _ _).mono ?_
    rintro e w5 ⟨rfl, rfl⟩
    go_wp2_with fail
    go_ret
    exact ⟨ret_b HB.out.symm, hb4⟩
  · have hf' : freeB N X S = false := by simpa using hf
    obtain ⟨k, hk, hq⟩ := flt_not hf'
    rw [hk]
    have HQ := Lib.hid hq
    clear hf hf' hk hq
    go_wp2_with fail
    refine (as_hit2 k ⟨w.heap.size + 1, 0, none⟩ (.int .i64 0) w3 hE3 (kb3.at_ rfl) (kb3.free 0)).mono ?_
    rintro e w5 ⟨rfl, hc5, hb5⟩
    have hb6 := hb4.trans (hb5.mono (by simp))
    by_cases e2 : k = 2
    · have HB := Lib.hid (HQ.out.2 e2)
      subst e2
      go_wp2_with fail
      go_ret
      exact ⟨ret_b HB.out.symm, hb6⟩
    · have HB := Lib.hid (show setB N X S = false by rw [← Bool.not_eq_true]; exact fun h => e2 (HQ.out.1 h))
      have e3 : ((k : Int) == 2) = false := beq_eq_false_iff_ne.2 e2
      go_wp2_with fail
      go_ret
      exact ⟨ret_b HB.out.symm, hb6⟩
end
end Go.Proofs.YtjhknafajfpldaaDoor
