/- Contracts of math/bits.TrailingZeros64 and of the code's FirstRow (door seat). Condition: the library's table lies as its initialiser lays it; the slice has at most 2^40 elements. -/
import Derived.Test.YtignchefkihdaaaDoorTabC
import Derived.Test.YtignchefkihdaaaDoorTabM3
import Derived.Lib.TrailingZeros
import Derived.Shelf.Spec.TrailingZeros
namespace Go.Proofs.YtignchefkihdaaaDoor
open Go.ChangeShapes Go.WideShapes Go.ChangeAt Go.RowKit
set_option maxRecDepth 100000
/-- The table lies in the world. -/
def TzTab (w : World) : Prop := ∀ j, j < 64 → w.cell? ⟨0, j, none⟩ = some (.int .u8 (Lib.deBruijn64tab.getD j 0 : Nat))
theorem TzTab.new {w w' : World} (h : TzTab w) (hb : Below w.heap.size w w') : TzTab w' := fun j hj => (hb.cell (p := ⟨0, j, none⟩) (cell_lt (h j hj))).trans (h j hj)
set_option maxHeartbeats 2000000 in
theorem tz64_any {w : World} {x : Nat} (hx : x < 18446744073709551616) (hx0 : x ≠ 0) (hT : TzTab w) :
    Calls Tryd.prog 29 #[.int .u64 x] w (fun e w' => e = .returned (.int .i64 (Lib.ctz 64 x : Nat)) ∧ w = w') := by
  obtain ⟨hlow, hk⟩ := Lib.lowest_bit 64 x hx0 hx
  obtain ⟨hi, htab⟩ := Lib.deBruijn64_at _ hk
  have hc := hT _ hi
  rw [htab] at hc
  have key := tz64_key x _ hx hx0 hlow
  obtain ⟨K, hK⟩ : ∃ K, K = Lib.ctz 64 x := ⟨_, rfl⟩
  obtain ⟨I, hI⟩ : ∃ I, I = 2 ^ Lib.ctz 64 x * 285870213051353865 % 18446744073709551616 / 288230376151711744 := ⟨_, rfl⟩
  rw [← hI] at hc key hi
  rw [← hK] at hc hk ⊢
  have hz : ((x : Int) == 0) = false := by simp; omega
  have i0 : (0 : Int) ≤ (I : Int) := by omega
  have i1 : (I : Int) < 64 := by omega
  have k1 := IntWalk.i64_in (K : Int) (by omega)
  clear hI hK htab hlow
  go_enter Tryd.func29, Tryd.ntmps29
  go_wp2_with (simp only [key])
  go_ret
  exact ⟨rfl, rfl⟩
theorem impFirstRow_any {w : World} {A : Option Addr} {n c : Nat} {f : List Int} (hT : TzTab w) (hl : Hid (f.length = n)) (hr : Rd w w.heap.size A (ivs f)) :
    Calls Tryd.prog 13 #[.slice A n c] w (fun e w' => e = .returned (.int .i64 (fstR f)) ∧ Below w.heap.size w w') := by
  have hlt := tabN_lt f
  go_enter Tryd.func13, Tryd.ntmps13
  go_wp2_with fail
  refine (tableOf_any hl hr).mono ?_
  rintro e w1 ⟨rfl, hb⟩
  by_cases h0 : tabN f = 0
  · have HV := Lib.hid (fst_none h0)
    rw [h0]
    go_wp2_with fail
    go_ret
    exact ⟨ret_i HV.out.symm, hb⟩
  · have HV := Lib.hid (fst_some h0)
    have HT := Lib.hid (hT.new hb)
    obtain ⟨x, hx⟩ : ∃ x, x = tabN f := ⟨_, rfl⟩
    rw [← hx] at h0 HV hlt ⊢
    have hz : ((x : Int) == 0) = false := by simp; omega
    clear hx
    go_wp2_with fail
    refine (tz64_any hlt h0 HT.out).mono ?_
    rintro e w2 ⟨rfl, rfl⟩
    go_wp2_with fail
    go_ret
    exact ⟨ret_i HV.out.symm, hb⟩
end Go.Proofs.YtignchefkihdaaaDoor
