/- Contracts of the draws of the law on integers: each returns and leaves all that was there as it was. Condition: the code's bytes can be read. -/
import Derived.Test.YtdmggojdanmohaaDoorDrawNum
import Derived.Test.YtdmggojdanmohaaDoorParse
namespace Go.Proofs.YtdmggojdanmohaaDoor
open Go.ChangeShapes Go.WideShapes Go.ChangeAt Go.RowKit
def DrewInt (w : World) (e : Ending) (w' : World) : Prop := ∃ x : Int, In64 x ∧ e = .returned (.int .i64 x) ∧ Below w.heap.size w w'
def DrewInts (w : World) (e : Ending) (w' : World) : Prop := ∃ x y : Int, In64 x ∧ In64 y ∧ e = .returned (.tuple #[.int .i64 x, .int .i64 y]) ∧ Below w.heap.size w w'
def DrewStr (w : World) (e : Ending) (w' : World) : Prop := ∃ s : ByteArray, s.size ≤ 100 ∧ e = .returned (.string s) ∧ Below w.heap.size w w'
def DrawnStr (B : Nat) (A : Option Addr) (n c : Nat) (w : World) (e : Ending) (w' : World) : Prop :=
  ∃ s : ByteArray, s.size ≤ 100 ∧ e = .returned (.string s) ∧ w.grownBy w' (some B) ∧ Cur w' B A n c
def StrRow (w : World) (G k : Nat) : Prop := ∀ j, j < k → ∃ z : ByteArray, z.size ≤ 100 ∧ w.cell? ⟨G, j, none⟩ = some (.string z)
theorem strrow_alloc (w : World) (zs : List ByteArray) (t : TypeId) (h : ∀ z ∈ zs, z.size ≤ 100) : StrRow (w.alloc (.cells (zs.map Value.string).toArray t)) w.heap.size zs.length := by
  refine fun j hj => ⟨zs[j], h _ (List.getElem_mem hj), ?_⟩
  rw [World.cell?_alloc_new]
  simp [hj]
theorem str_any {w : World} {B : Nat} {A : Option Addr} {n c : Nat} (h : Cur w B A n c) (G k : Nat) (hG : G ≠ B) (hk : 0 < k) (hk2 : k ≤ 1000) (hr : StrRow w G k) :
    Calls Tryd.prog 18 #[.pointer (some ⟨B, 0, none⟩), .slice (some ⟨G, 0, none⟩) k k] w (DrawnStr B A n c w) := by
  have HR := Lib.hid hr
  clear hr
  go_enter Tryd.func18, Tryd.ntmps18
  go_wp2_with fail
  go_at_call 25
  refine (below_any h _ (by omega)).mono ?_
  rintro e w1 ⟨x, ⟨hx0, hx1⟩, rfl, hg, hc⟩
  obtain ⟨i, rfl⟩ : ∃ i : Nat, x = i := ⟨x.toNat, by omega⟩
  obtain ⟨z, hP, hz⟩ := HR.out i (by omega)
  have hz1 : w1.cell? ⟨G, i, none⟩ = some (.string z) := hg.cell hz (by simpa using hG)
  have HG := Lib.hid hz
  clear hz
  go_wp2
  go_ret
  exact ⟨_, hP, rfl, hg, hc⟩
theorem drawFormat {w : World} {A : Option Addr} {n c : Nat} (h : Code8 w A n) :
    Calls Tryd.prog 9 #[.slice A n c] w (DrewInt w) := by
  go_enter Tryd.func9, Tryd.ntmps9
  go_wp2_with fail
  go_at_call 16
  refine (new_any h).mono ?_
  rintro e w1 ⟨rfl, hb, hc⟩
  go_wp2_with fail
  go_at_call 21
  refine (one_any hc).mono ?_
  rintro e w2 ⟨x, hx, rfl, hg, _⟩
  go_wp2
  go_ret
  exact ⟨_, hx, rfl, drawn_below hb hg⟩
theorem drawCeil {w : World} {A : Option Addr} {n c : Nat} (h : Code8 w A n) :
    Calls Tryd.prog 11 #[.slice A n c] w (DrewInts w) := by
  go_enter Tryd.func11, Tryd.ntmps11
  go_wp2_with fail
  go_at_call 16
  refine (new_any h).mono ?_
  rintro e w1 ⟨rfl, hb, hc⟩
  go_wp2_with fail
  go_at_call 21
  refine (one_any hc).mono ?_
  rintro e w2 ⟨x, hx, rfl, hg, hc2⟩
  go_wp2_with fail
  go_at_call 21
  refine (one_any hc2).mono ?_
  rintro e w3 ⟨y, hy, rfl, hg2, _⟩
  go_wp2
  go_ret2
  exact ⟨_, _, hx, hy, rfl, drawn_below hb (only_trans hg hg2)⟩
theorem itoa_len {x : Int} (h : InMax x) : (⟨(Lib.itoa x).toArray⟩ : ByteArray).size ≤ 100 := by
  obtain ⟨m, rfl⟩ : ∃ m : Nat, x = m := ⟨x.toNat, by have := h.1; omega⟩
  have e : Lib.itoa (m : Int) = Lib.decDigits m := Lib.itoa_nonneg _
  have := dd_len m (by have := h.2; omega)
  show (Lib.itoa (m : Int)).toArray.size ≤ 100
  rw [e]; simp; omega
theorem drawParse {w : World} {A : Option Addr} {n c : Nat} (h : Code8 w A n) :
    Calls Tryd.prog 7 #[.slice A n c] w (DrewStr w) := by
  go_enter Tryd.func7, Tryd.ntmps7
  go_wp2_with fail
  go_at_call 16
  refine (new_any h).mono ?_
  rintro e w1 ⟨rfl, hb, hc⟩
  go_wp2_with fail
  go_at_call 17
  refine (once_any hc _ (by omega)).mono ?_
  rintro e w2 ⟨x, rfl, hg, hc2⟩
  have hne : w.heap.size ≠ w2.heap.size := by have := hc2.lt; omega
  cases x
  · go_wp2_with fail
    go_at_call 19
    refine (num_any hc2).mono ?_
    rintro e w3 ⟨y, hy, rfl, hg2, hc3⟩
    have hy64 : In64 y := ⟨by have := hy.1; omega, by have := hy.2; omega⟩
    go_wp2_with fail
    go_at_call 14
    refine (spec_fmt_any _ hy64.1 hy64.2 _).mono ?_
    rintro e w4 ⟨rfl, hb4⟩
    go_wp2
    go_ret
    have hb3 := drawn_below hb (only_trans hg hg2)
    exact ⟨_, itoa_len hy, rfl, below_all hb3 hb3.size hb4⟩
  · have hrow := strrow_alloc w2 [⟨#[]⟩, ⟨#[48]⟩, ⟨#[48, 48]⟩, ⟨#[45, 49]⟩, ⟨#[48, 49]⟩, ⟨#[55]⟩, ⟨#[49, 48, 48, 48, 48, 48, 48, 48, 48, 48, 48, 48, 48]⟩, ⟨#[49, 48, 48, 48, 48, 48, 48, 48, 48, 48, 48, 48, 49]⟩, ⟨#[57, 57, 57, 57, 57, 57, 57, 57, 57, 57, 57, 57, 57, 57]⟩, ⟨#[49, 120]⟩, ⟨#[32, 49]⟩] 9 (by decide)
    have HR := Lib.hid hrow
    clear hrow
    go_wp2_with fail
    go_at_call 18
    refine (str_any (hc2.alloc _) _ 11 (Ne.symm hne) (by omega) (by omega) HR.out).mono ?_
    rintro e w3 ⟨y, hy, rfl, hg2, hc3⟩
    go_wp2
    go_ret
    exact ⟨_, hy, rfl, drawn_below hb (only_trans hg (only_ofalloc hg2))⟩
end Go.Proofs.YtdmggojdanmohaaDoor
