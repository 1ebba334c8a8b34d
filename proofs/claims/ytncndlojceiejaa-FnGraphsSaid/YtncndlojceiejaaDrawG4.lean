/- Contracts of the draws of DoesAttack and AddAttack. Condition: the code's bytes lie in old memory. -/
import Derived.Test.YtncndlojceiejaaDrawG3
namespace Go.Proofs.Ytncndlojceiejaa
open Go.ChangeShapes Go.WideShapes Go.ChangeAt Go.RowKit
set_option maxRecDepth 100000
/-- A graph and two integers were drawn; nothing old has turned. -/
def DrewGII (w : World) (e : Ending) (w' : World) : Prop :=
  ∃ (N : Int) (X : List (List Int)) (v : Value) (x y : Int), GOK 10 X ∧ e = .returned (.tuple #[.agg #[.int .i64 N, v], .int .i64 x, .int .i64 y]) ∧ OwnSS w' w.heap.size w'.heap.size v X ∧ Below w.heap.size w w'
set_option maxHeartbeats 600000 in
theorem drawDoes {w : World} {A : Option Addr} {n c : Nat} (h : Code8 w A n) :
    Calls Try.prog 43 #[.slice A n c] w (DrewGII w) := by
  have bx0 := Bx.made w 26 #[Value.int .i64 0, .slice none 0 0]
  have hb0 : Below w.heap.size w (w.alloc (Obj.cells #[Value.int .i64 0, .slice none 0 0] 26)) := (Below.refl _ _).alloc (Nat.le_refl _) _
  have h0 := h.below hb0
  have hs0 : (w.alloc (Obj.cells #[Value.int .i64 0, .slice none 0 0] 26)).heap.size = w.heap.size + 1 := by simp
  go_enter Try.func43, Try.ntmps43
  go_wp2_with fail
  refine (drawAtk h0).mono ?_
  rintro e w2 ⟨N, X, v, x, hok, rfl, hown2, hb2⟩
  obtain ⟨Av, cv, rfl, _, _, _⟩ := hown2.rd (n := X.length) rfl
  have br2 := bx0.new hb2
  have h2 := h0.below hb2
  have hz2 := hb2.size
  have hbw2 := hb0.trans (hb2.mono hb0.size)
  rw [hs0] at hz2 hown2
  have k3 : Below w2.heap.size w2 (w2.alloc (Obj.cells #[Value.int .i64 N, .slice Av X.length cv] 26)) := (Below.refl _ _).alloc (Nat.le_refl _) _
  have br3 := br2.new k3
  have bg3 := Bx.made w2 26 #[Value.int .i64 N, .slice Av X.length cv]
  have ho3 := hown2.new k3
  have h3 := h2.below k3
  have hbw3 := hbw2.trans (k3.mono hbw2.size)
  have HOK := Lib.hid hok
  have hx3 : (w2.alloc (Obj.cells #[Value.int .i64 N, .slice Av X.length cv] 26)).heap.size = w2.heap.size + 1 := by simp
  obtain ⟨w3, hw3⟩ : ∃ u : World, u = w2.alloc (Obj.cells #[Value.int .i64 N, .slice Av X.length cv] 26) := ⟨_, rfl⟩
  rw [← hw3] at br3 bg3 ho3 h3 hbw3 hx3
  have hHW := Lib.hid hw3.symm
  clear bx0 hb0 h0 hs0 br2 h2 hb2 hbw2 k3 hown2 hok hw3
  go_wp2_with fail
  rw [hHW.out]
  refine (new_any h3).mono ?_
  rintro e w4 ⟨rfl, hb4, cur4⟩
  obtain ⟨g, hg⟩ : ∃ g, g = w2.heap.size := ⟨_, rfl⟩
  rw [← hg] at bg3 hx3 hz2 ho3 ⊢
  clear hHW hg
  have hHB := Lib.hid (bg3.new hb4)
  have HR := Lib.hid (br3.new hb4)
  have HO := Lib.hid (ho3.new hb4)
  rw [hx3] at cur4
  have HC := Lib.hid cur4
  have hz4 := hb4.size
  have hbw4 := hbw3.trans (hb4.mono hbw3.size)
  obtain ⟨D0, D1⟩ := hHB.out.two
  have hBg : g + 1 ≠ g := by omega
  have hBr : g + 1 ≠ w.heap.size := by omega
  clear bg3 br3 ho3 cur4 hb4 hbw3 h3
  go_wp2_with fail
  go_region_law (first
    | (go_simp; go_at_call 65; refine (below_any (HC.out.drew_) 7 (by omega)).mono ?_; rintro e w7 ⟨p, _, rfl, hg7, cur7⟩; have bg7 := hHB.out.drew_.only hg7 hBg; have br7 := HR.out.drew_.only hg7 hBr; have ho7 := (HO.out.new ((Below.refl _ _).drew)).out (Out.of_only hg7) (.inl (by omega)); have hz7 : w4.heap.size ≤ w7.heap.size := hg7.size; have hbw7 : Below w.heap.size w w7 := cur_below hbw4.drew hg7 (by omega); obtain ⟨E0, E1⟩ := bg7.two; obtain ⟨R0, R1⟩ := br7.two; have r0 := br7.free 0; have r1 := br7.free 1))
  all_goals
    go_wp2
    refine bodyPost_ret (resGII rfl ((br7.set 0 _).set 1 _) rfl rfl rfl rfl) rfl ⟨N, X, .slice Av X.length cv, x, p, HOK.out, rfl, ?_⟩
    exact cells_result (ho7.wide (Nat.le_refl _) (by omega)) hbw7 (by omega)
theorem drawAdd {w : World} {A : Option Addr} {n c : Nat} (h : Code8 w A n) :
    Calls Try.prog 15 #[.slice A n c] w (DrewGII w) := by
  have bx0 := Bx.made w 26 #[Value.int .i64 0, .slice none 0 0]
  have hb0 : Below w.heap.size w (w.alloc (Obj.cells #[Value.int .i64 0, .slice none 0 0] 26)) := (Below.refl _ _).alloc (Nat.le_refl _) _
  have h0 := h.below hb0
  have hs0 : (w.alloc (Obj.cells #[Value.int .i64 0, .slice none 0 0] 26)).heap.size = w.heap.size + 1 := by simp
  go_enter Try.func15, Try.ntmps15
  go_wp2_with fail
  refine (drawDoes h0).mono ?_
  rintro e w2 ⟨N, X, v, x, y, hok, rfl, hown2, hb2⟩
  obtain ⟨Av, cv, rfl, _, _, _⟩ := hown2.rd (n := X.length) rfl
  have br2 := bx0.new hb2
  have hbw2 := hb0.trans (hb2.mono hb0.size)
  rw [hs0] at hown2
  clear bx0 hb0 h0 hs0 hb2
  go_wp2_with (first | (refine stGR rfl (.tmp 2) (.tmp 7) rfl br2 rfl rfl rfl rfl ?_))
  refine bodyPost_ret (resGII rfl (br2.setRow _) rfl rfl rfl rfl) rfl ⟨N, X, .slice Av X.length cv, x, y, hok, rfl, ?_⟩
  exact drew_result _ hown2 hbw2 (Nat.le_refl _) hbw2.size
end Go.Proofs.Ytncndlojceiejaa
