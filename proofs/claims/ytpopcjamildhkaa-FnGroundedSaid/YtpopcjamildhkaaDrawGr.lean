/- Contracts of the draws of chapter 6: DrawIsGraph, DrawGrounded, DrawIsComplete. Condition: the code's bytes lie in old memory. -/
import Derived.Test.YtpopcjamildhkaaDrawF
import Derived.Test.YtpopcjamildhkaaRoundOf2
import Derived.Test.YtpopcjamildhkaaFreeD
import Derived.Test.YtpopcjamildhkaaMg11
namespace Go.Proofs.Ytpopcjamildhkaa
open Go.ChangeShapes Go.WideShapes Go.ChangeAt Go.RowKit
set_option maxRecDepth 100000
/-- A graph was drawn; nothing old has turned. -/
def DrewGr (w : World) (e : Ending) (w' : World) : Prop :=
  ∃ (N : Int) (X : List (List Int)) (v : Value), GOK 10 X ∧ e = .returned (.agg #[.int .i64 N, v]) ∧ OwnSS w' w.heap.size w'.heap.size v X ∧ Below w.heap.size w w'
theorem drawGraph {w : World} {A : Option Addr} {n c : Nat} (h : Code8 w A n) :
    Calls Try.prog 93 #[.slice A n c] w (DrewGr w) := by
  have br0 := Bx.made w 26 #[Value.int .i64 0, .slice none 0 0]
  have hb0 : Below w.heap.size w (w.alloc (Obj.cells #[Value.int .i64 0, .slice none 0 0] 26)) := (Below.refl _ _).alloc (Nat.le_refl _) _
  have h0 := h.below hb0
  have hs0 : (w.alloc (Obj.cells #[Value.int .i64 0, .slice none 0 0] 26)).heap.size = w.heap.size + 1 := by simp
  go_enter Try.func93, Try.ntmps93
  go_wp2_with fail
  refine (new_any h0).mono ?_
  rintro e w1 ⟨rfl, hb1, cur1⟩
  have br1 := br0.new hb1
  have hz1 := hb1.size
  have hbw1 := hb0.trans (hb1.mono hb0.size)
  rw [hs0] at hz1 cur1 ⊢
  clear br0 hb0 h0 hs0 hb1
  go_wp2_with fail
  refine (any4_any cur1).mono ?_
  rintro e w2 ⟨N, X, v, _, hok, rfl, hown2, hg2, _⟩
  obtain ⟨Av, cv, rfl, _, _, _⟩ := hown2.rd (n := X.length) rfl
  have br2 := br1.only hg2 (by omega)
  have hbw2 := cur_below hbw1 hg2 (by omega)
  have hz2 := hg2.size
  obtain ⟨R0, R1⟩ := br2.two
  have r0 := br2.free 0
  have r1 := br2.free 1
  have hHB := Lib.hid br2
  have HOK := Lib.hid hok
  clear br1 hbw1 br2 hok cur1
  go_wp2_with fail
  have br2 := hHB.out
  refine bodyPost_ret (resGR rfl ((br2.set 0 _).set 1 _) rfl rfl) rfl ⟨N, X, _, HOK.out, rfl, ?_, (hbw2.setCell (p := ⟨w.heap.size, 0, none⟩) (Nat.le_refl _) _).setCell (p := ⟨w.heap.size, 1, none⟩) (Nat.le_refl _) _⟩
  exact ((hown2.setFar (p := ⟨w.heap.size, 0, none⟩) (.inl (by simp; omega)) _).setFar (p := ⟨w.heap.size, 1, none⟩) (.inl (by simp; omega)) _).wide (by omega) (by simp)
theorem drawGrounded {w : World} {A : Option Addr} {n c : Nat} (h : Code8 w A n) :
    Calls Try.prog 25 #[.slice A n c] w (DrewGr w) := by
  have br0 := Bx.made w 26 #[Value.int .i64 0, .slice none 0 0]
  have hb0 : Below w.heap.size w (w.alloc (Obj.cells #[Value.int .i64 0, .slice none 0 0] 26)) := (Below.refl _ _).alloc (Nat.le_refl _) _
  have h0 := h.below hb0
  have hs0 : (w.alloc (Obj.cells #[Value.int .i64 0, .slice none 0 0] 26)).heap.size = w.heap.size + 1 := by simp
  go_enter Try.func25, Try.ntmps25
  go_wp2_with fail
  refine (drawGraph h0).mono ?_
  rintro e w2 ⟨N, X, v, hok, rfl, hown2, hb2⟩
  obtain ⟨Av, cv, rfl, _, _, _⟩ := hown2.rd (n := X.length) rfl
  rw [hs0] at hown2
  have br2 := br0.new hb2
  have hbw2 := hb0.trans (hb2.mono hb0.size)
  have hsz2 := hb2.size
  rw [hs0] at hsz2
  obtain ⟨R0, R1⟩ := br2.two
  have r0 := br2.free 0
  have r1 := br2.free 1
  have hHB := Lib.hid br2
  have HOK := Lib.hid hok
  clear br0 hb0 h0 br2 hok hs0 hb2
  go_wp2_with fail
  have br2 := hHB.out
  refine bodyPost_ret (resGR rfl ((br2.set 0 _).set 1 _) rfl rfl) rfl ⟨N, X, _, HOK.out, rfl, ?_, (hbw2.setCell (p := ⟨w.heap.size, 0, none⟩) (Nat.le_refl _) _).setCell (p := ⟨w.heap.size, 1, none⟩) (Nat.le_refl _) _⟩
  exact ((hown2.setFar (p := ⟨w.heap.size, 0, none⟩) (.inl (by simp)) _).setFar (p := ⟨w.heap.size, 1, none⟩) (.inl (by simp)) _).wide (by omega) (by simp)
set_option maxHeartbeats 4000000 in
theorem drawComplete {w : World} {A : Option Addr} {n c : Nat} (h : Code8 w A n) :
    Calls Try.prog 32 #[.slice A n c] w (DrewGS2 13 w) := by
  obtain ⟨ti, hti, hz0, hz1, hz2⟩ := info_parts IntS_info
  have br0 := Bx.made w 26 #[Value.int .i64 0, .slice none 0 0]
  have hb0 : Below w.heap.size w (w.alloc (Obj.cells #[Value.int .i64 0, .slice none 0 0] 26)) := (Below.refl _ _).alloc (Nat.le_refl _) _
  have h0 := h.below hb0
  have hs0 : (w.alloc (Obj.cells #[Value.int .i64 0, .slice none 0 0] 26)).heap.size = w.heap.size + 1 := by simp
  go_enter Try.func32, Try.ntmps32
  go_wp2_with fail
  refine (drawSet h0).mono ?_
  rintro e w2 ⟨N, X, v, zs, u, M, hok, hzl, rfl, hM1, hM2, hown2, hrow2, hb2⟩
  rw [hs0] at hM1 hown2
  obtain ⟨Av, cv, rfl, _, _, _⟩ := hown2.rd (n := X.length) rfl
  have br2 := br0.new hb2
  have hbw2 := hb0.trans (hb2.mono hb0.size)
  have k3 : Below w2.heap.size w2 (w2.alloc (Obj.cells #[Value.int .i64 N, .slice Av X.length cv] 26)) := (Below.refl _ _).alloc (Nat.le_refl _) _
  have br3 := br2.new k3
  have bg3 := Bx.made w2 26 #[Value.int .i64 N, .slice Av X.length cv]
  have ho3 := hown2.new k3
  have hrow3 := hrow2.new k3
  have h3 := h.below (hbw2.trans (k3.mono hbw2.size))
  have hbw3 := hbw2.trans (k3.mono hbw2.size)
  have HOK := Lib.hid hok
  have hx3 : (w2.alloc (Obj.cells #[Value.int .i64 N, .slice Av X.length cv] 26)).heap.size = w2.heap.size + 1 := by simp
  obtain ⟨w3, hw3⟩ : ∃ u : World, u = w2.alloc (Obj.cells #[Value.int .i64 N, .slice Av X.length cv] 26) := ⟨_, rfl⟩
  rw [← hw3] at br3 bg3 ho3 hrow3 h3 hbw3 hx3
  have hHW := Lib.hid hw3.symm
  have hsz2 := hbw2.size
  clear br0 hb0 h0 br2 hbw2 k3 hown2 hrow2 hok hw3 hs0 hb2
  go_wp2_with fail
  rw [hHW.out]
  clear hHW
  refine (new_any h3).mono ?_
  rintro e w4 ⟨rfl, hb4, cur4⟩
  rw [hx3] at cur4
  have br4 := br3.new hb4
  have bg4 := bg3.new hb4
  have ho4 := ho3.new hb4
  have hrow4 := hrow3.new hb4
  have hbw4 := hbw3.trans (hb4.mono hbw3.size)
  have hz4 := hb4.size
  clear br3 bg3 ho3 hrow3 hbw3
  go_wp2_with fail
  refine (once_any cur4 2 (by omega)).mono ?_
  rintro e w5 ⟨x, rfl, hg5, cur5⟩
  have br5 := br4.only hg5 (by omega)
  have bg5 := bg4.only hg5 (by omega)
  have ho5 := ho4.out (Out.of_only hg5) (by omega)
  have hrow5 := hrow4.out (Out.of_only hg5) (by omega)
  have hbw5 := cur_below hbw4 hg5 (by omega)
  have hz5 := hg5.size
  clear br4 bg4 ho4 hrow4 hbw4 cur4
  have HRS := Lib.hid (hrow5)
  cases x
  · obtain ⟨D0, D1⟩ := bg5.two
    obtain ⟨R0, R1⟩ := br5.two
    have r0 := br5.free 0
    have r1 := br5.free 1
    have hHB := Lib.hid br5
    go_wp2_with fail
    have br5 := hHB.out
    refine bodyPost_ret (resGB rfl ((br5.set 0 _).set 1 _) rfl rfl rfl) rfl ⟨N, X, .slice Av X.length cv, zs, u, M, HOK.out, by omega, rfl, by omega, by simp; omega, ?_, ?_, (hbw5.setCell (p := ⟨w.heap.size, 0, none⟩) (Nat.le_refl _) _).setCell (p := ⟨w.heap.size, 1, none⟩) (Nat.le_refl _) _⟩
    · exact ((ho5.setFar (p := ⟨w.heap.size, 0, none⟩) (.inl (by simp)) _).setFar (p := ⟨w.heap.size, 1, none⟩) (.inl (by simp)) _).wide (by omega) (Nat.le_refl _)
    · exact ((hrow5.out (Out.setCell w5 (lo := w.heap.size) (hi := w.heap.size + 1) (Nat.le_refl _) (Nat.lt_succ_self _) 0 _) (.inr (by omega))).out (Out.setCell _ (lo := w.heap.size) (hi := w.heap.size + 1) (Nat.le_refl _) (Nat.lt_succ_self _) 1 _) (.inr (by omega))).wide (Nat.le_refl _) (by simp; omega)
  · have HX := Lib.hid (show X.length ≤ 1099511627776 by have := HOK.out.1; omega)
    have hHB := Lib.hid bg5
    have HR := Lib.hid br5
    have HO := Lib.hid ho5
    obtain ⟨D0, D1⟩ := bg5.two
    have hRD := Lib.hid (((ho5.wide (lo' := w.heap.size + 1) (hi' := w5.heap.size) (Nat.le_refl _) (by omega)).rd'))
    clear bg5 br5 ho5 hrow5
    go_wp2_with fail
    go_region_law (first
      | (go_simp; go_at_call 103; refine (specGrounded_any (X := X) (Lib.hid rfl) HX.out (by exact rdSS_new hRD.out ((Below.refl _ _).drew))).mono ?_; rintro e w7 ⟨v7, rfl, hrow7, hb7⟩; have hbn := ((Below.refl w5.heap.size w5).drew).trans hb7; have bg7 := hHB.out.new hbn; have br7 := HR.out.new hbn; have ho7 := HO.out.new hbn; have hz7 : w5.heap.size ≤ w7.heap.size := hb7.size; have hbw7 := hbw5.trans (hbn.mono hbw5.size); obtain ⟨E0, E1⟩ := bg7.two; obtain ⟨R0, R1⟩ := br7.two; have r0 := br7.free 0; have r1 := br7.free 1; have hrw7 : Row w7 w5.heap.size w7.heap.size 3 v7 (ivs (grd N X)) := hrow7))
    all_goals
      go_wp2
      have hgl := grd_len N X
      refine bodyPost_ret (resGB rfl ((br7.set 0 _).set 1 _) rfl rfl rfl) rfl ⟨N, X, .slice Av X.length cv, grd N X, v7, w5.heap.size, HOK.out, by omega, rfl, by omega, by simpa using hz7, ?_, ?_, (hbw7.setCell (p := ⟨w.heap.size, 0, none⟩) (Nat.le_refl _) _).setCell (p := ⟨w.heap.size, 1, none⟩) (Nat.le_refl _) _⟩
      · exact ((ho7.setFar (p := ⟨w.heap.size, 0, none⟩) (.inl (by simp)) _).setFar (p := ⟨w.heap.size, 1, none⟩) (.inl (by simp)) _).wide (by omega) (by omega)
      · exact ((hrw7.out (Out.setCell w7 (lo := w.heap.size) (hi := w.heap.size + 1) (Nat.le_refl _) (Nat.lt_succ_self _) 0 _) (.inr (by omega))).out (Out.setCell _ (lo := w.heap.size) (hi := w.heap.size + 1) (Nat.le_refl _) (Nat.lt_succ_self _) 1 _) (.inr (by omega))).wide (Nat.le_refl _) (by simp)
end Go.Proofs.Ytpopcjamildhkaa
