/- Contracts of the draws DrawCanWin, DrawAnswersTo, DrawBestAnswer, DrawIsLine, DrawWinnerOf. Condition: the code's bytes lie in old memory. -/
import Derived.Test.YtobghogkflgpeaaMg25
namespace Go.Proofs.Ytobghogkflgpeaa
open Go.ChangeShapes Go.WideShapes Go.ChangeAt Go.RowKit
set_option maxRecDepth 100000
/-- A graph, two claims and a claim were drawn; nothing old has turned. -/
def DrewGSI (w : World) (e : Ending) (w' : World) : Prop :=
  ∃ (N : Int) (X : List (List Int)) (v : Value) (zs : List Int) (u : Value) (x : Int), GOK 10 X ∧ zs.length ≤ 12 ∧ e = .returned (.tuple #[.agg #[.int .i64 N, v], u, .int .i64 x]) ∧ OwnSS w' w.heap.size w'.heap.size v X ∧ Row w' w.heap.size w'.heap.size 3 u (ivs zs) ∧ Below w.heap.size w w'
set_option maxHeartbeats 8000000 in
theorem drawCan {w : World} {A : Option Addr} {n c : Nat} (h : Code8 w A n) :
    Calls Try.prog 17 #[.slice A n c] w (DrewGI w) := by
  have bx0 := Bx.made w 27 #[Value.int .i64 0, .slice none 0 0]
  have hb0 : Below w.heap.size w (w.alloc (Obj.cells #[Value.int .i64 0, .slice none 0 0] 27)) := (Below.refl _ _).alloc (Nat.le_refl _) _
  have h0 := h.below hb0
  have hs0 : (w.alloc (Obj.cells #[Value.int .i64 0, .slice none 0 0] 27)).heap.size = w.heap.size + 1 := by simp
  go_enter Try.func17, Try.ntmps17
  go_wp2_with fail
  refine (new_any h0).mono ?_
  rintro e w1 ⟨rfl, hb1, cur1⟩
  have br1 := bx0.new hb1
  have hz1 := hb1.size
  have hbw1 := hb0.trans (hb1.mono hb0.size)
  rw [hs0] at hz1 cur1 ⊢
  go_wp2_with fail
  refine (small8_any cur1).mono ?_
  rintro e w2 ⟨N, X, v, _, hok, rfl, hown2, hg2, cur2⟩
  obtain ⟨Av, cv, rfl, _, _, _⟩ := hown2.rd (n := X.length) rfl
  have hl1 := cur1.lt
  have hz2 := hg2.size
  have br2 := br1.only hg2 (by omega)
  have hbw2 := cur_below hbw1 hg2 (by omega)
  have k3 : Below w2.heap.size w2 (w2.alloc (Obj.cells #[Value.int .i64 N, .slice Av X.length cv] 27)) := (Below.refl _ _).alloc (Nat.le_refl _) _
  have br3 := br2.new k3
  have bg3 := Bx.made w2 27 #[Value.int .i64 N, .slice Av X.length cv]
  have ho3 := (hown2.new k3).wide (hi' := (w2.alloc (Obj.cells #[Value.int .i64 N, .slice Av X.length cv] 27)).heap.size) (Nat.le_refl _) k3.size
  have cur3 := cur2.below k3
  have hbw3 := hbw2.trans (k3.mono hbw2.size)
  have HOK := Lib.hid hok
  have hx3 : (w2.alloc (Obj.cells #[Value.int .i64 N, .slice Av X.length cv] 27)).heap.size = w2.heap.size + 1 := by simp
  obtain ⟨w3, hw3⟩ : ∃ u : World, u = w2.alloc (Obj.cells #[Value.int .i64 N, .slice Av X.length cv] 27) := ⟨_, rfl⟩
  rw [← hw3] at br3 bg3 ho3 cur3 hbw3 hx3
  obtain ⟨g, hg⟩ : ∃ g, g = w2.heap.size := ⟨_, rfl⟩
  have hHW := Lib.hid hw3.symm
  clear bx0 hb0 h0 br1 hb1 hbw1 cur1 br2 hbw2 k3 hown2 hg2 cur2 hok hw3 hs0
  go_wp2_with fail
  rw [hHW.out]
  clear hHW
  rw [← hg] at bg3 hx3 hz2 ⊢
  clear hg
  have hHB := Lib.hid bg3
  have HR := Lib.hid br3
  have HO := Lib.hid ho3
  have HC := Lib.hid cur3
  obtain ⟨D0, D1⟩ := bg3.two
  have hBg : w.heap.size + 1 ≠ g := by omega
  have hBr : w.heap.size + 1 ≠ w.heap.size := by omega
  clear bg3 br3 ho3 cur3
  go_region_law (first
    | (go_simp; go_at_call 51; refine (below_any (HC.out.drew_) 6 (by omega)).mono ?_; rintro e w7 ⟨x, _, rfl, hg7, cur7⟩; have bg7 := hHB.out.drew_.only hg7 hBg; have br7 := HR.out.drew_.only hg7 hBr; have ho7 := (HO.out.new ((Below.refl _ _).drew)).only hg7 (by omega); have hz7 : w3.heap.size ≤ w7.heap.size := hg7.size; have hbw7 : Below w.heap.size w w7 := cur_below hbw3.drew hg7 (by omega); obtain ⟨E0, E1⟩ := bg7.two; obtain ⟨R0, R1⟩ := br7.two; have r0 := br7.free 0; have r1 := br7.free 1))
  all_goals
    go_wp2
    refine bodyPost_ret (resGB rfl ((br7.set 0 _).set 1 _) rfl rfl rfl) rfl ⟨N, X, .slice Av X.length cv, x, HOK.out.more (by omega), rfl, ?_⟩
    exact cells_result (ho7.wide (Nat.le_refl _) (by omega)) hbw7 (by omega)
end Go.Proofs.Ytobghogkflgpeaa

/- Contracts of the draws DrawIsLine, DrawWinnerOf. Condition: the code's bytes lie in old memory. -/
namespace Go.Proofs.Ytobghogkflgpeaa
open Go.ChangeShapes Go.WideShapes Go.ChangeAt Go.RowKit
set_option maxRecDepth 100000
set_option maxHeartbeats 8000000 in
theorem drawLine {w : World} {A : Option Addr} {n c : Nat} (h : Code8 w A n) :
    Calls Try.prog 57 #[.slice A n c] w (DrewGS2 12 w) := by
  have bx0 := Bx.made w 27 #[Value.int .i64 0, .slice none 0 0]
  have hb0 : Below w.heap.size w (w.alloc (Obj.cells #[Value.int .i64 0, .slice none 0 0] 27)) := (Below.refl _ _).alloc (Nat.le_refl _) _
  have h0 := h.below hb0
  have hs0 : (w.alloc (Obj.cells #[Value.int .i64 0, .slice none 0 0] 27)).heap.size = w.heap.size + 1 := by simp
  go_enter Try.func57, Try.ntmps57
  go_wp2_with fail
  refine (new_any h0).mono ?_
  rintro e w1 ⟨rfl, hb1, cur1⟩
  have br1 := bx0.new hb1
  have hz1 := hb1.size
  have hbw1 := hb0.trans (hb1.mono hb0.size)
  rw [hs0] at hz1 cur1 ⊢
  go_wp2_with fail
  refine (small8_any cur1).mono ?_
  rintro e w2 ⟨N, X, v, _, hok, rfl, hown2, hg2, cur2⟩
  obtain ⟨Av, cv, rfl, _, _, _⟩ := hown2.rd (n := X.length) rfl
  have hl1 := cur1.lt
  have hz2 := hg2.size
  have br2 := br1.only hg2 (by omega)
  have hbw2 := cur_below hbw1 hg2 (by omega)
  have k3 : Below w2.heap.size w2 (w2.alloc (Obj.cells #[Value.int .i64 N, .slice Av X.length cv] 27)) := (Below.refl _ _).alloc (Nat.le_refl _) _
  have br3 := br2.new k3
  have bg3 := Bx.made w2 27 #[Value.int .i64 N, .slice Av X.length cv]
  have ho3 := (hown2.new k3).wide (hi' := (w2.alloc (Obj.cells #[Value.int .i64 N, .slice Av X.length cv] 27)).heap.size) (Nat.le_refl _) k3.size
  have cur3 := cur2.below k3
  have hbw3 := hbw2.trans (k3.mono hbw2.size)
  have HOK := Lib.hid hok
  have hx3 : (w2.alloc (Obj.cells #[Value.int .i64 N, .slice Av X.length cv] 27)).heap.size = w2.heap.size + 1 := by simp
  obtain ⟨w3, hw3⟩ : ∃ u : World, u = w2.alloc (Obj.cells #[Value.int .i64 N, .slice Av X.length cv] 27) := ⟨_, rfl⟩
  rw [← hw3] at br3 bg3 ho3 cur3 hbw3 hx3
  obtain ⟨g, hg⟩ : ∃ g, g = w2.heap.size := ⟨_, rfl⟩
  have hHW := Lib.hid hw3.symm
  clear bx0 hb0 h0 br1 hb1 hbw1 cur1 br2 hbw2 k3 hown2 hg2 cur2 hok hw3 hs0
  go_wp2_with fail
  rw [hHW.out]
  clear hHW
  rw [← hg] at bg3 hx3 hz2 ⊢
  clear hg
  have hHB := Lib.hid bg3
  have HR := Lib.hid br3
  have HO := Lib.hid ho3
  have HC := Lib.hid cur3
  obtain ⟨D0, D1⟩ := bg3.two
  have hBg : w.heap.size + 1 ≠ g := by omega
  have hBr : w.heap.size + 1 ≠ w.heap.size := by omega
  clear bg3 br3 ho3 cur3
  go_region_law (first
    | (go_simp; go_at_call 82; refine (line8_any (L := w.heap.size + 2) (N := N) (X := X) (HC.out.drew_) (by have := HOK.out.1; omega) ((HO.out.new ((Below.refl _ _).drew)).wide (by omega) (Nat.le_refl _)) (by omega)).mono ?_; rintro e w7 ⟨zs, u, hzl, rfl, hrow7, hg7, cur7⟩; have bg7 := hHB.out.drew_.only hg7 hBg; have br7 := HR.out.drew_.only hg7 hBr; have ho7 := (HO.out.new ((Below.refl _ _).drew)).only hg7 (by omega); have hz7 : w3.heap.size ≤ w7.heap.size := hg7.size; have hbw7 : Below w.heap.size w w7 := cur_below hbw3.drew hg7 (by omega); obtain ⟨E0, E1⟩ := bg7.two; obtain ⟨R0, R1⟩ := br7.two; have r0 := br7.free 0; have r1 := br7.free 1; have hrw7 : Row w7 w3.heap.size w7.heap.size 3 u (ivs zs) := hrow7))
  all_goals
    go_wp2
    have hk := cells_result (a := .int .i64 N) (b := .slice Av X.length cv) (ho7.wide (Nat.le_refl _) hz7) hbw7 (by omega)
    have hk2 := ((ho7.setFar (p := ⟨w.heap.size, 0, none⟩) (.inl (by simp; omega)) (.int .i64 N)).setFar (p := ⟨w.heap.size, 1, none⟩) (.inl (by simp; omega)) (.slice Av X.length cv)).wide (lo' := w.heap.size) (by omega) (Nat.le_refl _)
    refine bodyPost_ret (resGB rfl ((br7.set 0 _).set 1 _) rfl rfl rfl) rfl ⟨N, X, .slice Av X.length cv, zs, u, w3.heap.size, HOK.out.more (by omega), hzl, rfl, hbw3.size, by simpa using hz7, hk2, ?_, hk.2⟩
    exact ((hrw7.out (Out.setCell w7 (lo := w.heap.size) (hi := w.heap.size + 1) (Nat.le_refl _) (Nat.lt_succ_self _) 0 _) (.inr (by omega))).out (Out.setCell _ (lo := w.heap.size) (hi := w.heap.size + 1) (Nat.le_refl _) (Nat.lt_succ_self _) 1 _) (.inr (by omega))).wide (Nat.le_refl _) (by simp)
set_option maxHeartbeats 8000000 in
theorem drawWin {w : World} {A : Option Addr} {n c : Nat} (h : Code8 w A n) :
    Calls Try.prog 22 #[.slice A n c] w (DrewGS2 12 w) := by
  have br0 := Bx.made w 27 #[Value.int .i64 0, .slice none 0 0]
  have hb0 : Below w.heap.size w (w.alloc (Obj.cells #[Value.int .i64 0, .slice none 0 0] 27)) := (Below.refl _ _).alloc (Nat.le_refl _) _
  have h0 := h.below hb0
  have hs0 : (w.alloc (Obj.cells #[Value.int .i64 0, .slice none 0 0] 27)).heap.size = w.heap.size + 1 := by simp
  go_enter Try.func22, Try.ntmps22
  go_wp2_with fail
  refine (drawLine h0).mono ?_
  rintro e w2 ⟨N, X, v, zs, u, M, hok, hzl, rfl, hM1, hM2, hown2, hrow2, hb2⟩
  rw [hs0] at hM1 hown2
  obtain ⟨Av, cv, rfl, _, _, _⟩ := hown2.rd (n := X.length) rfl
  have br2 := br0.new hb2
  have hbw2 := hb0.trans (hb2.mono hb0.size)
  have hsz2 := hb2.size
  rw [hs0] at hsz2
  obtain ⟨R0, R1⟩ := br2.two
  have r0 := br2.free 0
  have r1 := br2.free 1
  have hHB := Lib.hid br2
  have HOK := Lib.hid hok
  clear br0 hb0 h0 br2 hok hs0 hb2
  go_wp2_with fail
  have br2 := hHB.out
  refine bodyPost_ret (resGB rfl ((br2.set 0 _).set 1 _) rfl rfl rfl) rfl ⟨N, X, _, zs, u, M, HOK.out, by omega, rfl, by omega, by simp; omega, ?_, ?_, (hbw2.setCell (p := ⟨w.heap.size, 0, none⟩) (Nat.le_refl _) _).setCell (p := ⟨w.heap.size, 1, none⟩) (Nat.le_refl _) _⟩
  · exact ((hown2.setFar (p := ⟨w.heap.size, 0, none⟩) (.inl (by simp)) _).setFar (p := ⟨w.heap.size, 1, none⟩) (.inl (by simp)) _).wide (by omega) (Nat.le_refl _)
  · exact ((hrow2.out (Out.setCell w2 (lo := w.heap.size) (hi := w.heap.size + 1) (Nat.le_refl _) (Nat.lt_succ_self _) 0 _) (.inr (by omega))).out (Out.setCell _ (lo := w.heap.size) (hi := w.heap.size + 1) (Nat.le_refl _) (Nat.lt_succ_self _) 1 _) (.inr (by omega))).wide (Nat.le_refl _) (by simp)
end Go.Proofs.Ytobghogkflgpeaa

/- Contracts of the draws DrawAnswersTo, DrawBestAnswer. Condition: the code's bytes lie in old memory. -/
namespace Go.Proofs.Ytobghogkflgpeaa
open Go.ChangeShapes Go.WideShapes Go.ChangeAt Go.RowKit
set_option maxRecDepth 100000
set_option maxHeartbeats 8000000 in
theorem drawAns {w : World} {A : Option Addr} {n c : Nat} (h : Code8 w A n) :
    Calls Try.prog 55 #[.slice A n c] w (DrewGSI w) := by
  have bx0 := Bx.made w 27 #[Value.int .i64 0, .slice none 0 0]
  have hb0 : Below w.heap.size w (w.alloc (Obj.cells #[Value.int .i64 0, .slice none 0 0] 27)) := (Below.refl _ _).alloc (Nat.le_refl _) _
  have h0 := h.below hb0
  have hs0 : (w.alloc (Obj.cells #[Value.int .i64 0, .slice none 0 0] 27)).heap.size = w.heap.size + 1 := by simp
  go_enter Try.func55, Try.ntmps55
  go_wp2_with fail
  refine (new_any h0).mono ?_
  rintro e w1 ⟨rfl, hb1, cur1⟩
  have br1 := bx0.new hb1
  have hz1 := hb1.size
  have hbw1 := hb0.trans (hb1.mono hb0.size)
  rw [hs0] at hz1 cur1 ⊢
  go_wp2_with fail
  refine (small8_any cur1).mono ?_
  rintro e w2 ⟨N, X, v, _, hok, rfl, hown2, hg2, cur2⟩
  obtain ⟨Av, cv, rfl, _, _, _⟩ := hown2.rd (n := X.length) rfl
  have hl1 := cur1.lt
  have hz2 := hg2.size
  have br2 := br1.only hg2 (by omega)
  have hbw2 := cur_below hbw1 hg2 (by omega)
  have k3 : Below w2.heap.size w2 (w2.alloc (Obj.cells #[Value.int .i64 N, .slice Av X.length cv] 27)) := (Below.refl _ _).alloc (Nat.le_refl _) _
  have br3 := br2.new k3
  have bg3 := Bx.made w2 27 #[Value.int .i64 N, .slice Av X.length cv]
  have ho3 := (hown2.new k3).wide (hi' := (w2.alloc (Obj.cells #[Value.int .i64 N, .slice Av X.length cv] 27)).heap.size) (Nat.le_refl _) k3.size
  have cur3 := cur2.below k3
  have hbw3 := hbw2.trans (k3.mono hbw2.size)
  have HOK := Lib.hid hok
  have hx3 : (w2.alloc (Obj.cells #[Value.int .i64 N, .slice Av X.length cv] 27)).heap.size = w2.heap.size + 1 := by simp
  obtain ⟨w3, hw3⟩ : ∃ u : World, u = w2.alloc (Obj.cells #[Value.int .i64 N, .slice Av X.length cv] 27) := ⟨_, rfl⟩
  rw [← hw3] at br3 bg3 ho3 cur3 hbw3 hx3
  obtain ⟨g, hg⟩ : ∃ g, g = w2.heap.size := ⟨_, rfl⟩
  have hHW := Lib.hid hw3.symm
  clear bx0 hb0 h0 br1 hb1 hbw1 cur1 br2 hbw2 k3 hown2 hg2 cur2 hok hw3 hs0
  go_wp2_with fail
  rw [hHW.out]
  clear hHW
  rw [← hg] at bg3 hx3 hz2 ⊢
  clear hg
  have hHB := Lib.hid bg3
  have HR := Lib.hid br3
  have HO := Lib.hid ho3
  have HC := Lib.hid cur3
  obtain ⟨D0, D1⟩ := bg3.two
  have hBg : w.heap.size + 1 ≠ g := by omega
  have hBr : w.heap.size + 1 ≠ w.heap.size := by omega
  clear bg3 br3 ho3 cur3
  refine wp_region_held_drew (S := fun u => u.cell? ⟨g, 0, none⟩ = some (.int .i64 N) ∧ u.cell? ⟨g, 1, none⟩ = some (.slice Av X.length cv)) (by kernel_rfl) ?_ (fun hHeld => ?_)
  · first | exact ⟨D0, D1⟩ | exact ⟨F0, F1⟩ | exact ⟨G0, G1⟩ | exact ⟨G2, G3⟩ | exact ⟨P0, P1⟩ | exact ⟨Z0, Z1⟩
  refine wpAnyH_take (i := 0) (v := ?_) rfl (by kernel_rfl) (by kernel_rfl) (by kernel_rfl) (fun _ _ _ h => h) (Or.inl ⟨by rfl, ?_⟩) (by assumption) ?_
  rotate_left
  · intro w hSw
    try dsimp only at hSw
    go_simp
    try with_reducible rfl
  try simp only [Act.put]
  refine wpAnyH_take (i := 1) (v := ?_) rfl (by kernel_rfl) (by kernel_rfl) (by kernel_rfl) (fun _ _ _ h => h) (Or.inl ⟨by rfl, ?_⟩) (by assumption) ?_
  rotate_left
  · intro w hSw
    try dsimp only at hSw
    go_simp
    try with_reducible rfl
  try simp only [Act.put]
  refine wpAnyH_take (i := 3) (v := ?_) rfl (by kernel_rfl) (by kernel_rfl) (by kernel_rfl) (fun _ _ _ h => h) (Or.inl ⟨by rfl, ?_⟩) (by assumption) ?_
  rotate_left
  · intro w hSw
    try dsimp only at hSw
    go_simp
    try with_reducible rfl
  try simp only [Act.put]
  refine wpAnyH_take (i := 6) (v := ?_) rfl (by kernel_rfl) (by kernel_rfl) (by kernel_rfl) (fun _ _ _ h => h) (Or.inl ⟨by rfl, ?_⟩) (by assumption) ?_
  rotate_left
  · intro w hSw
    try dsimp only at hSw
    go_simp
    try with_reducible rfl
  try simp only [Act.put]
  refine wpAnyH_ready (rs := [2]) (by kernel_rfl) (by simp) ?_
  refine AllReadyH.cons rfl (fun K hK => ?_) AllReadyH.nil
  rw [if_pos (by rfl)]
  go_simp
  go_at_call 51
  refine (below_any (HC.out.drew_) 5 (by omega)).mono ?_
  rintro e w5 ⟨p, _, rfl, hg5, cur5⟩
  have bg5 := hHB.out.drew_.only hg5 hBg
  have br5 := HR.out.drew_.only hg5 hBr
  have ho5 := (HO.out.new ((Below.refl _ _).drew)).only hg5 (by omega)
  have hz5 : w3.heap.size ≤ w5.heap.size := hg5.size
  have hbw5 : Below w.heap.size w w5 := cur_below hbw3.drew hg5 (by omega)
  obtain ⟨F0, F1⟩ := bg5.two
  refine hK.out _ _ ?_ (fun hHeld => ?_)
  · first | exact ⟨D0, D1⟩ | exact ⟨F0, F1⟩ | exact ⟨G0, G1⟩ | exact ⟨G2, G3⟩ | exact ⟨P0, P1⟩ | exact ⟨Z0, Z1⟩
  clear hK K
  try simp only [Act.put]
  refine wpAnyH_ready (rs := [4]) (by kernel_rfl) (by simp) ?_
  refine AllReadyH.cons rfl (fun K hK => ?_) AllReadyH.nil
  rw [if_pos (by rfl)]
  go_simp
  go_at_call 51
  refine (below_any cur5 5 (by omega)).mono ?_
  rintro e w6 ⟨q, _, rfl, hg6, cur6⟩
  have bg6 := bg5.only hg6 hBg
  have br6 := br5.only hg6 hBr
  have ho6 := ho5.only hg6 (by omega)
  have hz6 := hg6.size
  have hbw6 : Below w.heap.size w w6 := cur_below hbw5 hg6 (by omega)
  have hl6 := cur6.lt
  obtain ⟨G0, G1⟩ := bg6.two
  refine hK.out _ _ ?_ (fun hHeld => ?_)
  · first | exact ⟨D0, D1⟩ | exact ⟨F0, F1⟩ | exact ⟨G0, G1⟩ | exact ⟨G2, G3⟩ | exact ⟨P0, P1⟩ | exact ⟨Z0, Z1⟩
  clear hK K
  try simp only [Act.put]
  refine wpAnyH_ready (rs := [5, 7]) (by kernel_rfl) (by simp) ?_
  refine AllReadyH.cons rfl (fun K hK => ?_) (AllReadyH.cons rfl (fun K hK => ?_) AllReadyH.nil)
  · have hbl : Below w6.heap.size w6 (w6.alloc (Obj.cells #[Value.int .i64 p, .int .i64 q] 3)) := alloc_new _ _
    have bg6a := bg6.new hbl
    have br6a := br6.new hbl
    have ho6a := ho6.new hbl
    have cur6a := cur6.alloc (Obj.cells #[Value.int .i64 p, .int .i64 q] 3)
    have hbw6a := hbw6.trans (hbl.mono (by omega))
    obtain ⟨G2, G3⟩ := bg6a.two
    have rowA6 := (Row.made (w := w6) w6.heap.size #[Value.int .i64 p, .int .i64 q] 2 3 (Nat.le_refl _) rfl (by decide))
    clear hbl
    go_simp
    refine hK.out _ _ ?_ (fun hHeld => ?_)
    · exact ⟨G2, G3⟩
    clear hK K
    try simp only [Act.put]
    refine wpAnyH_ready (rs := [7]) (by kernel_rfl) (by simp) ?_
    refine AllReadyH.cons rfl (fun K hK => ?_) AllReadyH.nil
    rw [if_pos (by rfl)]
    go_simp
    go_at_call 51
    refine (below_any cur6a 6 (by omega)).mono ?_
    rintro e w7 ⟨x, _, rfl, hg7, cur7⟩
    have bg7 := bg6a.only hg7 hBg
    have br7 := br6a.only hg7 hBr
    have ho7 := ho6a.only hg7 (by omega)
    have hz7 : w6.heap.size + 1 ≤ w7.heap.size := (by have := hg7.size; simpa using this)
    have hbw7 : Below w.heap.size w w7 := cur_below hbw6a hg7 (by omega)
    have row7 := rowA6.out (Out.of_only hg7) (.inr (by omega))
    obtain ⟨P0, P1⟩ := bg7.two
    obtain ⟨R0, R1⟩ := br7.two
    have r0 := br7.free 0
    have r1 := br7.free 1
    obtain ⟨Z0, Z1⟩ := ((bg7.far (p := ⟨w.heap.size, 0, none⟩) (by show g ≠ w.heap.size; omega) (.int .i64 N)).far (p := ⟨w.heap.size, 1, none⟩) (by show g ≠ w.heap.size; omega) (.slice Av X.length cv)).two
    refine hK.out _ _ ?_ (fun hHeld => ?_)
    · first | exact ⟨D0, D1⟩ | exact ⟨F0, F1⟩ | exact ⟨G0, G1⟩ | exact ⟨G2, G3⟩ | exact ⟨P0, P1⟩ | exact ⟨Z0, Z1⟩
    clear hK K
    try simp only [Act.put]
    refine wpAnyH_ready (rs := [8]) (by kernel_rfl) (by simp) ?_
    refine AllReadyH.cons rfl (fun K hK => ?_) AllReadyH.nil
    go_simp
    refine hK.out _ _ ?_ (fun hHeld => ?_)
    · first | exact ⟨D0, D1⟩ | exact ⟨F0, F1⟩ | exact ⟨G0, G1⟩ | exact ⟨G2, G3⟩ | exact ⟨P0, P1⟩ | exact ⟨Z0, Z1⟩
    clear hK K
    try simp only [Act.put]
    refine wpAnyH_ready (rs := [9]) (by kernel_rfl) (by simp) ?_
    refine AllReadyH.cons rfl (fun K hK => ?_) AllReadyH.nil
    go_simp
    refine hK.out _ _ ?_ (fun hHeld => ?_)
    · first | exact ⟨D0, D1⟩ | exact ⟨F0, F1⟩ | exact ⟨G0, G1⟩ | exact ⟨G2, G3⟩ | exact ⟨P0, P1⟩ | exact ⟨Z0, Z1⟩
    clear hK K
    try simp only [Act.put]
    refine wpAnyH_ready (rs := [10]) (by kernel_rfl) (by simp) ?_
    refine AllReadyH.cons rfl (fun K hK => ?_) AllReadyH.nil
    go_simp
    refine hK.out _ _ ?_ (fun hHeld => ?_)
    · first | exact ⟨D0, D1⟩ | exact ⟨F0, F1⟩ | exact ⟨G0, G1⟩ | exact ⟨G2, G3⟩ | exact ⟨P0, P1⟩ | exact ⟨Z0, Z1⟩
    clear hK K
    try simp only [Act.put]
    refine wpAnyH_done (by kernel_rfl) ?_ _
    go_wp2_with fail
    refine bodyPost_ret (resGII rfl ((br7.set 0 _).set 1 _) rfl rfl rfl rfl) rfl ⟨N, X, .slice Av X.length cv, [p, q], _, x, HOK.out.more (by omega), by simp, rfl, ?_, ?_, ?_⟩
    · exact (cells_result (ho7.wide (Nat.le_refl _) (by omega)) hbw7 (by omega)).1
    · exact ((row7.out (Out.setCell _ (lo := w.heap.size) (hi := w.heap.size + 1) (Nat.le_refl _) (Nat.lt_succ_self _) 0 _) (.inr (by omega))).out (Out.setCell _ (lo := w.heap.size) (hi := w.heap.size + 1) (Nat.le_refl _) (Nat.lt_succ_self _) 1 _) (.inr (by omega))).wide (by omega) (by simp; omega)
    · exact (cells_result (ho7.wide (Nat.le_refl _) (by omega)) hbw7 (by omega)).2
  · skip
    rw [if_pos (by rfl)]
    go_simp
    go_at_call 51
    refine (below_any cur6 6 (by omega)).mono ?_
    rintro e w7 ⟨x, _, rfl, hg7, cur7⟩
    have hz7 := hg7.size
    have kA := alloc_new w7 (Obj.cells #[Value.int .i64 p, .int .i64 q] 3)
    have bg7 := (bg6.only hg7 hBg)
    have bg7a := bg7.new kA
    have br7 := (br6.only hg7 hBr)
    have br7a := br7.new kA
    have ho7 := (ho6.only hg7 (by omega))
    have ho7a := ho7.new kA
    have hbw7 : Below w.heap.size w w7 := cur_below hbw6 hg7 (by omega)
    have hbw7a := hbw7.trans (kA.mono hbw7.size)
    have row7 := (Row.made (w := w7) w7.heap.size #[Value.int .i64 p, .int .i64 q] 2 3 (Nat.le_refl _) rfl (by decide))
    obtain ⟨P0, P1⟩ := bg7.two
    obtain ⟨G2, G3⟩ := bg7a.two
    have r2 := br7a.free 0
    have r3 := br7a.free 1
    obtain ⟨R2, R3⟩ := br7a.two
    obtain ⟨Z0, Z1⟩ := ((bg7a.far (p := ⟨w.heap.size, 0, none⟩) (by show g ≠ w.heap.size; omega) (.int .i64 N)).far (p := ⟨w.heap.size, 1, none⟩) (by show g ≠ w.heap.size; omega) (.slice Av X.length cv)).two
    refine hK.out _ _ ?_ (fun hHeld => ?_)
    · exact ⟨P0, P1⟩
    clear hK K
    try simp only [Act.put]
    obtain ⟨R0, R1⟩ := br7.two
    have r0 := br7.free 0
    have r1 := br7.free 1
    have bg7s := (bg7.far (p := ⟨w.heap.size, 0, none⟩) (by show g ≠ w.heap.size; omega) (.int .i64 N)).far (p := ⟨w.heap.size, 1, none⟩) (by show g ≠ w.heap.size; omega) (.slice Av X.length cv)
    have br7s := (br7.set 0 (.int .i64 N)).set 1 (.slice Av X.length cv)
    have ho7s := (cells_result (a := .int .i64 N) (b := .slice Av X.length cv) (ho7.wide (Nat.le_refl _) (by omega)) hbw7 (by omega)).1
    have hbw7s := (cells_result (a := .int .i64 N) (b := .slice Av X.length cv) (ho7.wide (Nat.le_refl _) (by omega)) hbw7 (by omega)).2
    refine wpAnyH_ready (rs := [5, 8]) (by kernel_rfl) (by simp) ?_
    refine AllReadyH.cons rfl (fun K hK => ?_) (AllReadyH.cons rfl (fun K hK => ?_) AllReadyH.nil)
    · clear R0 R1 r0 r1 bg7s br7s ho7s hbw7s
      go_simp
      refine hK.out _ _ ?_ (fun hHeld => ?_)
      · exact ⟨G2, G3⟩
      clear hK K
      try simp only [Act.put]
      refine wpAnyH_ready (rs := [8]) (by kernel_rfl) (by simp) ?_
      refine AllReadyH.cons rfl (fun K hK => ?_) AllReadyH.nil
      go_simp
      refine hK.out _ _ ?_ (fun hHeld => ?_)
      · first | exact ⟨D0, D1⟩ | exact ⟨F0, F1⟩ | exact ⟨G0, G1⟩ | exact ⟨G2, G3⟩ | exact ⟨P0, P1⟩ | exact ⟨Z0, Z1⟩
      clear hK K
      try simp only [Act.put]
      refine wpAnyH_ready (rs := [9]) (by kernel_rfl) (by simp) ?_
      refine AllReadyH.cons rfl (fun K hK => ?_) AllReadyH.nil
      go_simp
      refine hK.out _ _ ?_ (fun hHeld => ?_)
      · first | exact ⟨D0, D1⟩ | exact ⟨F0, F1⟩ | exact ⟨G0, G1⟩ | exact ⟨G2, G3⟩ | exact ⟨P0, P1⟩ | exact ⟨Z0, Z1⟩
      clear hK K
      try simp only [Act.put]
      refine wpAnyH_ready (rs := [10]) (by kernel_rfl) (by simp) ?_
      refine AllReadyH.cons rfl (fun K hK => ?_) AllReadyH.nil
      go_simp
      refine hK.out _ _ ?_ (fun hHeld => ?_)
      · first | exact ⟨D0, D1⟩ | exact ⟨F0, F1⟩ | exact ⟨G0, G1⟩ | exact ⟨G2, G3⟩ | exact ⟨P0, P1⟩ | exact ⟨Z0, Z1⟩
      clear hK K
      try simp only [Act.put]
      refine wpAnyH_done (by kernel_rfl) ?_ _
      go_wp2_with fail
      refine bodyPost_ret (resGII rfl ((br7a.set 0 _).set 1 _) rfl rfl rfl rfl) rfl ⟨N, X, .slice Av X.length cv, [p, q], _, x, HOK.out.more (by omega), by simp, rfl, ?_, ?_, ?_⟩
      · exact (cells_result (ho7a.wide (Nat.le_refl _) (by simp; omega)) hbw7a (by omega)).1
      · exact ((row7.out (Out.setCell _ (lo := w.heap.size) (hi := w.heap.size + 1) (Nat.le_refl _) (Nat.lt_succ_self _) 0 _) (.inr (by omega))).out (Out.setCell _ (lo := w.heap.size) (hi := w.heap.size + 1) (Nat.le_refl _) (Nat.lt_succ_self _) 1 _) (.inr (by omega))).wide (by omega) (by simp)
      · exact (cells_result (ho7a.wide (Nat.le_refl _) (by simp; omega)) hbw7a (by omega)).2
    · obtain ⟨Y0, Y1⟩ := bg7s.two
      clear R2 R3 r2 r3 G2 G3 Z0 Z1 kA bg7a br7a ho7a hbw7a row7
      go_simp
      refine hK.out _ _ ?_ (fun hHeld => ?_)
      · exact ⟨Y0, Y1⟩
      clear hK K
      try simp only [Act.put]
      obtain ⟨ws, hws⟩ : ∃ ws : World, ws = (w7.setCell ⟨w.heap.size, 0, none⟩ (.int .i64 N)).setCell ⟨w.heap.size, 1, none⟩ (.slice Av X.length cv) := ⟨_, rfl⟩
      have hsz : ws.heap.size = w7.heap.size := by rw [hws]; simp
      rw [← hws] at bg7s br7s ho7s hbw7s
      try rw [← hws]
      have kS := alloc_new ws (Obj.cells #[Value.int .i64 p, .int .i64 q] 3)
      have row7 := (Row.made (w := ws) ws.heap.size #[Value.int .i64 p, .int .i64 q] 2 3 (Nat.le_refl _) rfl (by decide))
      obtain ⟨Z0, Z1⟩ := (bg7s.new kS).two
      have brz := br7s.new kS
      have hsz2 : (ws.alloc (Obj.cells #[Value.int .i64 p, .int .i64 q] 3)).heap.size = ws.heap.size + 1 := by simp
      clear hws
      refine wpAnyH_ready (rs := [5]) (by kernel_rfl) (by simp) ?_
      refine AllReadyH.cons rfl (fun K hK => ?_) AllReadyH.nil
      go_simp
      refine hK.out _ _ ?_ (fun hHeld => ?_)
      · first | exact ⟨D0, D1⟩ | exact ⟨F0, F1⟩ | exact ⟨G0, G1⟩ | exact ⟨G2, G3⟩ | exact ⟨P0, P1⟩ | exact ⟨Z0, Z1⟩
      clear hK K
      try simp only [Act.put]
      refine wpAnyH_ready (rs := [9]) (by kernel_rfl) (by simp) ?_
      refine AllReadyH.cons rfl (fun K hK => ?_) AllReadyH.nil
      go_simp
      refine hK.out _ _ ?_ (fun hHeld => ?_)
      · first | exact ⟨D0, D1⟩ | exact ⟨F0, F1⟩ | exact ⟨G0, G1⟩ | exact ⟨G2, G3⟩ | exact ⟨P0, P1⟩ | exact ⟨Z0, Z1⟩
      clear hK K
      try simp only [Act.put]
      refine wpAnyH_ready (rs := [10]) (by kernel_rfl) (by simp) ?_
      refine AllReadyH.cons rfl (fun K hK => ?_) AllReadyH.nil
      go_simp
      refine hK.out _ _ ?_ (fun hHeld => ?_)
      · first | exact ⟨D0, D1⟩ | exact ⟨F0, F1⟩ | exact ⟨G0, G1⟩ | exact ⟨G2, G3⟩ | exact ⟨P0, P1⟩ | exact ⟨Z0, Z1⟩
      clear hK K
      try simp only [Act.put]
      refine wpAnyH_done (by kernel_rfl) ?_ _
      go_wp2_with fail
      refine bodyPost_ret (resGII rfl brz rfl rfl rfl rfl) rfl ⟨N, X, .slice Av X.length cv, [p, q], _, x, HOK.out.more (by omega), by simp, rfl, ?_, ?_, ?_⟩
      · exact (ho7s.new kS).wide (Nat.le_refl _) kS.size
      · have hrw := row7.wide (Nat.le_trans hbw7.size (Nat.le_of_eq hsz.symm)) (Nat.le_of_eq hsz2.symm)
        rw [hsz] at hrw
        exact hrw
      · exact hbw7s.trans (kS.mono hbw7s.size)
set_option maxHeartbeats 8000000 in
theorem drawBest {w : World} {A : Option Addr} {n c : Nat} (h : Code8 w A n) :
    Calls Try.prog 20 #[.slice A n c] w (DrewGSI w) := by
  have br0 := Bx.made w 27 #[Value.int .i64 0, .slice none 0 0]
  have hb0 : Below w.heap.size w (w.alloc (Obj.cells #[Value.int .i64 0, .slice none 0 0] 27)) := (Below.refl _ _).alloc (Nat.le_refl _) _
  have h0 := h.below hb0
  have hs0 : (w.alloc (Obj.cells #[Value.int .i64 0, .slice none 0 0] 27)).heap.size = w.heap.size + 1 := by simp
  go_enter Try.func20, Try.ntmps20
  go_wp2_with fail
  refine (drawAns h0).mono ?_
  rintro e w2 ⟨N, X, v, zs, u, x, hok, hzl, rfl, hown2, hrow2, hb2⟩
  rw [hs0] at hown2 hrow2
  obtain ⟨Av, cv, rfl, _, _, _⟩ := hown2.rd (n := X.length) rfl
  have br2 := br0.new hb2
  have hbw2 := hb0.trans (hb2.mono hb0.size)
  have hsz2 := hb2.size
  rw [hs0] at hsz2
  obtain ⟨R0, R1⟩ := br2.two
  have r0 := br2.free 0
  have r1 := br2.free 1
  have hHB := Lib.hid br2
  have HOK := Lib.hid hok
  clear br0 hb0 h0 br2 hok hs0 hb2
  go_wp2_with fail
  have br2 := hHB.out
  refine bodyPost_ret (resGII rfl ((br2.set 0 _).set 1 _) rfl rfl rfl rfl) rfl ⟨N, X, _, zs, u, x, HOK.out, by omega, rfl, ?_, ?_, (hbw2.setCell (p := ⟨w.heap.size, 0, none⟩) (Nat.le_refl _) _).setCell (p := ⟨w.heap.size, 1, none⟩) (Nat.le_refl _) _⟩
  · exact ((hown2.setFar (p := ⟨w.heap.size, 0, none⟩) (.inl (by simp)) _).setFar (p := ⟨w.heap.size, 1, none⟩) (.inl (by simp)) _).wide (by omega) (by simp)
  · exact ((hrow2.out (Out.setCell w2 (lo := w.heap.size) (hi := w.heap.size + 1) (Nat.le_refl _) (Nat.lt_succ_self _) 0 _) (.inr (by omega))).out (Out.setCell _ (lo := w.heap.size) (hi := w.heap.size + 1) (Nat.le_refl _) (Nat.lt_succ_self _) 1 _) (.inr (by omega))).wide (by omega) (by simp)
end Go.Proofs.Ytobghogkflgpeaa
