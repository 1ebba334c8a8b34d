/- Contracts of the draws of graphs: l4Raw, l4Draw. Condition: as for the cursor's own functions. -/
import Derived.Test.YtjhknafajfpldaaDoorMg14
import Derived.Test.YtjhknafajfpldaaDoorMg16
namespace Go.Proofs.YtjhknafajfpldaaDoor
open Go.ChangeShapes Go.WideShapes Go.ChangeAt Go.RowKit
set_option maxRecDepth 100000
theorem only_ofalloc' {w w' : World} {o : Obj} {r : Option Nat} (h : (w.alloc o).grownBy w' r) : w.grownBy w' r := only_trans (only_alloc (only_refl w r) o) h
theorem raw4_any {w : World} {B : Nat} {A : Option Addr} {n c : Nat} (h : Cur w B A n c) :
    Calls Tryd.prog 54 #[.pointer (some ⟨B, 0, none⟩)] w (Drawn (fun _ => True) B A n c w) := by
  have hne : B ≠ w.heap.size := by have := h.lt; omega
  have hrow := introw_alloc (fun _ => True) w [-1, 0, 5, 10, 11, 9223372036854775807, -9223372036854775808] 3 (by simp)
  have HR := Lib.hid hrow
  clear hrow
  go_enter Tryd.func54, Tryd.ntmps54
  go_wp2_with fail
  refine (int_any (fun _ => True) (h.alloc _) _ 7 (Ne.symm hne) (by omega) (by omega) HR.out).mono ?_
  rintro e w2 ⟨y, hy, rfl, hg2, hc2⟩
  go_wp2
  go_ret
  exact ⟨_, hy, rfl, only_ofalloc' hg2, hc2⟩
/-- Small pairs, k at most. -/
def GOK (k : Nat) (X : List (List Int)) : Prop := X.length ≤ k ∧ ∀ x ∈ X, x.length ≤ 2
theorem GOK.add {k : Nat} {X : List (List Int)} (h : GOK k X) (N a b : Int) : GOK (k + 1) (addL N X a b) := by
  unfold addL
  split
  · refine ⟨by rw [ins_len]; have := h.1; omega, fun x hx => ?_⟩
    rcases ins_mem.1 hx with hx | rfl
    · exact h.2 x hx
    · simp
  · exact ⟨by have := h.1; omega, h.2⟩
theorem GOK.snoc {k : Nat} {X : List (List Int)} (h : GOK k X) {x : List Int} (hx : x.length ≤ 2) : GOK (k + 1) (X ++ [x]) := by
  refine ⟨by rw [List.length_append]; have := h.1; simp; omega, fun y hy => ?_⟩
  rcases List.mem_append.1 hy with hy | hy
  · exact h.2 y hy
  · rw [List.mem_singleton.1 hy]; exact hx
theorem GOK.more {k k' : Nat} {X : List (List Int)} (h : GOK k X) (hk : k ≤ k') : GOK k' X := ⟨Nat.le_trans h.1 hk, h.2⟩
theorem GOK.small {k : Nat} {X : List (List Int)} (h : GOK k X) : Hid (∀ x ∈ X, x.length ≤ 1099511627776) := Lib.hid fun x hx => Nat.le_trans (h.2 x hx) (by omega)
/-- A graph was drawn; its memory is new. -/
def DrewG (P : Int → Prop) (k B : Nat) (A : Option Addr) (n c : Nat) (w : World) (e : Ending) (w' : World) : Prop :=
  ∃ (N : Int) (X : List (List Int)) (v : Value), P N ∧ GOK k X ∧ e = .returned (.agg #[.int .i64 N, v]) ∧ OwnSS w' w.heap.size w'.heap.size v X ∧ w.grownBy w' (some B) ∧ Cur w' B A n c
theorem OwnSS.only {w w' : World} {lo hi B : Nat} {v : Value} {X : List (List Int)} (h : OwnSS w lo hi v X) (hg : w.grownBy w' (some B)) (hB : B < lo) : OwnSS w' lo hi v X := h.out (Out.of_only hg) (.inr hB)
theorem Bx.only {w w' : World} {g B : Nat} {t : TypeId} {cs : Array Value} (h : Bx w g t cs) (hg : w.grownBy w' (some B)) (hB : B ≠ g) : Bx w' g t cs := h.out (Out.of_only hg) (by omega)
theorem Cur.drew_ {w : World} {B : Nat} {A : Option Addr} {n c : Nat} (h : Cur w B A n c) : Cur w.drew B A n c := h.keep (Nat.le_refl _) (fun _ _ => rfl)
theorem only_setnew {a w : World} {r : Option Nat} (h : a.grownBy w r) {p : Addr} (hp : a.heap.size ≤ p.block) (u : Value) : a.grownBy (w.setCell p u) r :=
  ⟨h.os, h.tape, h.output, by simpa using h.size, fun i hi hne => (heap_setCell_other w p i u (by omega)).trans (h.block i hi hne)⟩
theorem only_drew {a w : World} {r : Option Nat} (h : a.grownBy w r) : a.grownBy w.drew r := ⟨h.os, h.tape, h.output, h.size, h.block⟩
theorem only_row {a w : World} {r : Option Nat} (h : a.grownBy w r) {g : Nat} (hg : a.heap.size ≤ g) (cs : Array Value) : a.grownBy (w.setRow g cs) r :=
  only_then h ((setRow_out w g cs (Nat.le_refl _) (Nat.lt_succ_self _)).below hg h.size)
set_option maxHeartbeats 8000000 in
theorem draw4_any {w : World} {B : Nat} {A : Option Addr} {n c : Nat} (h : Cur w B A n c) :
    Calls Tryd.prog 53 #[.pointer (some ⟨B, 0, none⟩)] w (DrewG (fun N => 1 ≤ N ∧ N ≤ 6) 9 B A n c w) := by
  have hB := h.lt
  have bx0 := Bx.made w 26 #[Value.int .i64 0, .slice none 0 0]
  have hg0 : w.grownBy (w.alloc (Obj.cells #[Value.int .i64 0, .slice none 0 0] 26)) (some B) := only_alloc (only_refl w _) _
  have cur0 := h.alloc (Obj.cells #[Value.int .i64 0, .slice none 0 0] 26)
  have hs0 : (w.alloc (Obj.cells #[Value.int .i64 0, .slice none 0 0] 26)).heap.size = w.heap.size + 1 := by simp
  go_enter Tryd.func53, Tryd.ntmps53
  go_wp2_with fail
  refine (below_any cur0 6 (by omega)).mono ?_
  rintro e w1 ⟨x, ⟨hx0, hx1⟩, rfl, hg1, cur1⟩
  have hsz1 := hg1.size
  have bx1 := bx0.only hg1 (by omega)
  have hgw1 := only_trans hg0 hg1
  have hW := IntWalk.i64_in (1 + x) (by omega)
  have bx2 := bx1.new ((Below.refl _ _).alloc (Nat.le_refl _) (Obj.cells #[Value.int .i64 (1 + x), .slice none 0 0] 26))
  have bx3 := Bx.made w1 26 #[Value.int .i64 (1 + x), .slice none 0 0]
  have cur2 := cur1.alloc (Obj.cells #[Value.int .i64 (1 + x), .slice none 0 0] 26)
  have hgw2 := only_alloc hgw1 (Obj.cells #[Value.int .i64 (1 + x), .slice none 0 0] 26)
  have hs2 : (w1.alloc (Obj.cells #[Value.int .i64 (1 + x), .slice none 0 0] 26)).heap.size = w1.heap.size + 1 := by simp
  clear bx0 hg0 cur0 bx1 cur1 hg1
  go_wp2_with fail
  refine (below_any cur2 10 (by omega)).mono ?_
  rintro e w3 ⟨y, ⟨hy0, hy1⟩, rfl, hg3, cur3⟩
  obtain ⟨i, rfl⟩ := Int.eq_ofNat_of_zero_le hy0
  have hsz3 := hg3.size
  have b2 := bx2.only hg3 (by omega)
  have b3 := bx3.only hg3 (by omega)
  have hgw3 := only_trans hgw2 hg3
  obtain ⟨g, hg⟩ : ∃ g, g = w1.heap.size := ⟨_, rfl⟩
  obtain ⟨N, hN⟩ : ∃ N, N = 1 + x := ⟨_, rfl⟩
  have hN0 : 1 ≤ N := by omega
  have hN6 : N ≤ 6 := by omega
  rw [hs2] at hsz3
  rw [← hg] at b3 hsz3 hsz1 ⊢
  rw [← hN] at b3 ⊢
  clear bx2 bx3 cur2 hgw2 hs2 hg3 hgw1 hW
  clear hg hN
  go_wp2_with fail
  go_loopw [4] (fun i wr => ∃ (j : Nat) (X : List (List Int)) (v : Value), j ≤ 9 ∧ i = .int .i64 j ∧ Bx wr g 26 #[Value.int .i64 N, v] ∧ Bx wr w.heap.size 26 #[Value.int .i64 0, .slice none 0 0] ∧ OwnSS wr (g + 1) wr.heap.size v X ∧ GOK (9 - j) X ∧ Cur wr B A n c ∧ w.grownBy wr (some B) ∧ g + 1 ≤ wr.heap.size) (fun i _ => (intOf i).toNat)
  case atStart => exact ⟨i, [], _, by omega, rfl, b3, b2, OwnSS.nil, ⟨by simp, by simp⟩, cur3, hgw3, hsz3⟩
  case round =>
    obtain ⟨j, X, v, hj, rfl, bg, br, hov, hok, cur4, hgw, hgz⟩ := hrel
    clear b2 b3 cur3 hgw3 hsz3
    by_cases hj0 : j = 0
    · subst hj0
      have HO := Lib.hid hov
      have hv1 := hov.one
      clear hov
      go_wp2_with (first | (refine ldGR rfl (.tmp 3) rfl bg rfl rfl ?_) | (refine stGR rfl (.tmp 2) (.tmp 28) rfl br rfl hv1 rfl rfl ?_))
      refine bodyPost_ret (resGR rfl (br.setRow _) rfl rfl) rfl ⟨N, X, v, ⟨hN0, hN6⟩, hok, rfl, ?_, ?_, ?_⟩
      · exact (HO.out.out (setRow_out wr _ _ (Nat.le_refl _) (Nat.lt_succ_self _)) (.inr (by omega))).wide (by omega) (by simp [World.setRow])
      · exact only_row hgw (Nat.le_refl _) _
      · exact cur4.below' ((setRow_out wr w.heap.size _ (Nat.le_refl _) (Nat.lt_succ_self _)).below (Nat.le_refl _) hgw.size) hB
    · obtain ⟨j', rfl⟩ : ∃ j', j = j' + 1 := ⟨j - 1, by omega⟩
      obtain ⟨Av, cv, rfl, _, _, _⟩ := hov.rd (n := X.length) rfl
      obtain ⟨D0, D1⟩ := bg.two
      have HO := Lib.hid hov
      have HB := Lib.hid bg
      have HL := Lib.hid (show X.length ≤ 1099511627775 by have := hok.1; omega)
      have hsm := hok.small
      have hp0 : (0 : Int) < ((j' + 1 : Nat) : Int) := by omega
      have hBg : B ≠ g := by omega
      have HOK := Lib.hid hok
      have HC := Lib.hid cur4
      clear hov bg hok cur4
      go_wp2_with fail
      go_region_law (first
        | (go_simp; go_at_call 41; refine (below_any (by exact cur5) N (by omega)).mono ?_; rintro e w6 ⟨q, ⟨q0, q1⟩, rfl, hg6, cur6⟩; have bg6 := bg5.only hg6 hBg; have ho6 := ho5.only hg6 (by omega); have hz6 := hg6.size; obtain ⟨F0, F1⟩ := bg6.two)
        | (go_simp; go_at_call 41; refine (below_any (HC.out.drew_) N (by omega)).mono ?_; rintro e w5 ⟨p, ⟨p0, p1⟩, rfl, hg5, cur5⟩; have bg5 := HB.out.drew_.only hg5 hBg; have ho5 := (HO.out.new ((Below.refl _ _).drew)).only hg5 (by omega); have hz5 : wr.heap.size ≤ w5.heap.size := hg5.size; obtain ⟨E0, E1⟩ := bg5.two)
        | (go_simp; go_at_call 65; refine (specAddAttack_any (X := X) (n := X.length) (Lib.hid rfl) HL.out hsm (by exact ho6.rd'.more (by omega))).mono ?_; rintro e w7 ⟨v7, rfl, hown7, hb7⟩; obtain ⟨A7, c7, rfl, _, _, _⟩ := hown7.rd (n := (addL N X p q).length) rfl; have bg7 := bg6.new hb7; obtain ⟨G0, G1⟩ := bg7.two; have f70 := bg7.free 0; have f71 := bg7.free 1))
      all_goals
        have hz7 := hb7.size
        have hgw7 : w.grownBy w7 (some B) := only_then (only_trans (only_trans (only_drew hgw) hg5) hg6) (hb7.mono (by omega))
        have br7 := ((br.drew_.only hg5 (by omega)).only hg6 (by omega)).new hb7
        have cur7 := cur6.below hb7
        go_wp2
        go_roundw
        case rel =>
          refine ⟨j', addL N X p q, .slice A7 (addL N X p q).length c7, by omega, by go_num, (bg7.set 0 _).set 1 _, (br7.far (by show w.heap.size ≠ g; omega) _).far (by show w.heap.size ≠ g; omega) _, ?_, (HOK.out.add N p q).more (by omega), ?_, only_setnew (only_setnew hgw7 (by show w.heap.size ≤ g; omega) _) (by show w.heap.size ≤ g; omega) _, by simp; omega⟩
          · exact ((hown7.setFar (.inl (by show g < _; omega)) _).setFar (.inl (by show g < _; omega)) _).wide (by omega) (by simp)
          · exact cur7.below' (((Below.refl g w7).setCell (Nat.le_refl _) _).setCell (Nat.le_refl _) _) (by omega)
        case measure => simp [intOf] <;> omega
end Go.Proofs.YtjhknafajfpldaaDoor
