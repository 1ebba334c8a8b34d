/- The draws of chapter 15: l15Sides gives two short rows of small ints in memory of their own; DrawTurnOrder. -/
import Derived.Test.YtignchefkihdaaaDuo
import Derived.Test.YtignchefkihdaaaOrdC
import Derived.Test.YtignchefkihdaaaTurM
namespace Go.Proofs.Ytignchefkihdaaa
open Go.ChangeShapes Go.WideShapes Go.ChangeAt Go.RowKit
set_option maxRecDepth 100000
/-- A short list of small ints. -/
def Sml (m : Nat) (X : List Int) : Prop := X.length ≤ m ∧ ∀ z ∈ X, 0 ≤ z ∧ z ≤ 100
theorem Sml.inI {m : Nat} {X : List Int} (h : Sml m X) : ∀ z ∈ X, InI z := fun z hz => by
  have := h.2 z hz
  have e1 : IntKind.i64.min = -9223372036854775808 := by decide
  have e2 : IntKind.i64.max = 9223372036854775807 := by decide
  exact ⟨by omega, by omega⟩
theorem Sml.snoc {m : Nat} {X : List Int} {x : Int} (h : Sml m X) (h0 : 0 ≤ x) (h1 : x ≤ 100) : Sml (m + 1) (X ++ [x]) :=
  ⟨by rw [List.length_append]; have := h.1; simp; omega, fun z hz => by
    rcases List.mem_append.1 hz with h2 | h2
    · exact h.2 z h2
    · rw [List.mem_singleton.1 h2]; exact ⟨h0, h1⟩⟩
theorem Sml.set {m : Nat} {X : List Int} {x : Int} (h : Sml m X) (k : Nat) (h0 : 0 ≤ x) (h1 : x ≤ 100) : Sml m (X.set k x) :=
  ⟨by rw [List.length_set]; exact h.1, fun z hz => by
    rcases List.mem_or_eq_of_mem_set hz with h2 | h2
    · exact h.2 z h2
    · rw [h2]; exact ⟨h0, h1⟩⟩
theorem ivs_snO (L : List Int) (x : Int) : ivs L ++ [.int .i64 x] = ivs (L ++ [x]) := by simp [ivs]
/-- Two short rows were drawn. -/
def DrewTwo (B : Nat) (A : Option Addr) (n c : Nat) (w : World) (e : Ending) (w' : World) : Prop :=
  ∃ (X Y : List Int) (a b : Value), Sml 6 X ∧ Sml 6 Y ∧ e = .returned (.tuple #[a, b]) ∧ Duo w' w.heap.size a b X Y ∧ w.grownBy w' (some B) ∧ Cur w' B A n c
set_option maxHeartbeats 8000000 in
theorem sides_any {w : World} {B n c : Nat} {A : Option Addr} (h : Cur w B A n c) : Calls Try.prog 109 #[.pointer (some ⟨B, 0, none⟩)] w (DrewTwo B A n c w) := by
  obtain ⟨i0, hi, hz0, hz1, hz2⟩ := info_parts IntS_info
  have hBw := h.lt
  have ra := Row.made (w := w) w.heap.size #[] 0 3 (Nat.le_refl _) rfl (Nat.zero_le _)
  have b1 : Below w.heap.size w (w.alloc (Obj.cells #[] 3)) := (Below.refl _ _).alloc (Nat.le_refl _) _
  obtain ⟨W1, hW1⟩ : ∃ u : World, w.alloc (Obj.cells #[] 3) = u := ⟨_, rfl⟩
  have hs1 : W1.heap.size = w.heap.size + 1 := by rw [← hW1]; simp
  rw [hW1] at ra b1
  have rb := Row.made (w := W1) w.heap.size #[] 0 3 (by omega) rfl (Nat.zero_le _)
  have b2 : Below W1.heap.size W1 (W1.alloc (Obj.cells #[] 3)) := (Below.refl _ _).alloc (Nat.le_refl _) _
  obtain ⟨W2, hW2⟩ : ∃ u : World, W1.alloc (Obj.cells #[] 3) = u := ⟨_, rfl⟩
  have hs2 : W2.heap.size = w.heap.size + 2 := by rw [← hW2]; simp [hs1]
  rw [hW2] at rb b2
  rw [hs1] at rb
  have k2 := b1.trans (b2.mono b1.size)
  have duo0 : Duo W2 w.heap.size (.slice (some ⟨w.heap.size, 0, none⟩) 0 0) (.slice (some ⟨w.heap.size + 1, 0, none⟩) 0 0) [] [] := ⟨(ra.new b2).wide (Nat.le_refl _) (by omega), rb.wide (Nat.le_refl _) (by omega), fun g e1 e2 => by simp [Value.ownBlock] at e1 e2; omega⟩
  have cur2 := h.below k2
  have g2 := only_new k2 (some B)
  have HW : Hid ((w.alloc (Obj.cells #[] 3)).alloc (Obj.cells #[] 3) = W2) := Lib.hid (by rw [hW1, hW2])
  clear hW1 hW2 ra rb b1 b2 hs1 h
  go_enter Try.func109, Try.ntmps109
  go_wp2_with fail
  rw [HW.out]
  go_loopw [4, 5, 6] (fun a b i wr => ∃ (k : Nat) (X Y : List Int), k ≤ 4 ∧ i = .int .i64 ((k : Int) + 1) ∧ X.length = k ∧ Y.length = k ∧ Sml k X ∧ Sml k Y ∧ Duo wr w.heap.size a b X Y ∧ w.grownBy wr (some B) ∧ Cur wr B A n c) (fun _ _ i _ => 6 - (intOf i).toNat)
  case atStart => exact ⟨0, [], [], by omega, rfl, rfl, rfl, ⟨by simp, by simp⟩, ⟨by simp, by simp⟩, duo0, g2, cur2⟩
  case round =>
    obtain ⟨k, X, Y, hk, rfl, hXl, hYl, hX, hY, hd, hg, hcur⟩ := hrel
    have HX := Lib.hid hX
    have HY := Lib.hid hY
    have HD := Lib.hid hd
    clear duo0 g2 cur2 k2 hX hY hd
    go_wp2_with fail
    refine (below_any hcur 4 (by omega)).mono ?_
    rintro e w3 ⟨x, ⟨x0, x1⟩, rfl, hg3, cur3⟩
    have d3 := HD.out.only hg3 (by omega)
    have gg3 := only_trans hg hg3
    have sz3 := gg3.size
    have ww1 := IntWalk.i64_in (1 + x) (by omega)
    have ww2 := IntWalk.i64_in ((k : Int) + 1 + 1) (by omega)
    have ww3 := IntWalk.i64_in (10 + ((k : Int) + 1)) (by omega)
    clear hcur hg hg3 HD
    by_cases hlt : (k : Int) + 1 ≤ 1 + x
    · have hra := d3.ra
      have hra' := hra.new ((Below.refl _ _).alloc (Nat.le_refl _) (Obj.cells #[Value.int .i64 ((k : Int) + 1)] 3))
      have hmade := Rd.made w3 #[Value.int .i64 ((k : Int) + 1)] 3
      have L := Lib.hid (show (ivs X).length + 1 ≤ maxLen ∧ ((ivs X).length + 1) * 8 ≤ 140737488355328 by rw [ivs_len]; unfold maxLen; omega)
      have d3' := d3.new ((Below.refl _ _).alloc (Nat.le_refl _) (Obj.cells #[Value.int .i64 ((k : Int) + 1)] 3))
      have b3' : Below w.heap.size w3 (w3.alloc (Obj.cells #[Value.int .i64 ((k : Int) + 1)] 3)) := (Below.refl _ _).alloc sz3 _
      have L2 := Lib.hid (show (ivs Y).length + 1 ≤ maxLen ∧ ((ivs Y).length + 1) * 8 ≤ 140737488355328 by rw [ivs_len]; unfold maxLen; omega)
      go_wp2_with (first
        | (at_builtin; refine wpList_appD rfl (.tmp 16) (.tmp 18) 25 rfl 3 i0 _ 8 Try.underlying25 hi hz0 hz1 hz2 rfl rfl rfl hra' rfl hmade (by simp [Value.oneCell']) L.out.1 L.out.2 (by simp; omega) ?_; intro v1 w4 hrow4 hs4 hb4 hk4 ho4; have d4 := d3'.app (X' := X ++ [(k : Int) + 1]) (by rw [← ivs_snO]; exact hrow4) hs4 hk4 ho4; have b4 := b3'.trans hb4; have z4 := b4.size; have d4' := d4.new ((Below.refl _ _).alloc (Nat.le_refl _) (Obj.cells #[Value.int .i64 (10 + ((k : Int) + 1))] 3)); have b4' := b4.alloc (Nat.le_trans sz3 z4) (Obj.cells #[Value.int .i64 (10 + ((k : Int) + 1))] 3); have hrb := d4'.rb; have hmade2 := Rd.made w4 #[Value.int .i64 (10 + ((k : Int) + 1))] 3; clear d3 d3' hra hra' hrow4 hk4 ho4 hmade d4 hb4 b3')
        | (at_builtin; refine wpList_appD rfl (.tmp 20) (.tmp 23) 25 rfl 3 i0 _ 8 Try.underlying25 hi hz0 hz1 hz2 rfl rfl rfl hrb rfl hmade2 (by simp [Value.oneCell']) L2.out.1 L2.out.2 (by simp; omega) ?_; intro v2 w5 hrow5 hs5 hb5 hk5 ho5; have d5 := (d4'.symm.app (X' := Y ++ [10 + ((k : Int) + 1)]) (by rw [← ivs_snO]; exact hrow5) hs5 hk5 ho5).symm; have b5 := b4'.trans hb5))
      go_roundw
      case rel => exact ⟨k + 1, X ++ [(k : Int) + 1], Y ++ [10 + ((k : Int) + 1)], by omega, by go_num, by rw [List.length_append, hXl]; rfl, by rw [List.length_append, hYl]; rfl, HX.out.snoc (by omega) (by omega), HY.out.snoc (by omega) (by omega), d5, only_then gg3 b5, cur3.below' b5 hBw⟩
      case measure => simp [intOf] <;> omega
    · have hk1 : 1 ≤ k := by omega
      clear ww3 ww2 x0 x1
      go_wp2_with fail
      refine (below_any cur3 8 (by omega)).mono ?_
      rintro e w4 ⟨y, ⟨y0, y1⟩, rfl, hg4, cur4⟩
      have d4 := d3.only hg4 (by omega)
      have gg4 := only_trans gg3 hg4
      have sz4 := gg4.size
      clear d3 cur3 gg3 hg4
      by_cases e0 : y = 0
      · subst e0
        have hra := d4.ra
        have hra' := hra.new ((Below.refl _ _).alloc (Nat.le_refl _) (Obj.cells #[Value.int .i64 9] 3))
        have hmade := Rd.made w4 #[Value.int .i64 9] 3
        have L := Lib.hid (show (ivs X).length + 1 ≤ maxLen ∧ ((ivs X).length + 1) * 8 ≤ 140737488355328 by rw [ivs_len]; unfold maxLen; omega)
        have d4' := d4.new ((Below.refl _ _).alloc (Nat.le_refl _) (Obj.cells #[Value.int .i64 9] 3))
        have b4' : Below w.heap.size w4 (w4.alloc (Obj.cells #[Value.int .i64 9] 3)) := (Below.refl _ _).alloc sz4 _
        go_wp2_with (at_builtin; refine wpList_appD rfl (.tmp 29) (.tmp 30) 25 rfl 3 i0 _ 8 Try.underlying25 hi hz0 hz1 hz2 rfl rfl rfl hra' rfl hmade (by simp [Value.oneCell']) L.out.1 L.out.2 (by simp; omega) ?_; intro v1 w5 hrow5 hs5 hb5 hk5 ho5; have d5 := d4'.app (X' := X ++ [9]) (by rw [← ivs_snO]; exact hrow5) hs5 hk5 ho5; have b5 := b4'.trans hb5)
        refine bodyPost_ret (v := .tuple #[v1, u5]) (by simp [results, Try.results109, go_sem]) rfl ?_
        have hX' := HX.out.snoc (x := 9) (by omega) (by omega)
        exact ⟨X ++ [9], Y, _, _, ⟨by have := hX'.1; omega, hX'.2⟩, ⟨by have := HY.out.1; omega, HY.out.2⟩, rfl, d5, only_then gg4 b5, cur4.below' b5 hBw⟩
      · have f0 : (y == 0) = false := by simpa using e0
        by_cases e1 : y = 1
        · subst e1
          have hXp : 0 < X.length := by omega
          obtain ⟨ga, ca, rfl, _, _, _, _, _⟩ := d4.ra.pos (n := X.length) (ivs_len X) hXp
          obtain ⟨gb, cb, rfl, gb0, _, _, _, _⟩ := d4.rb.pos (n := Y.length) (ivs_len Y) (by omega)
          have hxv := d4.ra.cellO hXp
          have hfr := d4.rb.frozO (i := 0)
          have hyv := d4.rb.cellO (k := 0) (by omega)
          obtain ⟨y9, hy9⟩ : ∃ y9, Y[0]'(by omega) = y9 := ⟨_, rfl⟩
          rw [hy9] at hyv
          have hne : ga ≠ gb := fun e => d4.ne ga rfl (by rw [e]; rfl)
          have i0a : (0 : Int) < (X.length : Int) := by omega
          have i0b : (0 : Int) < (Y.length : Int) := by omega
          have hXp' : 0 < Y.length := by omega
          have hXk : X.length ≤ k ∧ Y.length ≤ k := by omega
          have hp := HX.out.2 (X[0]'hXp) (List.getElem_mem _)
          obtain ⟨x9, hx9⟩ : ∃ x9, X[0]'hXp = x9 := ⟨_, rfl⟩
          rw [hx9] at hxv hp
          have HD := Lib.hid d4
          clear hx9 hy9 d4 hXl hYl
          go_wp2_with fail
          refine bodyPost_ret (v := .tuple #[.slice (some ⟨ga, 0, none⟩) X.length ca, .slice (some ⟨gb, 0, none⟩) Y.length cb]) (by simp [results, Try.results109, go_sem]) rfl ?_
          have d5 : Duo (w4.setCell ⟨gb, 0, none⟩ (.int .i64 x9)) w.heap.size (.slice (some ⟨ga, 0, none⟩) X.length ca) (.slice (some ⟨gb, 0, none⟩) Y.length cb) X (Y.set 0 x9) :=
            ⟨HD.out.ra.keep1 (fun g e _ => by
                have : ga = g := by simpa [Value.ownBlock] using e
                exact Below.heap_setCell _ _ _ _ (by show g ≠ gb; omega)) |>.wide (Nat.le_refl _) (by simp [World.setCell]), by rw [← ivs_setO]; exact (HD.out.rb.setO).wide (Nat.le_refl _) (by simp [World.setCell]), HD.out.ne⟩
          have b5 : Below w.heap.size w4 (w4.setCell ⟨gb, 0, none⟩ (.int .i64 x9)) := (Below.refl _ _).setCell (p := ⟨gb, 0, none⟩) gb0 _
          have hX' := HX.out
          exact ⟨X, Y.set 0 x9, _, _, ⟨by have := hX'.1; omega, hX'.2⟩, ⟨by have := (HY.out.set 0 hp.1 hp.2).1; omega, (HY.out.set 0 hp.1 hp.2).2⟩, rfl, d5, only_then gg4 b5, cur4.below' b5 hBw⟩
        · have f1 : (y == 1) = false := by simpa using e1
          go_wp2_with fail
          refine bodyPost_ret (v := .tuple #[u4, u5]) (by simp [results, Try.results109, go_sem]) rfl ?_
          exact ⟨X, Y, _, _, ⟨by have := HX.out.1; omega, HX.out.2⟩, ⟨by have := HY.out.1; omega, HY.out.2⟩, rfl, d4, gg4, cur4⟩
end Go.Proofs.Ytignchefkihdaaa
