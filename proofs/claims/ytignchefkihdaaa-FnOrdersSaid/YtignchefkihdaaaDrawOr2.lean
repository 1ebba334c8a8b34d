/- The draws of chapter 15: DrawTurnOrder, DrawIsFairOrder, DrawNextAfter. -/
import Derived.Test.YtignchefkihdaaaDrawOr
namespace Go.Proofs.Ytignchefkihdaaa
open Go.ChangeShapes Go.WideShapes Go.ChangeAt Go.RowKit
set_option maxRecDepth 100000
theorem Duo.lo {w : World} {lo lo' : Nat} {a b : Value} {X Y : List Int} (h : Duo w lo a b X Y) (hl : lo' ≤ lo) : Duo w lo' a b X Y := ⟨h.ra.wide hl (Nat.le_refl _), h.rb.wide hl (Nat.le_refl _), h.ne⟩
/-- Two short rows were drawn; nothing old has turned. -/
def DrewAB (w : World) (e : Ending) (w' : World) : Prop :=
  ∃ (X Y : List Int) (a b : Value), Sml 6 X ∧ Sml 6 Y ∧ e = .returned (.tuple #[a, b]) ∧ Duo w' w.heap.size a b X Y ∧ Below w.heap.size w w'
theorem drawTurn {w : World} {A : Option Addr} {n c : Nat} (h : Code8 w A n) : Calls Try.prog 45 #[.slice A n c] w (DrewAB w) := by
  go_enter Try.func45, Try.ntmps45
  go_wp2_with fail
  refine (new_any h).mono ?_
  rintro e w2 ⟨rfl, hb2, cur2⟩
  have hl := cur2.lt
  go_wp2_with fail
  refine (sides_any cur2).mono ?_
  rintro e w3 ⟨X, Y, a, b, hX, hY, rfl, hd, hg, cur3⟩
  go_wp2_with fail
  refine bodyPost_ret (v := .tuple #[a, b]) (by simp [results, Try.results45, go_sem]) rfl ?_
  exact ⟨X, Y, a, b, hX, hY, rfl, hd.lo hb2.size, cur_below hb2 hg (Nat.le_refl _)⟩
/-- An order and one more value were drawn. -/
def DrewO (w : World) (e : Ending) (w' : World) : Prop :=
  ∃ (O : List Int) (v u : Value), O.length ≤ 12 ∧ e = .returned (.tuple #[v, u]) ∧ Row w' w.heap.size w'.heap.size 3 v (ivs O) ∧ Below w.heap.size w w'
set_option maxHeartbeats 4000000 in
theorem drawFair {w : World} {A : Option Addr} {n c : Nat} (h : Code8 w A n) : Calls Try.prog 117 #[.slice A n c] w (DrewO w) := by
  go_enter Try.func117, Try.ntmps117
  go_wp2_with fail
  refine (new_any h).mono ?_
  rintro e w2 ⟨rfl, hb2, cur2⟩
  have hl := cur2.lt
  clear h
  go_wp2_with fail
  refine (sides_any cur2).mono ?_
  rintro e w3 ⟨X, Y, a, b, hX, hY, rfl, hd, hg, cur3⟩
  have b3 := cur_below hb2 hg (Nat.le_refl _)
  obtain ⟨Aa, ca, rfl, ra, _, _⟩ := hd.ra.rd (n := X.length) (ivs_len X)
  obtain ⟨Ab, cb, rfl, rb, _, _⟩ := hd.rb.rd (n := Y.length) (ivs_len Y)
  have HX := Lib.hid hX
  have HY := Lib.hid hY
  have hXl := hX.1
  have hYl := hY.1
  have hs3 := hg.size
  clear hX hY hg hb2 cur2 hd
  go_wp2_with fail
  refine (specTurnOrder_any (Lib.hid rfl) (by omega) (Lib.hid rfl) (by omega) ra rb).mono ?_
  rintro e w4 ⟨v, rfl, hrow, r⟩
  have hol := turX_len X Y
  obtain ⟨O, hO⟩ : ∃ O, turX X Y = O := ⟨_, rfl⟩
  rw [hO] at hrow hol
  have cur4 := cur3.below r
  have b4 := b3.trans (r.mono b3.size)
  have hrow4 := hrow.wide (show w.heap.size + 1 ≤ w3.heap.size by omega) (Nat.le_refl _)
  have hs4 := r.size
  clear hO r cur3 hrow b3 ra rb
  obtain ⟨Ao, co, rfl, ro, _, _⟩ := hrow4.rd (n := O.length) (ivs_len O)
  by_cases hn : (1 : Int) < (O.length : Int)
  · go_wp2_with fail
    refine (once_any cur4 3 (by omega)).mono ?_
    rintro e w5 ⟨b, rfl, hg5, cur5⟩
    have row5 := (hrow4.out (Out.of_only hg5) (.inr (by omega))).wide (Nat.le_refl _) hg5.size
    have b5 := cur_below b4 hg5 (Nat.le_refl _)
    have hs5 := hg5.size
    clear hrow4 cur4 hg5 b4 ro
    cases b with
    | false =>
      go_wp2_with fail
      refine bodyPost_ret (v := .tuple #[.slice Ao O.length co, .slice Aa X.length ca]) (by simp [results, Try.results117, go_sem]) rfl ?_
      exact ⟨O, _, _, hol, rfl, row5.wide (by omega) (Nat.le_refl _), b5⟩
    | true =>
      go_wp2_with fail
      refine (below_any cur5 O.length (by omega)).mono ?_
      rintro e w6 ⟨k', ⟨k0, k1⟩, rfl, hg6, cur6⟩
      obtain ⟨k, rfl⟩ := Int.eq_ofNat_of_zero_le k0
      have row6 := (row5.out (Out.of_only hg6) (.inr (by omega))).wide (Nat.le_refl _) hg6.size
      have b6 := cur_below b5 hg6 (Nat.le_refl _)
      have hs6 := hg6.size
      clear row5 cur5 hg6 b5
      have hk : k < O.length := by omega
      obtain ⟨g, co', eg, gg0, _, _, _, _⟩ := row6.pos (n := O.length) (ivs_len O) (by omega)
      injection eg with e1 _ e3
      subst e1 e3
      have c0 := row6.cellO (k := 0) (by omega)
      have ck := row6.cellO hk
      have f0 := row6.frozO (i := 0)
      have fk := row6.frozO (i := k)
      obtain ⟨x0, hx0⟩ : ∃ x, O[0]'(by omega) = x := ⟨_, rfl⟩
      obtain ⟨xk, hxk⟩ : ∃ x, O[k]'hk = x := ⟨_, rfl⟩
      rw [hx0] at c0
      rw [hxk] at ck
      have i0 : (0 : Int) < (O.length : Int) := by omega
      have row7 : Row (w6.setCell ⟨g, 0, none⟩ (.int .i64 xk)) (w.heap.size + 1) (w6.setCell ⟨g, 0, none⟩ (.int .i64 xk)).heap.size 3 (.slice (some ⟨g, 0, none⟩) O.length co) (ivs (O.set 0 xk)) := by
        rw [← ivs_setO]; exact row6.setO.wide (Nat.le_refl _) (by simp [World.setCell])
      have b7 := b6.setCell (p := ⟨g, 0, none⟩) (show w.heap.size ≤ g by omega) (.int .i64 xk)
      have c7 := row7.cellO (k := k) (by rw [List.length_set]; omega)
      obtain ⟨y, hy⟩ : ∃ y, (O.set 0 xk)[k]'(by rw [List.length_set]; omega) = y := ⟨_, rfl⟩
      rw [hy] at c7
      have f7 := row7.frozO (i := k)
      have HR7 := Lib.hid row7
      have HB7 := Lib.hid b7
      clear hx0 hxk hy row6 row7 b6 b7 cur6
      go_wp2_with fail
      refine bodyPost_ret (v := .tuple #[.slice (some ⟨g, 0, none⟩) O.length co, .slice Aa X.length ca]) (by simp [results, Try.results117, go_sem]) rfl ?_
      refine ⟨(O.set 0 xk).set k x0, _, _, by rw [List.length_set, List.length_set]; exact hol, rfl, ?_, HB7.out.setCell (p := ⟨g, k, none⟩) (show w.heap.size ≤ g by omega) (.int .i64 x0)⟩
      rw [← ivs_setO]
      exact (HR7.out.setO).wide (by omega) (by simp [World.setCell])
  · go_wp2_with fail
    refine bodyPost_ret (v := .tuple #[.slice Ao O.length co, .slice Aa X.length ca]) (by simp [results, Try.results117, go_sem]) rfl ?_
    exact ⟨O, _, _, hol, rfl, hrow4.wide (by omega) (Nat.le_refl _), b4⟩
/-- An order and an int were drawn. -/
def DrewOI (w : World) (e : Ending) (w' : World) : Prop :=
  ∃ (O : List Int) (v : Value) (d : Int), O.length ≤ 12 ∧ e = .returned (.tuple #[v, .int .i64 d]) ∧ Row w' w.heap.size w'.heap.size 3 v (ivs O) ∧ Below w.heap.size w w'
theorem drawNext {w : World} {A : Option Addr} {n c : Nat} (h : Code8 w A n) : Calls Try.prog 52 #[.slice A n c] w (DrewOI w) := by
  go_enter Try.func52, Try.ntmps52
  go_wp2_with fail
  refine (drawFair h).mono ?_
  rintro e w2 ⟨O, v, u, hO, rfl, hrow, b2⟩
  have h2 := h.below b2
  clear h
  go_wp2_with fail
  refine (new_any h2).mono ?_
  rintro e w3 ⟨rfl, hb3, cur3⟩
  go_wp2_with fail
  refine (below_any cur3 16 (by omega)).mono ?_
  rintro e w4 ⟨d, _, rfl, hg4, cur4⟩
  have hob : Below w2.heap.size w2 w4 := cur_below hb3 hg4 (Nat.le_refl _)
  go_wp2_with fail
  refine bodyPost_ret (v := .tuple #[v, .int .i64 d]) (by simp [results, Try.results52, go_sem]) rfl ?_
  exact ⟨O, v, d, hO, rfl, (hrow.new hob).wide (Nat.le_refl _) hob.size, b2.trans (hob.mono b2.size)⟩
end Go.Proofs.Ytignchefkihdaaa
