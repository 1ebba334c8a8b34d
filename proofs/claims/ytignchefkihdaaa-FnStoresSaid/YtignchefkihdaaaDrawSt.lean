/- The draws of chapter 12: l12Draw, l12Any, DrawSay, DrawTakeBack. -/
import Derived.Test.YtignchefkihdaaaSetF
import Derived.Test.YtignchefkihdaaaSayM
namespace Go.Proofs.Ytignchefkihdaaa
open Go.ChangeShapes Go.WideShapes Go.ChangeAt Go.RowKit
set_option maxRecDepth 100000
/-- A short list of short lists. -/
def Shr (m : Nat) (X : List (List Int)) : Prop := X.length ≤ m ∧ ∀ x ∈ X, x.length ≤ 15
theorem Shr.snoc {m : Nat} {X : List (List Int)} {f : List Int} (h : Shr m X) (hf : f.length ≤ 15) : Shr (m + 1) (X ++ [f]) := ⟨by rw [List.length_append]; have := h.1; simp; omega, fun x hx => by
  rcases List.mem_append.1 hx with hx | hx
  · exact h.2 x hx
  · rw [List.mem_singleton.1 hx]; exact hf⟩
theorem Shr.say {m : Nat} {X : List (List Int)} {f : List Int} (h : Shr m X) (hf : f.length ≤ 15) : Shr (m + 1) (sayX X f) := by
  unfold sayX
  split
  · exact h.snoc hf
  · exact ⟨by have := h.1; omega, h.2⟩
theorem Shr.big {m : Nat} {X : List (List Int)} (h : Shr m X) : ∀ x ∈ X, x.length ≤ 1099511627776 := fun x hx => by have := h.2 x hx; omega
def DrawnL (B : Nat) (A : Option Addr) (n c : Nat) (w : World) (e : Ending) (w' : World) : Prop :=
  ∃ v X, e = .returned v ∧ OwnSS w' w.heap.size w'.heap.size v X ∧ Shr 4 X ∧ w.grownBy w' (some B) ∧ Cur w' B A n c
set_option maxHeartbeats 8000000 in
theorem l12Draw_any {w : World} {B n c : Nat} {A : Option Addr} (h : Cur w B A n c) : Calls Try.prog 122 #[.pointer (some ⟨B, 0, none⟩)] w (DrawnL B A n c w) := by
  have hBw := h.lt
  have hb0 : Below w.heap.size w (w.alloc (Obj.cells #[] 25)) := (Below.refl _ _).alloc (Nat.le_refl _) _
  have hrow0 := OwnSS.made0 w
  have cur0 := h.alloc (Obj.cells #[] 25)
  have g0 := only_new hb0 (some B)
  obtain ⟨W0, hW0⟩ : ∃ u : World, w.alloc (Obj.cells #[] 25) = u := ⟨_, rfl⟩
  rw [hW0] at hrow0 cur0 g0
  have HW0 := Lib.hid hW0
  clear hW0 hb0
  go_enter Try.func122, Try.ntmps122
  go_wp2_with fail
  rw [HW0.out]
  refine (below_any cur0 5 (by omega)).mono ?_
  rintro e w1 ⟨p, ⟨p0, p1⟩, rfl, hg1, cur1⟩
  obtain ⟨m, rfl⟩ := Int.eq_ofNat_of_zero_le p0
  have row1 := (hrow0.onlyF hg1 hBw).wide (Nat.le_refl _) hg1.size
  have g1 := only_trans g0 hg1
  clear hrow0 cur0 g0 hg1 HW0
  go_wp2_with fail
  go_loopw [3, 4] (fun s i wr => ∃ (k q : Nat) (X : List (List Int)), q + k ≤ 4 ∧ i = .int .i64 k ∧ OwnSS wr w.heap.size wr.heap.size s X ∧ Shr q X ∧ w.grownBy wr (some B) ∧ Cur wr B A n c) (fun _ i _ => (intOf i).toNat)
  case atStart => exact ⟨m, 0, [], by omega, rfl, row1, ⟨Nat.le_refl _, by simp⟩, g1, cur1⟩
  case round =>
    obtain ⟨k, q, X, hk, rfl, hrow, hX, hg, hcur⟩ := hrel
    clear row1 g1 cur1 p0 p1
    have HX := Lib.hid hX
    have hxl := hX.1
    clear hX
    by_cases hk0 : (0 : Int) < (k : Int)
    · have hk1 : 0 < k := by omega
      have ww4 := IntWalk.i64_in ((k : Int) - 1) (by omega)
      go_wp2_with fail
      refine (draw10_any 2 (by omega) (by decide) hcur).mono ?_
      rintro e w2 ⟨f, u, _, hf, rfl, hrf, hg2, cur2⟩
      have hf7 : f.length ≤ 7 := hf
      have row2 := (hrow.onlyF hg2 hBw).wide (Nat.le_refl _) hg2.size
      have g2 := only_trans hg hg2
      have hz2 := g2.size
      obtain ⟨Af, cf, rfl, rf, _, _⟩ := hrf.rd (n := f.length) (ivs_len f)
      obtain ⟨A3, c3, rfl, rd3, q3, _⟩ := row2.rd (n := X.length) rfl
      clear hrow hcur hg hg2 row2 hrf hf
      go_wp2_with fail
      refine (specSay_any (X := X) (f := f) (Lib.hid rfl) (by omega) (Lib.hid HX.out.big) rd3 (Lib.hid rfl) (by omega) rf).mono ?_
      rintro e w3 ⟨v3, rfl, row3, r⟩
      have hY := HX.out.say (f := f) (by omega)
      obtain ⟨Y, hYe⟩ : ∃ Y, sayX X f = Y := ⟨_, rfl⟩
      obtain ⟨b, hb⟩ : ∃ b, storeB (X ++ [f]) = b := ⟨_, rfl⟩
      rw [hYe] at row3 hY
      rw [hb]
      have row3 := row3.wide hz2 (Nat.le_refl _)
      have g3 := only_then g2 (r.mono hz2)
      have cur3 := cur2.below r
      clear hYe hb cur2 g2 r rd3 rf
      go_wp2_with fail
      go_roundw
      case rel => exact ⟨k - 1, q + 1, Y, by omega, by congr 1; omega, row3, hY, g3, cur3⟩
      case measure => simp [intOf]; omega
    · go_wp2_with fail
      go_ret
      exact ⟨_, X, rfl, hrow, ⟨by omega, HX.out.2⟩, hg, hcur⟩
def DrawnM (B : Nat) (A : Option Addr) (n c : Nat) (w : World) (e : Ending) (w' : World) : Prop :=
  ∃ v X, e = .returned v ∧ SetF w' w.heap.size w'.heap.size v X ∧ Shr 5 X ∧ w.grownBy w' (some B) ∧ Cur w' B A n c
theorem SetF.wide {w : World} {lo hi lo' hi' : Nat} {v : Value} {X : List (List Int)} (h : SetF w lo hi v X) (h1 : lo' ≤ lo) (h2 : hi ≤ hi') : SetF w lo' hi' v X := by
  obtain ⟨A, c, rfl, hc, hm, hk⟩ := h
  exact ⟨A, c, rfl, hc, hm, fun w'' h3 => (hk w'' fun b h4 h5 h6 => h3 b (by omega) (by omega) h6).more h2⟩
set_option maxHeartbeats 8000000 in
theorem l12Any_any {w : World} {B n c : Nat} {A : Option Addr} (h : Cur w B A n c) : Calls Try.prog 69 #[.pointer (some ⟨B, 0, none⟩)] w (DrawnM B A n c w) := by
  have hBw := h.lt
  obtain ⟨i0, hi, hz0, hz1, hz2⟩ := info_parts FS_info
  go_enter Try.func69, Try.ntmps69
  go_wp2_with fail
  refine (l12Draw_any h).mono ?_
  rintro e w1 ⟨v, X, rfl, hrow, hX, g1, cur1⟩
  clear h
  go_wp2_with fail
  refine (once_any cur1 9 (by omega)).mono ?_
  rintro e w2 ⟨b, rfl, hg2, cur2⟩
  have row2 := (hrow.onlyF hg2 hBw).wide (Nat.le_refl _) hg2.size
  have g2 := only_trans g1 hg2
  have hz2' := g2.size
  clear hrow cur1 g1 hg2
  cases b with
  | false =>
    go_wp2_with fail
    go_ret
    exact ⟨_, X, rfl, SetF.of_own row2, ⟨by have := hX.1; omega, hX.2⟩, g2, cur2⟩
  | true =>
    go_wp2_with fail
    refine (any10_any cur2).mono ?_
    rintro e w3 ⟨f, u, hf, rfl, hrf, hg3, cur3⟩
    have hsz3 := hg3.size
    have row3 := hX
    have own3 := row2.onlyF hg3 hBw
    have g3 := only_trans g2 hg3
    have hz3 := g3.size
    obtain ⟨cs, hcs, hcl⟩ := own3.outer
    have q4 : Below w3.heap.size w3 (w3.alloc (Obj.cells #[u] 25)) := (Below.refl _ _).alloc (Nat.le_refl _) _
    have HRF := Lib.hid (hrf.new q4)
    have HOWN := Lib.hid (own3.new q4)
    have hrow4 := hcs.new q4
    have HX := Lib.hid hX
    have hxl := hX.1
    have hmade := Rd.made w3 #[u] 25
    have h1c : ∀ z ∈ [u], z.oneCell' = true := by
      obtain ⟨Aj, cj, rfl, _⟩ := hrf
      simp [Value.oneCell']
    have L := Lib.hid (show cs.length + 1 ≤ maxLen ∧ (cs.length + 1) * 24 ≤ 140737488355328 by rw [hcl]; unfold maxLen; omega)
    have HZ3 := Lib.hid hz3
    obtain ⟨Au, cu, eu, _, _, _⟩ := hrf
    subst eu
    clear hX row3 hcs row2 cur2 own3
    go_wp2_with (at_builtin; refine wpList_appD rfl (.tmp 8) (.tmp 11) 24 rfl 25 i0 _ 24 Try.underlying24 hi hz0 hz1 hz2 rfl rfl rfl hrow4 rfl hmade h1c L.out.1 L.out.2 (by have := HZ3.out; simp; omega) ?_; intro v4 w4 hrow5 hs4 hb4 hk4 _)
    go_ret
    exact ⟨v4, X ++ [f], rfl, SetF.app HOWN.out hrow4 hcl HRF.out hz2' (by simp) hsz3 hrow5 hs4 hk4, HX.out.snoc hf, only_then g3 ((q4.mono HZ3.out).trans hb4), cur3.below' ((q4.mono HZ3.out).trans hb4) hBw⟩
end Go.Proofs.Ytignchefkihdaaa
