/- The draws of chapter 11: l11List, DrawFollows, DrawIsAlways, DrawAreAlike. -/
import Derived.Test.YtignchefkihdaaaDoorSetF
import Derived.Test.YtignchefkihdaaaDoorNotM
import Derived.Test.YtignchefkihdaaaDoorCopyL
namespace Go.Proofs.YtignchefkihdaaaDoor
open Go.ChangeShapes Go.WideShapes Go.ChangeAt Go.RowKit
set_option maxRecDepth 100000
theorem FS_infoF : (Tryd.prog.info? 25).map (fun i => (i.zero, i.size, i.bytes)) = some (some (.slice none 0 0), 1, 24) := by kernel_rfl
theorem rdSS_nwF {w w' : World} {A : Option Addr} {X : List (List Int)} (h : RdSS w w.heap.size A X) (r : Below w.heap.size w w') : RdSS w' w'.heap.size A X := (h.below r).more r.size
theorem rd_nwF {w w' : World} {A : Option Addr} {xs : List Value} (h : Rd w w.heap.size A xs) (r : Below w.heap.size w w') : Rd w' w'.heap.size A xs := (h.below r).more r.size
theorem trans_nwF {a b c : World} (h : Below a.heap.size a b) (r : Below b.heap.size b c) : Below a.heap.size a c := h.trans (r.mono h.size)
/-- A list of lists by its parts. -/
theorem SetF.parts {w : World} {lo hi : Nat} {v : Value} {X : List (List Int)} {cs : List Value} (hr : Row w lo hi 25 v cs) (hl : cs.length = X.length) (h : ∀ (k : Nat) (x : List Int), X[k]? = some x → ∃ u, cs[k]? = some u ∧ RdF w lo hi u x) : SetF w lo hi v X := by
  obtain ⟨A, c, rfl, _, hc, hm⟩ := hr.rd (n := X.length) hl
  refine ⟨A, c, rfl, hc, hm, fun w' hs => fun k x hx => ?_⟩
  obtain ⟨u, hu, Aj, cj, rfl, hcj, hmj, hrj⟩ := h k x hx
  obtain ⟨ad, e1, e2, e3⟩ := (hr.keep hs).rd' k _ hu
  exact ⟨ad, Aj, cj, e1, e2, e3, hcj, hmj, hrj w' hs⟩
theorem RdF.wide {w : World} {lo hi lo' hi' : Nat} {v : Value} {zs : List Int} (h : RdF w lo hi v zs) (h1 : lo' ≤ lo) (h2 : hi ≤ hi') : RdF w lo' hi' v zs := by
  obtain ⟨A, c, rfl, hc, hm, hk⟩ := h
  exact ⟨A, c, rfl, hc, hm, fun w' hw => (hk w' fun b h3 h4 h5 => hw b (by omega) (by omega) h5).more h2⟩
/-- A slice is stored at the first place of a list of the call's own. -/
theorem SetF.put {w : World} {lo hi hi2 g c : Nat} {u : Value} {X : List (List Int)} {x : List Int} {n : Nat} (h : OwnSS w lo hi (.slice (some ⟨g, 0, none⟩) n c) X) (hu : RdF w hi hi2 u x) (hhi : hi ≤ hi2) (h0 : 0 < X.length) : SetF (w.setCell ⟨g, 0, none⟩ u) lo hi2 (.slice (some ⟨g, 0, none⟩) n c) (X.set 0 x) := by
  obtain ⟨cs, hcs, hcl⟩ := h.outer
  obtain ⟨g', cap, u0, e, _, hg1, hg2, hgs, _⟩ := h.rowAt h0
  injection e with e1 _ _
  injection e1 with e1
  injection e1 with e1
  subst e1
  refine SetF.parts ((hcs.setO (i := 0) (v := u)).wide (Nat.le_refl _) hhi) (by rw [List.length_set, List.length_set, hcl]) fun k y hy => ?_
  by_cases hk0 : k = 0
  · subst hk0
    rw [List.getElem?_set_self h0] at hy
    injection hy with hy
    subst hy
    refine ⟨u, List.getElem?_set_self (by omega), ?_⟩
    obtain ⟨A, c', rfl, hc, hm, hk⟩ := hu
    exact ⟨A, c', rfl, hc, hm, fun w' hw => hk w' fun b h3 h4 h5 => (hw b (by omega) h4 (by simpa [World.setCell] using h5)).trans (Below.heap_setCell _ _ _ _ (by show b ≠ g; omega))⟩
  · rw [List.getElem?_set_ne (by omega)] at hy
    obtain ⟨hk, rfl⟩ := List.getElem?_eq_some_iff.1 hy
    obtain ⟨g2, cap2, uk, e2, hcell, h1, h2, h3, hrow⟩ := h.rowAt hk
    injection e2 with e2 _ _
    injection e2 with e2
    injection e2 with e2
    subst e2
    have hkc : k < cs.length := by omega
    have hck : cs[k]? = some uk := by
      obtain ⟨ad, e1, _, e3⟩ := hcs.rd' k cs[k] (List.getElem?_eq_getElem hkc)
      injection e1 with e1
      subst e1
      rw [Addr.add_lit, Nat.zero_add, hcell] at e3
      rw [List.getElem?_eq_getElem hkc, ← e3]
    refine ⟨uk, by rw [List.getElem?_set_ne (by omega)]; exact hck, (RdF.of_row (hrow.keep1 fun y hy' hy2 => Below.heap_setCell _ _ _ _ (fun ev => ?_))).wide (Nat.le_refl _) hhi⟩
    have ev : y = g := ev
    subst ev
    obtain ⟨c1, q1⟩ := own_type hcs.1 (b := y) rfl
    obtain ⟨c2, q2⟩ := own_type hrow.1 hy'
    rw [q1] at q2
    simp at q2
/-- A short list of short lists. -/
def ShF (m : Nat) (X : List (List Int)) : Prop := X.length ≤ m ∧ ∀ x ∈ X, x.length ≤ 15
theorem ShF.snoc {m : Nat} {X : List (List Int)} {f : List Int} (h : ShF m X) (hf : f.length ≤ 15) : ShF (m + 1) (X ++ [f]) := ⟨by rw [List.length_append]; have := h.1; simp; omega, fun x hx => by
  rcases List.mem_append.1 hx with hx | hx
  · exact h.2 x hx
  · rw [List.mem_singleton.1 hx]; exact hf⟩
def DrawnQ (B : Nat) (A : Option Addr) (n c : Nat) (w : World) (e : Ending) (w' : World) : Prop :=
  ∃ v X, e = .returned v ∧ SetF w' w.heap.size w'.heap.size v X ∧ ShF 3 X ∧ w.grownBy w' (some B) ∧ Cur w' B A n c
set_option maxHeartbeats 8000000 in
theorem l11List_any {w : World} {B n c : Nat} {A : Option Addr} (h : Cur w B A n c) : Calls Tryd.prog 18 #[.pointer (some ⟨B, 0, none⟩)] w (DrawnQ B A n c w) := by
  have hBw := h.lt
  have hb0 : Below w.heap.size w (w.alloc (Obj.cells #[] 25)) := (Below.refl _ _).alloc (Nat.le_refl _) _
  have hrow0 := OwnSS.made0 w
  have cur0 := h.alloc (Obj.cells #[] 25)
  have g0 := only_new hb0 (some B)
  obtain ⟨W0, hW0⟩ : ∃ u : World, w.alloc (Obj.cells #[] 25) = u := ⟨_, rfl⟩
  rw [hW0] at hrow0 cur0 g0
  have HW0 := Lib.hid hW0
  clear hW0 hb0
  go_enter Tryd.func18, Tryd.ntmps18
  go_wp2_with fail
  rw [HW0.out]
  refine (below_any cur0 4 (by omega)).mono ?_
  rintro e w1 ⟨p, ⟨p0, p1⟩, rfl, hg1, cur1⟩
  obtain ⟨m, rfl⟩ := Int.eq_ofNat_of_zero_le p0
  have row1 := (hrow0.onlyF hg1 hBw).wide (Nat.le_refl _) hg1.size
  have g1 := only_trans g0 hg1
  clear hrow0 cur0 g0 hg1 HW0
  go_wp2_with fail
  go_loopw [3, 4] (fun s i wr => ∃ (k q : Nat) (X : List (List Int)), q + k ≤ 3 ∧ i = .int .i64 k ∧ OwnSS wr w.heap.size wr.heap.size s X ∧ ShF q X ∧ w.grownBy wr (some B) ∧ Cur wr B A n c) (fun _ i _ => (intOf i).toNat)
  case atStart => exact ⟨m, 0, [], by omega, rfl, row1, ⟨Nat.le_refl _, by simp⟩, g1, cur1⟩
  case round =>
    obtain ⟨k, q, X, hk, rfl, hrow, hX, hg, hcur⟩ := hrel
    clear row1 g1 cur1 p0 p1
    have HX := Lib.hid hX
    have hxl := hX.1
    clear hX
    by_cases hk0 : (0 : Int) < (k : Int)
    · have hk1 : 0 < k := by omega
      have ww4 := IntWalk.i64_in ((k : Int) - 1) (by omega)
      go_wp2_with fail
      refine (draw10_any 2 (by omega) (by decide) hcur).mono ?_
      rintro e w2 ⟨f, u, _, hf, rfl, hrf, hg2, cur2⟩
      have hf7 : f.length ≤ 7 := hf
      have row2 := hrow.onlyF hg2 hBw
      have g2 := only_trans hg hg2
      have hz2 := g2.size
      have hsz2 := hg2.size
      obtain ⟨Af, cf, rfl, _, _, _⟩ := hrf.rd (n := f.length) (ivs_len f)
      have q4 : Below w2.heap.size w2 (w2.alloc (Obj.cells #[.slice Af f.length cf] 25)) := (Below.refl _ _).alloc (Nat.le_refl _) _
      have HO := Lib.hid (row2.new q4)
      have HRF := Lib.hid (hrf.new q4)
      have hmade := Rd.made w2 #[.slice Af f.length cf] 25
      have HZ := Lib.hid hz2
      have HL := Lib.hid (show X.length + 1 ≤ 1099511627777 by omega)
      have hwr := hg.size
      clear hrow hcur hg hg2 row2 hrf hf
      go_wp2_with (at_builtin; refine wpList_appSS rfl (.tmp 12) (.tmp 15) rfl rfl rfl HO.out HRF.out hmade (Nat.le_refl _) (by omega) HL.out (by have := HZ.out; simp; omega) ?_; intro v9 w9 hown9 hb9)
      have k9 : Below w.heap.size w2 w9 := (q4.mono HZ.out).trans hb9
      go_roundw
      case rel => exact ⟨k - 1, q + 1, X ++ [f], by omega, by congr 1; omega, hown9, HX.out.snoc (by omega), only_then g2 k9, cur2.below' k9 hBw⟩
      case measure => simp [intOf]; omega
    · by_cases h0 : (0 : Int) < (X.length : Int)
      · have h0' : 0 < X.length := by omega
        obtain ⟨g, cap, _, rfl, _, hg1, hg2, hgs, _⟩ := hrow.rowAt h0'
        go_wp2_with fail
        refine (once_any hcur 9 (by omega)).mono ?_
        rintro e w2 ⟨b, rfl, hg3, cur2⟩
        have row2 := (hrow.onlyF hg3 hBw).wide (Nat.le_refl _) hg3.size
        have g2 := only_trans hg hg3
        clear hrow hg hg3 hcur
        cases b with
        | false =>
          go_wp2_with fail
          go_ret
          exact ⟨_, X, rfl, SetF.of_own row2, ⟨by omega, HX.out.2⟩, g2, cur2⟩
        | true =>
          go_wp2_with fail
          refine (any10_any cur2).mono ?_
          rintro e w3 ⟨f, u, hf, rfl, hrf, hg3, cur3⟩
          have row3 := row2.onlyF hg3 hBw
          have g3 := only_trans g2 hg3
          have hsz3 := hg3.size
          have hgs2 := g2.size
          obtain ⟨g', cap', u0, e, hcell, _, hg22, hgs3, _⟩ := row3.rowAt h0'
          injection e with e1 _ e3
          injection e1 with e1
          injection e1 with e1
          subst e1 e3
          obtain ⟨cs, hcs, _⟩ := row3.outer
          have hfr := hcs.frozO (i := 0)
          have HS := Lib.hid (SetF.put row3 hrf hsz3 h0')
          obtain ⟨Au, cu, eu, _, _, _⟩ := hrf
          subst eu
          clear row2 row3 cur2 g2 hcs
          go_wp2_with fail
          go_ret
          have b5 : Below w.heap.size w3 (w3.setCell ⟨g, 0, none⟩ (.slice Au f.length cu)) := (Below.refl _ _).setCell (p := ⟨g, 0, none⟩) hg1 _
          refine ⟨_, X.set 0 f, rfl, ?_, ⟨by rw [List.length_set]; omega, fun x hx => ?_⟩, only_then g3 b5, cur3.below' b5 hBw⟩
          · have := HS.out
            simpa [World.setCell] using this
          · rcases List.mem_or_eq_of_mem_set hx with h2 | h2
            · exact HX.out.2 x h2
            · rw [h2]; exact hf
      · have h0' : X.length = 0 := by omega
        obtain ⟨A3, c3, rfl, _, _, _⟩ := hrow.rd (n := X.length) rfl
        go_wp2_with fail
        go_ret
        exact ⟨_, X, by first | rfl | rw [h0'], SetF.of_own (by first | exact hrow | (have := hrow; rw [h0'] at this; exact this)), ⟨by omega, HX.out.2⟩, hg, hcur⟩
end Go.Proofs.YtignchefkihdaaaDoor
