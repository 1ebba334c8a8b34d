/- The draws of chapter 25: two ratings and who won; a list of ratings with a list of results. No conditions but that the code is small. -/
import Derived.Test.YtdpaoaoipnoiiaaMg3
import Derived.Test.YtdpaoaoipnoiiaaAppSS
import Derived.Test.YtdpaoaoipnoiiaaDrawG
import Derived.Test.YtdpaoaoipnoiiaaFrjI
import Derived.Test.YtdpaoaoipnoiiaaCopyL
namespace Go.Proofs.Ytdpaoaoipnoiiaa
open Go.ChangeShapes Go.WideShapes Go.ChangeAt Go.RowKit
set_option maxRecDepth 100000
def InRt (z : Int) : Prop := -1 ≤ z ∧ z ≤ 3001
set_option maxHeartbeats 2000000 in
theorem l25_any {w : World} {B : Nat} {A : Option Addr} {n c : Nat} (h : Cur w B A n c) :
    Calls Try.prog 76 #[.pointer (some ⟨B, 0, none⟩)] w (Drawn InRt B A n c w) := by
  go_enter Try.func76, Try.ntmps76
  go_wp2_with fail
  go_at_call 53
  refine (below_any h 300 (by omega)).mono ?_
  rintro e w1 ⟨x, ⟨x0, x1⟩, rfl, hg1, cur1⟩
  have e1 := IntWalk.i64_in (1400 + x) (by omega)
  go_wp2_with fail
  go_at_call 53
  refine (below_any cur1 1000 (by omega)).mono ?_
  rintro e w2 ⟨y, ⟨y0, y1⟩, rfl, hg2, cur2⟩
  have e2 := IntWalk.i64_in (1000 + y) (by omega)
  have hir := introw_alloc InRt w2 [1500, 1400 + x, 1000 + y, 0, 5, 2998, 3000, 3001, -1] 3 (by
    intro z hz
    simp only [List.mem_cons, List.not_mem_nil, or_false] at hz
    unfold InRt
    omega)
  have b3 : Below w2.heap.size w2 (w2.alloc (.cells ([1500, 1400 + x, 1000 + y, 0, 5, 2998, 3000, 3001, -1].map (Value.int .i64)).toArray 3)) := (Below.refl _ _).alloc (Nat.le_refl _) _
  have cur3 := cur2.below b3
  have hlt := cur2.lt
  go_wp2_with fail
  go_at_call 59
  refine (int_any InRt cur3 w2.heap.size 9 (by omega) (by omega) (by omega) hir).mono ?_
  rintro e w4 ⟨z, hz, rfl, hg4, cur4⟩
  go_wp2_with fail
  go_ret
  exact ⟨z, hz, rfl, only_trans (only_trans (only_trans hg1 hg2) (only_new b3 _)) hg4, cur4⟩
def DrewEx (w : World) (e : Ending) (w' : World) : Prop := ∃ (a b : Int) (won : Bool), InRt a ∧ InRt b ∧ e = .returned (.tuple #[.int .i64 a, .int .i64 b, .bool won]) ∧ Below w.heap.size w w'
theorem drawEx_any {w : World} {A : Option Addr} {n c : Nat} (h : Code8 w A n) : Calls Try.prog 49 #[.slice A n c] w (DrewEx w) := by
  go_enter Try.func49, Try.ntmps49
  go_wp2_with fail
  go_at_call 52
  refine (new_any h).mono ?_
  rintro e w1 ⟨rfl, hb1, cur1⟩
  go_wp2_with fail
  go_at_call 76
  refine (l25_any cur1).mono ?_
  rintro e w2 ⟨a, ha, rfl, hg2, cur2⟩
  go_wp2_with fail
  go_at_call 76
  refine (l25_any cur2).mono ?_
  rintro e w3 ⟨b, hb, rfl, hg3, cur3⟩
  go_wp2_with fail
  go_at_call 54
  refine (once_any cur3 2 (by omega)).mono ?_
  rintro e w4 ⟨won, rfl, hg4, cur4⟩
  go_wp2_with fail
  go_ret3
  exact ⟨a, b, won, ha, hb, rfl, cur_below hb1 (only_trans (only_trans hg2 hg3) hg4) (Nat.le_refl _)⟩
theorem drawAfter_any {w : World} {A : Option Addr} {n c : Nat} (h : Code8 w A n) : Calls Try.prog 16 #[.slice A n c] w (DrewEx w) := by
  go_enter Try.func16, Try.ntmps16
  go_wp2_with fail
  refine (drawEx_any h).mono ?_
  rintro e w2 ⟨a, b, won, ha, hb, rfl, hb2⟩
  go_wp2_with fail
  go_ret3
  exact ⟨a, b, won, ha, hb, rfl, hb2⟩
def DrewRa (w : World) (e : Ending) (w' : World) : Prop := ∃ (v u : Value) (Z : List Int) (R : List (List Int)) (mid : Nat), e = .returned (.tuple #[v, u]) ∧ w.heap.size ≤ mid ∧ mid ≤ w'.heap.size ∧ Row w' w.heap.size mid 3 v (ivs Z) ∧ Z.length ≤ 5 ∧ (∀ z ∈ Z, 0 ≤ z ∧ z ≤ 3000) ∧ OwnSS w' mid w'.heap.size u R ∧ R.length ≤ 8 ∧ (∀ x ∈ R, x.length ≤ 2) ∧ Below w.heap.size w w'
set_option maxHeartbeats 8000000 in
theorem drawRa_any {w : World} {A : Option Addr} {n c : Nat} (h : Code8 w A n) : Calls Try.prog 19 #[.slice A n c] w (DrewRa w) := by
  obtain ⟨i0, hi, hz0, hz1, hz2⟩ := info_parts IntS_info
  go_enter Try.func19, Try.ntmps19
  go_wp2_with fail
  go_at_call 52
  refine (new_any h).mono ?_
  rintro e w1 ⟨rfl, hb1, cur1⟩
  obtain ⟨B, hB⟩ : ∃ B, B = w.heap.size := ⟨_, rfl⟩
  rw [← hB] at cur1 ⊢
  have HB0 := Lib.hid hB
  have hs1 := hb1.size
  have hlt1 := cur1.lt
  have HROW0 := Lib.hid (Row.made (w := w1) w1.heap.size #[] 0 3 (Nat.le_refl _) rfl (Nat.zero_le _))
  have b2 : Below w1.heap.size w1 (w1.alloc (Obj.cells #[] 3)) := (Below.refl _ _).alloc (Nat.le_refl _) _
  have cur2 := cur1.below b2
  have G2 := Lib.hid (only_new b2 (some B))
  obtain ⟨L, hL⟩ : ∃ L, L = w1.heap.size := ⟨_, rfl⟩
  have HL := Lib.hid hL
  clear hB b2
  go_wp2_with fail
  go_at_call 53
  refine (below_any cur2 5 (by omega)).mono ?_
  rintro e w3 ⟨p, ⟨p0, p1⟩, rfl, hg3, cur3⟩
  have HROW3 := Lib.hid ((HROW0.out.out (Out.of_only hg3) (.inr (by omega))).wide (Nat.le_refl _) (hi' := w3.heap.size) (by have := hg3.size; simpa using this))
  have G3 := Lib.hid (only_trans G2.out hg3)
  have ep := IntWalk.i64_in (1 + p) (by omega)
  clear HROW0 G2 hg3 cur2 cur1
  go_wp2_with fail
  go_loopw [5, 6] (fun v i wr => ∃ (k : Int) (Z : List Int), 0 ≤ k ∧ k ≤ 5 ∧ i = .int .i64 k ∧ (Z.length : Int) + k ≤ 5 ∧ Hid (∀ z ∈ Z, 0 ≤ z ∧ z ≤ 3000) ∧ Hid (Row wr w1.heap.size wr.heap.size 3 v (ivs Z)) ∧ Hid (w1.grownBy wr (some B)) ∧ Cur wr B A n c) (fun _ i _ => (intOf i).toNat)
  case atStart => exact ⟨1 + p, [], by omega, by omega, rfl, by simp; omega, Lib.hid (by simp), HROW3, G3, cur3⟩
  case round =>
    obtain ⟨k, Z, hk0, hk5, rfl, hzl, hzr, hrow, hg, hcur⟩ := hrel
    clear HROW3 G3 cur3
    by_cases hkp : 0 < k
    · have ww1 := IntWalk.i64_in (k - 1) (by omega)
      go_wp2_with fail
      go_at_call 53
      refine (below_any hcur 1000 (by omega)).mono ?_
      rintro e w4 ⟨x, ⟨x0, x1⟩, rfl, hg4, cur4⟩
      have ex := IntWalk.i64_in (1000 + x) (by omega)
      have row4 := (hrow.out.out (Out.of_only hg4) (.inr (by omega))).wide (Nat.le_refl _) hg4.size
      have b5 : Below w4.heap.size w4 (w4.alloc (Obj.cells #[.int .i64 (1000 + x)] 3)) := (Below.refl _ _).alloc (Nat.le_refl _) _
      have HROW5 := Lib.hid (row4.new b5)
      have HMADE := Lib.hid (show Rd _ _ _ (ivs [1000 + x]) from Rd.made w4 #[.int .i64 (1000 + x)] 3)
      have hs4 : w1.heap.size ≤ w4.heap.size := Nat.le_trans hg.out.size hg4.size
      have G5 := Lib.hid (only_then (only_trans hg.out hg4) (b5.mono hs4))
      have HCUR5 := Lib.hid (cur4.below b5)
      clear hrow hcur row4 b5 hg4 cur4
      go_wp2_with (at_builtin; (refine wpList_app rfl (.tmp 19) (.tmp 23) 29 rfl 3 i0 _ 8 Try.underlying29 hi hz0 hz1 hz2 rfl rfl rfl HROW5.out rfl HMADE.out int_one (by rw [ivs_len]; unfold maxLen; omega) (by rw [ivs_len]; omega) (by simp; omega) ?_; intro v9 w9 hrow9 ho9))
      have hb9 : Below w1.heap.size (w4.alloc (Obj.cells #[.int .i64 (1000 + x)] 3)) w9 := ho9.below (Nat.le_refl _) (by simp; omega)
      go_roundw
      case rel => exact ⟨k - 1, Z ++ [1000 + x], by omega, by omega, by go_num, by simp; omega, Lib.hid (fun z hz => by rcases List.mem_append.1 hz with h1 | h1; exact hzr.out z h1; rw [List.mem_singleton.1 h1]; omega), Lib.hid (by rw [ivs_sn]; exact hrow9), Lib.hid (only_then G5.out hb9), HCUR5.out.below' hb9 hlt1⟩
      case measure => simp [intOf]; omega
    · have hk : k = 0 := by omega
      subst hk
      obtain ⟨wm, hwm⟩ : ∃ wm, wm = wr := ⟨_, rfl⟩
      subst hwm
      obtain ⟨Av, cv, rfl, _, _, _⟩ := hrow.out.rd (n := Z.length) (ivs_len _)
      have b6 : Below wm.heap.size wm (wm.alloc (Obj.cells #[] 29)) := (Below.refl _ _).alloc (Nat.le_refl _) _
      have HOWN0 := Lib.hid (OwnSS.made0 wm)
      have HROW6 := Lib.hid (hrow.out.new b6)
      have hsm := hg.out.size
      have G6 := Lib.hid (only_then hg.out (b6.mono hsm))
      have cur6 := hcur.below b6
      have hzl5 : Z.length ≤ 5 := by omega
      clear hrow hcur b6
      go_wp2_with fail
      go_at_call 53
      refine (below_any cur6 8 (by omega)).mono ?_
      rintro e w7 ⟨q, ⟨q0, q1⟩, rfl, hg7, cur7⟩
      have HROW7 := Lib.hid (HROW6.out.out (Out.of_only hg7) (.inr (by omega)))
      have HOWN7 := Lib.hid ((HOWN0.out.out (Out.of_only hg7) (.inr (by omega))).wide (Nat.le_refl _) (hi' := w7.heap.size) (by have := hg7.size; simpa using this))
      have G7 := Lib.hid (only_trans G6.out hg7)
      have hs7 : wm.heap.size + 1 ≤ w7.heap.size := by have := hg7.size; simpa using this
      clear HROW6 HOWN0 hg7 cur6 G6
      have hsw : w.heap.size ≤ wm.heap.size := by omega
      have hM1 : wm.heap.size + 1 ≤ w7.heap.size := hs7
      have hM2 : B < wm.heap.size := by omega
      go_wp2_with fail
      go_loopw [7, 8] (fun u i wr => ∃ (k : Int) (R : List (List Int)), 0 ≤ k ∧ k ≤ 7 ∧ i = .int .i64 k ∧ (R.length : Int) + k ≤ 7 ∧ Hid (∀ x ∈ R, x.length ≤ 2) ∧ Hid (Row wr w1.heap.size wm.heap.size 3 (.slice Av Z.length cv) (ivs Z)) ∧ Hid (OwnSS wr wm.heap.size wr.heap.size u R) ∧ wm.heap.size + 1 ≤ wr.heap.size ∧ Hid (w1.grownBy wr (some B)) ∧ Cur wr B A n c) (fun _ i _ => (intOf i).toNat)
      case atStart => exact ⟨q, [], by omega, by omega, rfl, by simp; omega, Lib.hid (by simp), HROW7, HOWN7, hM1, G7, cur7⟩
      case round =>
        obtain ⟨k, R, hk0, hk7, rfl, hrl, hrr, hrow, hown, hmz, hg2, hcur⟩ := hrel
        clear HROW7 HOWN7 G7 cur7 hM1
        by_cases hkp : 0 < k
        · have ww1 := IntWalk.i64_in (k - 1) (by omega)
          go_wp2_with fail
          go_at_call 53
          refine (below_any hcur 6 (by omega)).mono ?_
          rintro e w8 ⟨x, ⟨x0, x1⟩, rfl, hg8, cur8⟩
          go_wp2_with fail
          go_at_call 53
          refine (below_any cur8 6 (by omega)).mono ?_
          rintro e w9 ⟨y, ⟨y0, y1⟩, rfl, hg9, cur9⟩
          have G9 := only_trans hg8 hg9
          have row9 := hrow.out.out (Out.of_only G9) (.inr (by omega))
          have own9 := (hown.out.out (Out.of_only G9) (.inr (by omega))).wide (Nat.le_refl _) G9.size
          have s9 := G9.size
          have rowA := Row.made (w := w9) w9.heap.size #[Value.int .i64 x, .int .i64 y] 2 3 (Nat.le_refl _) rfl (by unfold maxLen; omega)
          have bA : Below w9.heap.size w9 (w9.alloc (Obj.cells #[Value.int .i64 x, .int .i64 y] 3)) := (Below.refl _ _).alloc (Nat.le_refl _) _
          obtain ⟨wA, hA⟩ : ∃ wA, w9.alloc (Obj.cells #[Value.int .i64 x, .int .i64 y] 3) = wA := ⟨_, rfl⟩
          have zA : wA.heap.size = w9.heap.size + 1 := by rw [← hA]; simp
          rw [hA] at rowA bA
          have bB : Below wA.heap.size wA (wA.alloc (Obj.cells #[.slice (some ⟨w9.heap.size, 0, none⟩) 2 2] 29)) := (Below.refl _ _).alloc (Nat.le_refl _) _
          have HMADE := Lib.hid (show Rd _ _ (some ⟨wA.heap.size, 0, none⟩) [.slice (some ⟨w9.heap.size, 0, none⟩) 2 2] from Rd.made wA #[.slice (some ⟨w9.heap.size, 0, none⟩) 2 2] 29)
          have b2 := trans_new bA bB
          have HOWN9 := Lib.hid (own9.new b2)
          have HROWA := Lib.hid (show Row _ w9.heap.size (w9.heap.size + 1) 3 _ (ivs [x, y]) from rowA.new bB)
          have HROW9 := Lib.hid (row9.new b2)
          have HG9 := Lib.hid (only_then (only_trans hg2.out G9) (b2.mono (Nat.le_trans hg2.out.size s9)))
          have HCUR9 := Lib.hid (cur9.below b2)
          obtain ⟨W9, hW9⟩ : ∃ W9, wA.alloc (Obj.cells #[.slice (some ⟨w9.heap.size, 0, none⟩) 2 2] 29) = W9 := ⟨_, rfl⟩
          have z9 : W9.heap.size = w9.heap.size + 2 := by rw [← hW9]; simp; omega
          rw [hW9] at HMADE HOWN9 HROWA HROW9 HG9 HCUR9
          rw [zA] at HMADE
          have HWW := Lib.hid (show (w9.alloc (Obj.cells #[Value.int .i64 x, .int .i64 y] 3)).alloc (Obj.cells #[.slice (some ⟨w9.heap.size, 0, none⟩) 2 2] 29) = W9 by rw [hA, hW9])
          have HZ9 := Lib.hid z9
          clear hrow hown hcur hg8 hg9 cur8 cur9 G9 row9 own9 rowA bA hA zA bB b2 hW9 z9
          go_wp2_with (rw [HWW.out]; at_builtin; (refine wpList_appSS (X := R) (x := [x, y]) (u := .slice (some ⟨w9.heap.size, 0, none⟩) 2 2) (L := wm.heap.size) (M := w9.heap.size) (lo := w9.heap.size) (hi := w9.heap.size + 1) (c := 1) (ad := ⟨w9.heap.size + 1, 0, none⟩) rfl (.tmp 32) (.tmp 38) rfl rfl rfl HOWN9.out HROWA.out HMADE.out (Nat.le_refl _) (by omega) (by omega) (by rw [HZ9.out]; omega) ?_; intro v10 w10 hown10 hb10))
          have hs10 := hb10.size
          have hz9 := HZ9.out
          go_roundw
          case rel => exact ⟨k - 1, R ++ [[x, y]], by omega, by omega, by go_num, by simp; omega, Lib.hid (fun z hz => by rcases List.mem_append.1 hz with h1 | h1; exact hrr.out z h1; rw [List.mem_singleton.1 h1]; simp), Lib.hid (HROW9.out.below hb10 (Nat.le_refl _)), Lib.hid hown10, by omega, Lib.hid (only_then HG9.out (hb10.mono (by omega))), HCUR9.out.below' hb10 hM2⟩
          case measure => simp [intOf]; omega
        · have hk : k = 0 := by omega
          subst hk
          clear hk0 hk7 hkp
          go_wp2_with fail
          go_at_call 54
          refine (once_any hcur 6 (by omega)).mono ?_
          rintro e w8 ⟨bb, rfl, hg8, cur8⟩
          have row8 := hrow.out.out (Out.of_only hg8) (.inr (by omega))
          have own8 := (hown.out.out (Out.of_only hg8) (.inr (by omega))).wide (Nat.le_refl _) hg8.size
          have g8 := only_trans hg2.out hg8
          have s8 := hg8.size
          have hrl7 : R.length ≤ 7 := by omega
          cases bb with
          | false =>
            have HR8 := Lib.hid row8
            have HO8 := Lib.hid own8
            have HB8 := Lib.hid (cur_below hb1 g8 (by rw [HB0.out]; exact Nat.le_refl _))
            clear row8 own8 g8 hrow hown
            go_wp2_with fail
            go_ret2
            exact ⟨_, _, Z, R, wm.heap.size, rfl, hsw, by omega, HR8.out.wide hs1 (Nat.le_refl _), hzl5, hzr.out, HO8.out, by omega, hrr.out, HB8.out⟩
          | true =>
            have rowA := Row.made (w := w8) w8.heap.size #[Value.int .i64 1] 1 3 (Nat.le_refl _) rfl (by unfold maxLen; omega)
            have bA : Below w8.heap.size w8 (w8.alloc (Obj.cells #[Value.int .i64 1] 3)) := (Below.refl _ _).alloc (Nat.le_refl _) _
            obtain ⟨wA, hA⟩ : ∃ wA, w8.alloc (Obj.cells #[Value.int .i64 1] 3) = wA := ⟨_, rfl⟩
            have zA : wA.heap.size = w8.heap.size + 1 := by rw [← hA]; simp
            rw [hA] at rowA bA
            have bB : Below wA.heap.size wA (wA.alloc (Obj.cells #[.slice (some ⟨w8.heap.size, 0, none⟩) 1 1] 29)) := (Below.refl _ _).alloc (Nat.le_refl _) _
            have HMADE := Lib.hid (show Rd _ _ (some ⟨wA.heap.size, 0, none⟩) [.slice (some ⟨w8.heap.size, 0, none⟩) 1 1] from Rd.made wA #[.slice (some ⟨w8.heap.size, 0, none⟩) 1 1] 29)
            have b2 := trans_new bA bB
            have HOWN9 := Lib.hid (own8.new b2)
            have HROWA := Lib.hid (show Row _ w8.heap.size (w8.heap.size + 1) 3 _ (ivs [1]) from rowA.new bB)
            have HROW9 := Lib.hid (row8.new b2)
            have HG9 := Lib.hid (only_then g8 (b2.mono g8.size))
            obtain ⟨W9, hW9⟩ : ∃ W9, wA.alloc (Obj.cells #[.slice (some ⟨w8.heap.size, 0, none⟩) 1 1] 29) = W9 := ⟨_, rfl⟩
            have z9 : W9.heap.size = w8.heap.size + 2 := by rw [← hW9]; simp; omega
            rw [hW9] at HMADE HOWN9 HROWA HROW9 HG9
            rw [zA] at HMADE
            have HWW := Lib.hid (show (w8.alloc (Obj.cells #[Value.int .i64 1] 3)).alloc (Obj.cells #[.slice (some ⟨w8.heap.size, 0, none⟩) 1 1] 29) = W9 by rw [hA, hW9])
            have HZ9 := Lib.hid z9
            clear hrow hown hg8 row8 own8 rowA bA hA zA bB b2 hW9 z9 g8
            go_wp2_with (rw [HWW.out]; at_builtin; (refine wpList_appSS (X := R) (x := [1]) (u := .slice (some ⟨w8.heap.size, 0, none⟩) 1 1) (L := wm.heap.size) (M := w8.heap.size) (lo := w8.heap.size) (hi := w8.heap.size + 1) (c := 1) (ad := ⟨w8.heap.size + 1, 0, none⟩) rfl (.tmp 42) (.tmp 44) rfl rfl rfl HOWN9.out HROWA.out HMADE.out (Nat.le_refl _) (by omega) (by omega) (by rw [HZ9.out]; omega) ?_; intro v10 w10 hown10 hb10))
            go_ret2
            have hs10 := hb10.size
            have hz9 := HZ9.out
            exact ⟨_, _, Z, R ++ [[1]], wm.heap.size, rfl, hsw, by omega, (HROW9.out.below hb10 (Nat.le_refl _)).wide hs1 (Nat.le_refl _), hzl5, hzr.out, hown10, by simp; omega, fun z hz => by rcases List.mem_append.1 hz with h1 | h1; exact hrr.out z h1; rw [List.mem_singleton.1 h1]; simp, cur_below hb1 (only_then HG9.out (hb10.mono (by omega))) (by rw [HB0.out]; exact Nat.le_refl _)⟩
end Go.Proofs.Ytdpaoaoipnoiiaa
