/- Contracts of the draws of chapters 5 and 6: IsGraph, IsSet, IsStable, Grounded; of the law's within. Condition: the code's bytes lie in old memory. -/
import Derived.Test.YtpopcjamildhkaaDrawG5
import Derived.Test.YtpopcjamildhkaaMg1
namespace Go.Proofs.Ytpopcjamildhkaa
open Go.ChangeShapes Go.WideShapes Go.ChangeAt Go.RowKit
set_option maxRecDepth 100000
theorem within_any {w : World} {A A' : Option Addr} {n c n' c' : Nat} {S T : List Int} (hl : Hid (S.length = n)) (hn : n ≤ 1099511627776) (hl' : Hid (T.length = n')) (hn' : n' ≤ 1099511627776) (hr : Rd w w.heap.size A (ivs S)) (hr' : Rd w w.heap.size A' (ivs T)) :
    Calls Try.prog 33 #[.slice A n c, .slice A' n' c'] w (fun e w' => e = .returned (.bool (S.all fun z => T.contains z)) ∧ w = w') := by
  go_enter Try.func33, Try.ntmps33
  go_wp2_with fail
  go_loopw [5] (fun i wr => ∃ k : Nat, k ≤ n ∧ i = .int .i64 k ∧ wr = w ∧ Hid ((S.take k).all (fun z => T.contains z) = true)) (fun i _ => n - (intOf i).toNat)
  case atStart => exact ⟨0, Nat.zero_le _, rfl, rfl, Lib.hid rfl⟩
  case round =>
    obtain ⟨k, hk, rfl, rfl, hno⟩ := hrel
    by_cases hlt : k < n
    · have hkz : k < S.length := by rw [hl.out]; exact hlt
      obtain ⟨ad, rfl, hab, hc⟩ := ivs_at hr hkz
      have i0 : (0 : Int) ≤ (k : Int) := by omega
      have HT := Lib.hid (show (S.take (k + 1)).all (fun z => T.contains z) = T.contains S[k] by
        rw [List.take_succ_eq_append_getElem hkz, List.all_append, hno.out]; simp)
      have HM := Lib.hid (List.getElem_mem hkz)
      obtain ⟨z, hz⟩ : ∃ z, z = S[k] := ⟨_, rfl⟩
      rw [← hz] at hc HT HM
      clear hz
      by_cases h1 : T.contains z = true
      · have H1 := Lib.hid h1
        have HN := Lib.hid (HT.out.trans h1)
        clear h1
        go_wp2_with fail
        refine (contains_any hl' hn' hr').mono ?_
        rintro e w5 ⟨rfl, rfl⟩
        rw [H1.out]
        go_wp2_with fail
        go_roundw
        case rel => exact ⟨k + 1, by omega, by go_num, trivial, HN⟩
        case measure => simp [intOf]; omega
      · have h1' : T.contains z = false := by simpa using h1
        have H1 := Lib.hid h1'
        have HF := Lib.hid (show (S.all fun z => T.contains z) = false by
          rw [List.all_eq_false]
          exact ⟨z, HM.out, by rw [h1']; simp⟩)
        clear h1 h1'
        go_wp2_with fail
        refine (contains_any hl' hn' hr').mono ?_
        rintro e w5 ⟨rfl, rfl⟩
        rw [H1.out]
        go_wp2_with fail
        go_ret
        exact ⟨ret_b HF.out.symm, rfl⟩
    · have e : k = n := by omega
      subst e
      have HF := Lib.hid (show (S.all fun z => T.contains z) = true by have := hno.out; rwa [List.take_of_length_le (by rw [hl.out]; exact Nat.le_refl _)] at this)
      go_wp2_with fail
      go_ret
      exact ⟨ret_b HF.out.symm, rfl⟩
set_option maxHeartbeats 4000000 in
theorem drawSet {w : World} {A : Option Addr} {n c : Nat} (h : Code8 w A n) :
    Calls Try.prog 101 #[.slice A n c] w (DrewGS2 13 w) := by
  obtain ⟨ti, hti, hz0, hz1, hz2⟩ := info_parts IntS_info
  have br0 := Bx.made w 26 #[Value.int .i64 0, .slice none 0 0]
  have hb0 : Below w.heap.size w (w.alloc (Obj.cells #[Value.int .i64 0, .slice none 0 0] 26)) := (Below.refl _ _).alloc (Nat.le_refl _) _
  have h0 := h.below hb0
  have hs0 : (w.alloc (Obj.cells #[Value.int .i64 0, .slice none 0 0] 26)).heap.size = w.heap.size + 1 := by simp
  go_enter Try.func101, Try.ntmps101
  go_wp2_with fail
  refine (drawHit2 h0).mono ?_
  rintro e w2 ⟨N, X, v, zs, u, M, hok, hzl, rfl, hM1, hM2, hown2, hrow2, hb2⟩
  rw [hs0] at hM1 hown2
  obtain ⟨Av, cv, rfl, _, _, _⟩ := hown2.rd (n := X.length) rfl
  have br2 := br0.new hb2
  have hbw2 := hb0.trans (hb2.mono hb0.size)
  have k3 : Below w2.heap.size w2 (w2.alloc (Obj.cells #[Value.int .i64 N, .slice Av X.length cv] 26)) := (Below.refl _ _).alloc (Nat.le_refl _) _
  have br3 := br2.new k3
  have bg3 := Bx.made w2 26 #[Value.int .i64 N, .slice Av X.length cv]
  have ho3 := hown2.new k3
  have hrow3 := hrow2.new k3
  have h3 := h.below (hbw2.trans (k3.mono hbw2.size))
  have hbw3 := hbw2.trans (k3.mono hbw2.size)
  have HOK := Lib.hid hok
  have hx3 : (w2.alloc (Obj.cells #[Value.int .i64 N, .slice Av X.length cv] 26)).heap.size = w2.heap.size + 1 := by simp
  obtain ⟨w3, hw3⟩ : ∃ u : World, u = w2.alloc (Obj.cells #[Value.int .i64 N, .slice Av X.length cv] 26) := ⟨_, rfl⟩
  rw [← hw3] at br3 bg3 ho3 hrow3 h3 hbw3 hx3
  have hHW := Lib.hid hw3.symm
  have hsz2 := hbw2.size
  clear br0 hb0 h0 br2 hbw2 k3 hown2 hrow2 hok hw3 hs0 hb2
  go_wp2_with fail
  rw [hHW.out]
  clear hHW
  refine (new_any h3).mono ?_
  rintro e w4 ⟨rfl, hb4, cur4⟩
  rw [hx3] at cur4
  have br4 := br3.new hb4
  have bg4 := bg3.new hb4
  have ho4 := ho3.new hb4
  have hrow4 := hrow3.new hb4
  have hbw4 := hbw3.trans (hb4.mono hbw3.size)
  have hz4 := hb4.size
  clear br3 bg3 ho3 hrow3 hbw3
  go_wp2_with fail
  refine (once_any cur4 8 (by omega)).mono ?_
  rintro e w5 ⟨x, rfl, hg5, cur5⟩
  have br5 := br4.only hg5 (by omega)
  have bg5 := bg4.only hg5 (by omega)
  have ho5 := ho4.out (Out.of_only hg5) (by omega)
  have hrow5 := hrow4.out (Out.of_only hg5) (by omega)
  have hbw5 := cur_below hbw4 hg5 (by omega)
  have hz5 := hg5.size
  clear br4 bg4 ho4 hrow4 hbw4 cur4
  cases x
  · obtain ⟨D0, D1⟩ := bg5.two
    obtain ⟨R0, R1⟩ := br5.two
    have r0 := br5.free 0
    have r1 := br5.free 1
    have hHB := Lib.hid br5
    go_wp2_with fail
    have br5 := hHB.out
    refine bodyPost_ret (resGB rfl ((br5.set 0 _).set 1 _) rfl rfl rfl) rfl ⟨N, X, .slice Av X.length cv, zs, u, M, HOK.out, by omega, rfl, by omega, by simp; omega, ?_, ?_, (hbw5.setCell (p := ⟨w.heap.size, 0, none⟩) (Nat.le_refl _) _).setCell (p := ⟨w.heap.size, 1, none⟩) (Nat.le_refl _) _⟩
    · exact ((ho5.setFar (p := ⟨w.heap.size, 0, none⟩) (.inl (by simp)) _).setFar (p := ⟨w.heap.size, 1, none⟩) (.inl (by simp)) _).wide (by omega) (Nat.le_refl _)
    · exact ((hrow5.out (Out.setCell w5 (lo := w.heap.size) (hi := w.heap.size + 1) (Nat.le_refl _) (Nat.lt_succ_self _) 0 _) (.inr (by omega))).out (Out.setCell _ (lo := w.heap.size) (hi := w.heap.size + 1) (Nat.le_refl _) (Nat.lt_succ_self _) 1 _) (.inr (by omega))).wide (Nat.le_refl _) (by simp; omega)
  · go_wp2_with fail
    refine (below_any cur5 8 (by omega)).mono ?_
    rintro e w6 ⟨x, _, rfl, hg6, _⟩
    have br6 := br5.only hg6 (by omega)
    have bg6 := bg5.only hg6 (by omega)
    have ho6 := ho5.out (Out.of_only hg6) (by omega)
    have hrow6 := hrow5.out (Out.of_only hg6) (by omega)
    have hbw6 := cur_below hbw5 hg6 (by omega)
    have hz6 := hg6.size
    clear br5 bg5 ho5 hrow5 hbw5 cur5
    have hbl : Below w6.heap.size w6 (w6.alloc (Obj.cells #[Value.int .i64 x] 3)) := (Below.refl _ _).alloc (Nat.le_refl _) _
    have hrowA := hrow6.new hbl
    have hmade := Rd.made w6 #[Value.int .i64 x] 3
    have L : (ivs zs).length + 1 ≤ maxLen ∧ ((ivs zs).length + 1) * 8 ≤ 140737488355328 := by rw [ivs_len]; unfold maxLen; omega
    have L1 := Lib.hid L
    clear L
    have brA := br6.new hbl
    have bgA := bg6.new hbl
    have hoA := ho6.new hbl
    have hbwA := hbw6.trans (hbl.mono hbw6.size)
    have hsA : (w6.alloc (Obj.cells #[Value.int .i64 x] 3)).heap.size = w6.heap.size + 1 := by simp
    have HSA := Lib.hid hsA
    clear br6 bg6 ho6 hrow6 hbw6 hbl hsA
    go_wp2_with (at_builtin; refine wpList_app rfl (.tmp 16) (.tmp 19) 34 rfl 3 ti _ 8 Try.underlying34 hti hz0 hz1 hz2 rfl rfl rfl hrowA rfl hmade (by simp [Value.oneCell']) L1.out.1 L1.out.2 (by simp; omega) ?_; intro v1 w7 hrow7 ho7; have br7 := brA.out ho7 (by omega); have bg7 := bgA.out ho7 (by omega); obtain ⟨D0, D1⟩ := bg7.two; obtain ⟨R0, R1⟩ := br7.two; have r0 := br7.free 0; have r1 := br7.free 1; have hHB := Lib.hid br7; clear br7)
    have ho8 := hoA.out ho7 (by omega)
    have hz7 := ho7.size
    rw [HSA.out] at hz7
    have hbw7 := hbwA.trans (ho7.below (B := w.heap.size) (by omega) (by rw [HSA.out]; omega))
    have hrow8 : Row w7 M w7.heap.size 3 v1 (ivs (zs ++ [x])) := by rw [← ivs_snoc_l]; exact hrow7
    have br7 := hHB.out
    refine bodyPost_ret (resGB rfl ((br7.set 0 _).set 1 _) rfl rfl rfl) rfl ⟨N, X, .slice Av X.length cv, zs ++ [x], v1, M, HOK.out, by simp; omega, rfl, by omega, by simp; omega, ?_, ?_, (hbw7.setCell (p := ⟨w.heap.size, 0, none⟩) (Nat.le_refl _) _).setCell (p := ⟨w.heap.size, 1, none⟩) (Nat.le_refl _) _⟩
    · exact ((ho8.setFar (p := ⟨w.heap.size, 0, none⟩) (.inl (by simp)) _).setFar (p := ⟨w.heap.size, 1, none⟩) (.inl (by simp)) _).wide (by omega) (Nat.le_refl _)
    · exact ((hrow8.out (Out.setCell w7 (lo := w.heap.size) (hi := w.heap.size + 1) (Nat.le_refl _) (Nat.lt_succ_self _) 0 _) (.inr (by omega))).out (Out.setCell _ (lo := w.heap.size) (hi := w.heap.size + 1) (Nat.le_refl _) (Nat.lt_succ_self _) 1 _) (.inr (by omega))).wide (Nat.le_refl _) (by simp)
end Go.Proofs.Ytpopcjamildhkaa
