/- Contracts of the code's firstClaims; what IsPartOf compares. Conditions: at most 10 claims, rows below 2^16. -/
import Derived.Test.YtjhknafajfpldaaDoorMg27
import Derived.Test.YtjhknafajfpldaaDoorMg22
import Derived.Test.YtjhknafajfpldaaDoorMg28
namespace Go.Proofs.YtjhknafajfpldaaDoor
open Go.ChangeShapes Go.WideShapes Go.ChangeAt Go.RowKit
set_option maxRecDepth 100000
/-- The rows of the claims below n, among themselves. -/
def fstR (n : Nat) (f : Nat → Nat) (k : Nat) : Nat → Nat := fun j => if j < k then f j &&& alB n else 0
theorem arC_put (n : Int) (F : Nat → Nat) {a : Nat} (ha : a < 10) (x : Nat) : (arC n F).setIfInBounds (1 + a) (.int .u16 (x : Nat)) = arC n fun k => if k = a then x else F k := by
  rcases lt10 ha with rfl | rfl | rfl | rfl | rfl | rfl | rfl | rfl | rfl | rfl <;> simp [arC]
theorem fstR_next (n : Nat) (f : Nat → Nat) (k : Nat) : (fun j => if j = k then f k &&& alB n else fstR n f k j) = fstR n f (k + 1) := by
  funext j
  unfold fstR
  by_cases h : j = k
  · subst h
    rw [if_pos rfl, if_pos (by omega)]
  · rw [if_neg h]
    by_cases h2 : j < k
    · rw [if_pos h2, if_pos (by omega)]
    · rw [if_neg h2, if_neg (by omega)]
theorem fstR_lt {n : Nat} {f : Nat → Nat} (hf : ∀ a, f a < 65536) (k j : Nat) : fstR n f k j < 65536 := by
  unfold fstR
  split
  · exact Nat.lt_of_le_of_lt Nat.and_le_left (hf j)
  · omega
set_option maxHeartbeats 4000000 in
theorem first_any {w : World} {m : Int} {n : Nat} {f : Nat → Nat} (hn : n ≤ 10) (hf : ∀ a, f a < 65536) :
    Calls Tryd.prog 35 #[.agg (arC m f), .int .i64 n] w (fun e w' => e = .returned (.agg (arC n (fstR n f n))) ∧ Below w.heap.size w w') := by
  obtain ⟨W2, hW2, b0, b1, hb2, hs2⟩ := two_blocks w (arC m f) (arC 0 fun _ => 0) 49 49
  obtain ⟨W4, W5, hW4, hW5, c4, c5, hb5, hs5⟩ := new_rows W2 n fun _ => 0
  have d0 := b0.new hb5
  have d1 := b1.new hb5
  have hb6 := hb2.trans (hb5.mono hb2.size)
  rw [← arC_lit 0] at hW2 hW4
  rw [hs2] at c4 c5 hW5
  have HX := Lib.hid hW5
  have HS5 := Lib.hid (show W5.heap.size = w.heap.size + 3 by omega)
  clear hW5 hs5 b0 b1 hb2 hb5
  go_enter Tryd.func35, Tryd.ntmps35
  go_wp2_with (first | (refine stAR (n := n) (f := fun _ => 0) rfl (.tmp 5) (.tmp 8) rfl c4 rfl rfl rfl ?_; rw [HX.out]))
  clear hW2 hW4 c4 HX
  generalize hg : w.heap.size = g at *
  go_loopw [10] (fun i wr => ∃ k : Nat, k ≤ n ∧ i = .int .i64 k ∧ Bx wr (g + 2) 49 (arC n (fstR n f k)) ∧ Out (g + 2) (g + 3) W5 wr) (fun i _ => n - (intOf i).toNat)
  case atStart => exact ⟨0, Nat.zero_le _, rfl, c5, Out.refl⟩
  case round =>
    obtain ⟨k, hk, rfl, hbk, hou⟩ := hrel
    have hs5 := HS5.out
    have hsw := hou.size
    have e0 := d0.out hou (.inl (by omega))
    have e1 := d1.out hou (.inl (by omega))
    clear c5 d0 d1
    by_cases hlt : k < n
    · have hk10 : k < 10 := by omega
      have ck := e0.at_ (arC_at m f (a := k) hk10)
      have fk := hbk.at_ (arC_at (n : Int) (fstR n f k) (a := k) hk10)
      have HN := Lib.hid (fstR_next n f k)
      have HO := Lib.hid (u16_and_nat (f k) (alB n) (hf k) (Nat.lt_trans (alB_lt (by omega)) (by decide)))
      obtain ⟨c0, c1, c2, c3, c4, c5, c6, c7, c8, c9, c10⟩ := hbk.eleven
      have i1 : (0 : Int) ≤ (k : Int) := by omega
      have i2 : (k : Int) < 10 := by omega
      have HB := Lib.hid hbk
      have HE := Lib.hid e0
      obtain ⟨F, hF⟩ : ∃ F, F = fstR n f k := ⟨_, rfl⟩
      rw [← hF] at HB HN c1 c2 c3 c4 c5 c6 c7 c8 c9 c10 fk
      clear hbk hF e0
      go_wp2_with fail
      go_region_law (first | (go_simp; go_at_call 43; refine (all_any (n := n) (f := F) (by omega) (by omega)).mono ?_; rintro e w9 ⟨rfl, hb9⟩; have g9 := (HE.out.drew_.new hb9).at_ (arC_at m f (a := k) hk10); have b9 := HB.out.drew_.new hb9; have p9 := b9.at_ (arC_at (n : Int) F (a := k) hk10); have q9 := b9.free (1 + k)))
      all_goals
        have hbs := b9.set (1 + k) (.int .u16 ((f k &&& alB n : Nat) : Int))
        rw [arC_put _ _ hk10, HN.out] at hbs
        have ho9 : Out (g + 2) (g + 3) W5 (w9.setCell ⟨g + 2, 1 + k, none⟩ (.int .u16 ((f k &&& alB n : Nat) : Int))) := ((hou.drewN 1).trans (Out.of_below hb9)).trans (setCell_out w9 (g + 2) (1 + k) _)
        rw [HO.out]
        go_wp2_with fail
        go_roundw
        case rel => exact ⟨k + 1, by omega, by go_num, hbs, ho9⟩
        case measure => simp [intOf]; omega
    · have e : k = n := by omega
      subst e
      obtain ⟨F, hF⟩ : ∃ F, F = fstR k f k := ⟨_, rfl⟩
      rw [← hF] at hbk
      have HF := Lib.hid hF
      clear hF
      go_wp2_with (first | (refine ldAR rfl (.tmp 5) rfl hbk rfl rfl ?_) | (refine stAR rfl (.tmp 4) (.tmp 24) rfl e1 rfl rfl rfl ?_))
      refine bodyPost_ret (resAR rfl (e1.setRow (arC k F)) rfl rfl) rfl ⟨by rw [HF.out], ?_⟩
      exact hg ▸ ((hb6.trans (hou.below (by omega) (by omega))).trans ((setRow_out _ (g + 1) (arC k F) (Nat.le_refl _) (Nat.lt_succ_self _)).below (by omega) (by omega)))
theorem sameR_all {f g : Nat → Nat} : ∀ {ks : List Nat}, sameR f g ks = true ↔ ∀ k ∈ ks, f k = g k
  | [] => by simp [sameR]
  | k :: ks => by
    unfold sameR
    rw [List.forall_mem_cons, ← sameR_all (ks := ks)]
    by_cases h : f k = g k
    · simp [h]
    · simp [h]
/-- The rows say whether one graph is a part of another. -/
theorem part_code {m n : Nat} {X Y : List (List Int)} (hX : gB m X = true) (hY : gB n Y = true) (hmn : m ≤ n) : sameR (rf m X) (fstR m (rf n Y) m) [0, 1, 2, 3, 4, 5, 6, 7, 8, 9] = partB m X n Y := by
  obtain ⟨m', e, hm10, hp, _⟩ := gB_ok hX
  obtain rfl : m = m' := by omega
  obtain ⟨n', e', hn10, hq, _⟩ := gB_ok hY
  obtain rfl : n = n' := by omega
  have key : (∀ a, a < 10 → rf m X a = fstR m (rf n Y) m a) ↔ ∀ i k : Nat, i < m → k < m → ([(i : Int), (k : Int)] ∈ X ↔ [(i : Int), (k : Int)] ∈ Y) := by
    constructor
    · intro h i k hi hk
      have h1 := congrArg (fun x => x.testBit k) (h i (by omega))
      simp only [fstR, if_pos hi, Nat.testBit_and, alB_bit, Int.toNat_natCast, decide_eq_true hk, Bool.and_true] at h1
      rw [← rf_mem hX hp, ← rf_mem hY hq, h1]
    · intro h a _
      refine Nat.eq_of_testBit_eq fun k => ?_
      rw [Bool.eq_iff_iff, rf_mem hX hp]
      unfold fstR
      split
      · next ha =>
        rw [Nat.testBit_and, Bool.and_eq_true, rf_mem hY hq, alB_bit]
        simp only [Int.toNat_natCast, decide_eq_true_iff]
        constructor
        · intro hx
          obtain ⟨p, q, e, h1, h2⟩ := hp _ hx
          injection e with e1 e2
          injection e2 with e2 _
          have hk : k < m := by omega
          exact ⟨(h a k ha hk).1 hx, hk⟩
        · rintro ⟨hy, hk⟩
          exact (h a k ha hk).2 hy
      · next ha =>
        simp
        intro hx
        obtain ⟨p, q, e, h1, h2⟩ := hp _ hx
        injection e with e1 e2
        omega
  rw [Bool.eq_iff_iff]
  constructor
  · intro h
    refine partB_of hX hY hmn (key.1 fun a ha => ?_)
    have h2 := (sameR_all.1 h) a (by rcases lt10 ha with rfl | rfl | rfl | rfl | rfl | rfl | rfl | rfl | rfl | rfl <;> simp)
    exact h2
  · intro h
    refine sameR_all.2 fun a ha => key.2 (fun i k hi hk => ?_) a (by simp at ha; omega)
    unfold partB at h
    simp only [Bool.and_eq_true, List.all_eq_true, List.mem_range, Int.toNat_natCast, beq_iff_eq] at h
    have := h.2 i hi k hk
    rw [← dA_mem hX hp, ← dA_mem hY hq, this]
end Go.Proofs.YtjhknafajfpldaaDoor
