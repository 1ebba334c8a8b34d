/- Contract of the code's HitBy. No conditions but that the slices have at most 2^40 elements. -/
import Derived.Test.YtmemjapmkoenmaaWho
namespace Go.Proofs.Ytmemjapmkoenmaa
open Go.ChangeShapes Go.WideShapes Go.ChangeAt Go.RowKit
set_option maxRecDepth 100000
theorem orV_take {n : Int} {f : Nat → Nat} {S : List Int} {k : Nat} (hk : k < S.length) : orV n f (S.take (k + 1)) = orV n f (S.take k) ||| vic n f S[k] := by
  rw [List.take_succ_eq_append_getElem hk, orV_snoc]
theorem vic_lt' {n c : Int} {f : Nat → Nat} (h : ∀ a, f a < 65536) : vic n f c < 65536 := by
  unfold vic
  split
  · exact h _
  · omega
theorem orV_lt' {n : Int} {f : Nat → Nat} (h : ∀ a, f a < 65536) (S : List Int) : orV n f S < 65536 := by
  have key : ∀ (S : List Int) (x : Nat), x < 2 ^ 16 → (S.foldl (fun x c => x ||| vic n f c) x) < 2 ^ 16 := by
    intro S
    induction S with
    | nil => intro x hx; exact hx
    | cons c S ih => intro x hx; rw [List.foldl_cons]; exact ih _ (Nat.or_lt_two_pow hx (vic_lt' h))
  exact key S 0 (by decide)
set_option maxHeartbeats 4000000 in
theorem impHitBy_any {w : World} {A A' : Option Addr} {n c n' c' : Nat} {N : Int} {X : List (List Int)} {S : List Int} (hl : Hid (X.length = n)) (hn : n ≤ 1099511627776) (hr : RdSS w w.heap.size A X) (hl' : Hid (S.length = n')) (hn' : n' ≤ 1099511627776) (hr' : Rd w w.heap.size A' (ivs S)) :
    Calls Try.prog 36 #[.agg #[.int .i64 N, .slice A n c], .slice A' n' c'] w (Fresh 3 (ivs (hit N X S)) w) := by
  have hb1 : Below w.heap.size w (w.alloc (Obj.cells #[Value.int IntKind.i64 N, Value.slice A n c] 41)) := (Below.refl _ _).alloc (Nat.le_refl _) _
  have HR := Lib.hid hr
  clear hr
  go_enter Try.func36, Try.ntmps36
  go_wp2_with fail
  obtain ⟨W1, hW⟩ : ∃ u : World, u = w.alloc (Obj.cells #[Value.int IntKind.i64 N, Value.slice A n c] 41) := ⟨_, rfl⟩
  rw [← hW] at hb1 ⊢
  clear hW
  refine (rowsOf_any hl hn ((HR.out.below hb1).more hb1.size)).mono ?_
  rintro e w2 ⟨rfl, hb2⟩
  have hb3 := hb1.trans (hb2.mono hb1.size)
  have HQ := Lib.hid (hit_code N X S)
  obtain ⟨r0, r1⟩ := rn_le N X
  have hfl := rf_lt N X
  generalize rf N X = f at hfl HQ ⊢
  generalize rn N X = m at r0 r1 HQ ⊢
  have hb4 : Below w.heap.size w (w2.alloc (Obj.cells (arC 0 fun _ => 0) 83)) := hb3.alloc hb3.size _
  have bx4 := Bx.made w2 83 (arC 0 fun _ => 0)
  obtain ⟨W4, hW4⟩ : ∃ u : World, u = w2.alloc (Obj.cells (arC 0 fun _ => 0) 83) := ⟨_, rfl⟩
  have hs4 : W4.heap.size = w2.heap.size + 1 := by rw [hW4]; simp
  rw [← hW4] at hb4 bx4
  rw [← arC_lit 0] at hW4
  have hW4' := hW4.symm
  have o5 := setRow_out W4 w2.heap.size (arC m f) (Nat.le_refl _) (Nat.lt_succ_self _)
  have hb5 : Below w.heap.size w _ := hb4.trans (o5.below (by have := hb3.size; omega) (by have := hb4.size; omega))
  have bx5 := bx4.setRow (arC m f)
  obtain ⟨W5, hW5⟩ : ∃ u : World, u = W4.setRow w2.heap.size (arC m f) := ⟨_, rfl⟩
  rw [← hW5] at o5 hb5 bx5
  have HX := Lib.hid hW5.symm
  have hs5 := o5.size
  clear hW4 hW5 o5
  go_wp2_with (first | (refine stAR (n := m) (f := f) rfl (.tmp 5) (.tmp 10) rfl bx4 rfl rfl rfl ?_; rw [HX.out]))
  have hr5 := hr'.below hb5
  generalize w2.heap.size = g at *
  clear bx4 hb4 hW4'
  go_loopw [6, 13] (fun b i wr => ∃ k : Nat, k ≤ n' ∧ i = .int .i64 k ∧ b = .int .u16 (orV m f (S.take k) : Nat) ∧ Below W5.heap.size W5 wr) (fun _ i _ => n' - (intOf i).toNat)
  case atStart => exact ⟨0, Nat.zero_le _, rfl, rfl, Below.refl _ _⟩
  case round =>
    obtain ⟨k, hk, rfl, rfl, hbw⟩ := hrel
    have hbk : Below w.heap.size w _ := hb5.trans (hbw.mono hb5.size)
    have hsz := hbk.size
    have bxk := bx5.new hbw
    have hx := orV_lt' (n := m) hfl (S.take k)
    by_cases hlt : k < n'
    · have hkz : k < S.length := by rw [hl'.out]; exact hlt
      obtain ⟨ad, rfl, hab, hc⟩ := ivs_at (hr5.below (hbw.mono hb5.size)) hkz
      have HT := Lib.hid (orV_take (n := m) (f := f) hkz)
      have hv := vic_lt' (n := m) (c := S[k]) hfl
      obtain ⟨z, hz⟩ : ∃ z, z = S[k] := ⟨_, rfl⟩
      obtain ⟨x, hxx⟩ : ∃ x, x = orV m f (S.take k) := ⟨_, rfl⟩
      rw [← hz] at hc HT hv
      rw [← hxx] at hx HT ⊢
      have HO := Lib.hid (u16_or_nat x (vic m f z) hx hv)
      have i0 : (0 : Int) ≤ (k : Int) := by omega
      clear hz hxx
      go_wp2_with (first | (refine ldAR rfl (.tmp 5) rfl bxk rfl rfl ?_) | (go_at_call 78; refine (victims_any r0 r1).mono ?_; rintro e w9 ⟨rfl, hb9⟩))
      rw [HO.out]
      go_roundw
      case rel => exact ⟨k + 1, by omega, by go_num, by rw [HT.out], hbw.trans (hb9.mono hbw.size)⟩
      case measure => simp [intOf]; omega
    · have e : k = n' := by omega
      subst e
      rw [List.take_of_length_le (by rw [hl'.out]; exact Nat.le_refl _)] at hx ⊢
      obtain ⟨x, hxx⟩ : ∃ x, x = orV m f S := ⟨_, rfl⟩
      rw [← hxx] at hx HQ ⊢
      clear hxx
      go_wp2_with fail
      refine (list_any hx).mono ?_
      rintro e w4 ⟨v, rfl, hrow, hb6⟩
      go_wp2_with fail
      go_ret
      exact ⟨v, rfl, by rw [← HQ.out]; exact hrow.wide hsz (Nat.le_refl _), hbk.trans (hb6.mono hsz)⟩
end Go.Proofs.Ytmemjapmkoenmaa
