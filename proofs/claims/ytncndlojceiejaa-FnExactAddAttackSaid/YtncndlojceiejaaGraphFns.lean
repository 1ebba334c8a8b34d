/- Contracts of chapter 4's models. No conditions but that the slices have at most 2^40 elements. -/
import Derived.Test.YtncndlojceiejaaGraph
import Derived.Test.YtncndlojceiejaaInts
import Derived.Deep.RegionWith
namespace Go.Proofs.Ytncndlojceiejaa
open Go.ChangeShapes Go.WideShapes Go.ChangeAt Go.RowKit
def okA (M : Int) (a : List Int) : Bool := decide (a.length = 2) && inr (a.getD 0 0) 0 M && inr (a.getD 1 0) 0 M
def ltP (b a : List Int) : Bool := !(decide (a.getD 0 0 < b.getD 0 0) || decide (b.getD 0 0 = a.getD 0 0) && decide (a.getD 1 0 ≤ b.getD 1 0))
def okI (M : Int) (X : List (List Int)) (i : Nat) : Bool := okA M (X.getD i []) && (decide (i = 0) || ltP (X.getD (i - 1) []) (X.getD i []))
def GPre (M : Int) (X : List (List Int)) (k : Nat) : Prop := ∀ i, i < k → okI M X i = true
instance (M : Int) (X : List (List Int)) (k : Nat) : Decidable (GPre M X k) := inferInstanceAs (Decidable (∀ i, i < k → okI M X i = true))
def gB (N : Int) (X : List (List Int)) : Bool := decide (GPre (IntKind.i64.wrap (N - 1)) X X.length) && inr N 0 10
theorem gB_bad {N : Int} {X : List (List Int)} {k : Nat} (hk : k < X.length) (h : okI (IntKind.i64.wrap (N - 1)) X k = false) : gB N X = false := by
  have : ¬ GPre (IntKind.i64.wrap (N - 1)) X X.length := fun hp => by rw [hp k hk] at h; cases h
  simp [gB, this]
theorem gB_end {N : Int} {X : List (List Int)} (h : GPre (IntKind.i64.wrap (N - 1)) X X.length) : gB N X = inr N 0 10 := by simp [gB, h]
theorem GPre.succ {M : Int} {X : List (List Int)} {k : Nat} (h : GPre M X k) (hk : okI M X k = true) : GPre M X (k + 1) := fun i hi => by
  rcases Nat.lt_or_ge i k with h' | h'
  · exact h i h'
  · have : i = k := by omega
    subst this; exact hk
theorem getD_at {X : List (List Int)} {k : Nat} (h : k < X.length) : X.getD k [] = X[k] := by simp [List.getD, h]
theorem okI_two {M : Int} {X : List (List Int)} {k : Nat} (h : okI M X k = true) (hk : k < X.length) : ∃ p q, X[k] = [p, q] := by
  unfold okI okA at h
  simp only [Bool.and_eq_true, decide_eq_true_eq, getD_at hk] at h
  obtain ⟨⟨⟨h1, _⟩, _⟩, _⟩ := h
  match hx : X[k], (show X[k].length = 2 from h1) with
  | [p, q], _ => exact ⟨p, q, rfl⟩
theorem rd2 {w : World} {B : Nat} {A : Option Addr} {p q : Int} (h : Rd w B A (ivs [p, q])) : ∃ g o, A = some ⟨g, o, none⟩ ∧ g < B ∧ w.cell? ⟨g, o, none⟩ = some (.int .i64 p) ∧ w.cell? ⟨g, o + 1, none⟩ = some (.int .i64 q) := by
  obtain ⟨ad, e, hb, hc⟩ := h 0 _ rfl
  obtain ⟨ad', e', _, hc'⟩ := h 1 _ rfl
  have : ad' = ad := by rw [e] at e'; injection e' with e'; exact e'.symm
  subst this
  obtain ⟨g, o, s⟩ := ad'
  have hs : s = none := by simpa [Addr.add] using World.cell?_spot hc
  subst hs
  rw [Addr.add_lit] at hc hc'
  exact ⟨g, o, e, hb, hc, hc'⟩
theorem l1In_Q {w : World} (a lo hi : Int) {b : Bool} (hb : inr a lo hi = b) : ∀ m, Calls Try.prog 55 #[.int .i64 a, .int .i64 lo, .int .i64 hi] (w.drewN m) (fun e w' => e = .returned (.bool b) ∧ ∃ m', w' = (w.drewN m).drewN m') := fun m =>
  (l1In_any a lo hi _).mono fun e w' ⟨h1, h2⟩ => ⟨by rw [h1, hb], 0, h2.symm⟩
set_option maxHeartbeats 8000000 in
set_option maxRecDepth 100000 in
theorem specIsGraph_any {w : World} {A : Option Addr} {n c : Nat} {N : Int} {X : List (List Int)} (hl : Hid (X.length = n)) (hn : n ≤ 1099511627776) (hr : RdSS w w.heap.size A X) :
    Calls Try.prog 32 #[.agg #[.int .i64 N, .slice A n c]] w (Tells (gB N X) w) := by
  have hb0 : Below w.heap.size w (w.alloc (Obj.cells #[Value.int IntKind.i64 N, Value.slice A n c] 26)) := (Below.refl _ _).alloc (Nat.le_refl _) _
  have hr1 := hr.below hb0
  clear hr
  obtain ⟨M, hM⟩ : ∃ M, IntKind.i64.wrap (N - 1) = M := ⟨_, rfl⟩
  have HM := Lib.hid hM
  go_enter Try.func32, Try.ntmps32
  go_wp2
  obtain ⟨W1, hW⟩ : ∃ u : World, u = w.alloc (Obj.cells #[Value.int IntKind.i64 N, Value.slice A n c] 26) := ⟨_, rfl⟩
  rw [← hW] at hr1 hb0 ⊢
  have hbx : Bx W1 w.heap.size 26 #[Value.int IntKind.i64 N, Value.slice A n c] := by rw [hW]; exact Bx.made _ _ _
  obtain ⟨C0, C1⟩ := hbx.two
  clear hW hbx
  go_loopw [3] (fun i wr => ∃ k m : Nat, k ≤ n ∧ i = .int .i64 k ∧ wr = W1.drewN m ∧ Hid (GPre (M) X k)) (fun i _ => n - (intOf i).toNat)
  case atStart => exact ⟨0, 0, Nat.zero_le _, rfl, rfl, Lib.hid (fun i hi => absurd hi (by omega))⟩
  case round =>
    obtain ⟨k, m, hk, rfl, rfl, hpre⟩ := hrel
    by_cases hlt : k < n
    · have hkz : k < X.length := by rw [hl.out]; exact hlt
      obtain ⟨ad, Aj, cj, rfl, hab, hc, _, _, hrd⟩ := hr1.at_ hkz
      by_cases h2 : X[k].length = 2
      · obtain ⟨p, q, hx⟩ : ∃ p q, X[k] = [p, q] := by
          match hx : X[k], h2 with
          | [p, q], _ => exact ⟨p, q, rfl⟩
        have hxD := Lib.hid (show X.getD k [] = [p, q] by rw [getD_at hkz, hx])
        rw [hx] at hc hrd
        obtain ⟨ag, ao, rfl, ha2, e0, e1⟩ := rd2 hrd
        clear h2 hx hrd
        rw [show ([p, q] : List Int).length = 2 from rfl] at hc
        by_cases i1 : inr p 0 (M) = true
        · have J1 := Lib.hid (l1In_Q (w := W1) p 0 (M) i1)
          by_cases i2 : inr q 0 (M) = true
          · have J2 := Lib.hid (l1In_Q (w := W1) q 0 (M) i2)
            have I1 := Lib.hid i1
            have I2 := Lib.hid i2
            clear i1 i2
            go_wp2
            go_quiet ((first | (go_at_call_of 55 (Value.int IntKind.i64 p); with_reducible exact quiet_addQ J1.out) | (go_at_call_of 55 (Value.int IntKind.i64 q); with_reducible exact quiet_addQ J2.out)))
            by_cases hk0 : k = 0
            · subst hk0
              have HP := Lib.hid (hpre.out.succ (by unfold okI okA; rw [hxD.out]; simp [I1.out, I2.out]))
              go_wp2
              go_roundw
              case rel => exact ⟨1, _, by omega, by go_num, rfl, HP.out⟩
              case measure => simp [intOf]; omega
            · have hkp : 0 < k := by omega
              have hk1 : k - 1 < X.length := by omega
              obtain ⟨p', q', hx'⟩ := okI_two (hpre.out (k - 1) (by omega)) hk1
              obtain ⟨ad', Aj', cj', had, hab', hc', _, _, hrd'⟩ := hr1.at_ hk1
              injection had with had
              subst had
              have hxD' := Lib.hid (show X.getD (k - 1) [] = [p', q'] by rw [getD_at hk1, hx'])
              rw [hx'] at hc' hrd'
              obtain ⟨bg, bo, rfl, hb2, f0, f1⟩ := rd2 hrd'
              rw [show ([p', q'] : List Int).length = 2 from rfl] at hc'
              clear hx' hrd' hb2 hab'
              by_cases g1 : p < p'
              · have HB := Lib.hid (gB_bad (N := N) hkz (by rw [HM.out]; unfold okI ltP; rw [hxD.out, hxD'.out]; simp [g1]; omega))
                have d1 : decide (p < p') = true := decide_eq_true g1
                go_wp2
                go_quiet (fail)
                go_wp2
                go_ret
                exact ⟨ret_b HB.out.symm, below_drewN (below_drewN hb0 _) _⟩
              · have d1 : decide (p < p') = false := decide_eq_false g1
                have g1' : p' ≤ p := by omega
                by_cases g2 : p' = p
                · subst g2
                  by_cases g3 : q ≤ q'
                  · have HB := Lib.hid (gB_bad (N := N) hkz (by rw [HM.out]; unfold okI ltP; rw [hxD.out, hxD'.out]; simp [g3]; omega))
                    go_wp2
                    go_quiet (fail)
                    go_wp2
                    go_ret
                    exact ⟨ret_b HB.out.symm, below_drewN (below_drewN hb0 _) _⟩
                  · have HP := Lib.hid (hpre.out.succ (by unfold okI okA ltP; rw [hxD.out, hxD'.out]; simp [I1.out, I2.out, g3]))
                    have g3' : q' < q := by omega
                    go_wp2
                    go_quiet (fail)
                    go_wp2
                    go_roundw
                    case rel => exact ⟨k + 1, _, by omega, by go_num, rfl, HP.out⟩
                    case measure => simp [intOf]; omega
                · have HP := Lib.hid (hpre.out.succ (by unfold okI okA ltP; rw [hxD.out, hxD'.out]; simp [I1.out, I2.out, g1, g2]))
                  have g2' : p' < p := by omega
                  have g4 : (p' == p) = false := by simpa using g2
                  go_wp2
                  go_quiet (fail)
                  go_wp2
                  go_roundw
                  case rel => exact ⟨k + 1, _, by omega, by go_num, rfl, HP.out⟩
                  case measure => simp [intOf]; omega
          · have i2' : inr q 0 (M) = false := by simpa using i2
            have J2 := Lib.hid (l1In_Q (w := W1) q 0 (M) i2')
            have HB := Lib.hid (gB_bad (N := N) hkz (by rw [HM.out]; unfold okI okA; rw [hxD.out]; simp [i2']))
            clear i1 i2 i2'
            go_wp2
            go_quiet ((first | (go_at_call_of 55 (Value.int IntKind.i64 p); with_reducible exact quiet_addQ J1.out) | (go_at_call_of 55 (Value.int IntKind.i64 q); with_reducible exact quiet_addQ J2.out)))
            go_wp2
            go_ret
            exact ⟨ret_b HB.out.symm, below_drewN (below_drewN hb0 _) _⟩
        · have i1' : inr p 0 (M) = false := by simpa using i1
          have J1 := Lib.hid (l1In_Q (w := W1) p 0 (M) i1')
          have HB := Lib.hid (gB_bad (N := N) hkz (by rw [HM.out]; unfold okI okA; rw [hxD.out]; simp [i1']))
          clear i1 i1'
          go_wp2
          go_quiet ((go_at_call 55; with_reducible exact quiet_addQ J1.out))
          go_wp2
          go_ret
          exact ⟨ret_b HB.out.symm, below_drewN (below_drewN hb0 _) _⟩
      · have HB := Lib.hid (gB_bad (N := N) hkz (by rw [HM.out]; unfold okI okA; rw [getD_at hkz]; simp [h2]))
        have h2' : ¬ ((X[k].length : Int) = 2) := by omega
        obtain ⟨x, hx⟩ : ∃ x, x = X[k] := ⟨_, rfl⟩
        rw [← hx] at hc h2 h2'
        have h2b : ((x.length : Int) == 2) = false := by simpa using h2'
        have h2c : ((x.length : Int) != 2) = true := by simpa using h2'
        have h2d : (x.length == 2) = false := by simpa using h2
        have h2e : (x.length != 2) = true := by simpa using h2
        clear hx hrd
        go_wp2
        go_quiet (fail)
        go_wp2
        go_ret
        exact ⟨ret_b HB.out.symm, below_drewN (below_drewN hb0 _) _⟩
    · have e : k = n := by omega
      subst e
      have HE := Lib.hid (gB_end (N := N) (X := X) (by rw [hl.out, HM.out]; exact hpre.out))
      go_wp2_with (go_at_call 55; refine (l1In_any _ _ _ _).mono ?_; rintro e w1 ⟨rfl, rfl⟩)
      go_ret
      exact ⟨ret_b HE.out.symm, below_drewN hb0 m⟩
end Go.Proofs.Ytncndlojceiejaa
