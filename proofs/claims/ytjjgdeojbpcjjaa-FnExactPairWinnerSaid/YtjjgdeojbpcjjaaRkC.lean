/- Contracts of the code of chapter 17: IsRanking, AreRankings, Prefer. Condition: the slices have at most 2^40 elements. -/
import Derived.Test.YtjjgdeojbpcjjaaRkM
import Derived.Test.YtjjgdeojbpcjjaaInAllC
namespace Go.Proofs.Ytjjgdeojbpcjjaa
open Go.ChangeShapes Go.WideShapes Go.ChangeAt Go.RowKit
set_option maxRecDepth 100000
theorem NoB.noA {S : List Int} {a : Int} {k : Nat} (h : NoB S a k) (_hk : k ≤ S.length) : NoA S a k := fun j hj hjk => by
  have := h j hjk
  rwa [getD_z hj] at this
theorem index_at {w : World} {B : Nat} {A : Option Addr} {n c : Nat} {a : Int} {S : List Int} (hl : Hid (S.length = n)) (hn : n ≤ 1099511627776) (hr : Rd w B A (ivs S)) :
    Calls Try.prog 72 #[.slice A n c, .int .i64 a] w (fun e w' => e = .returned (.int .i64 (atI S a)) ∧ w = w') :=
  (idx_any hl hn hr).mono fun e w' ⟨⟨r, h1, h2⟩, h3⟩ => ⟨by
    rw [h1]
    rcases h2 with ⟨rfl, h4⟩ | ⟨k, rfl, h5, h6, h7⟩
    · rw [NoA.none (S := S) (by rw [hl.out]; exact h4.noA (by rw [hl.out]; exact Nat.le_refl _))]
    · have hk : k < S.length := by rw [hl.out]; exact h5
      rw [(h6.noA (by omega)).some hk (by rwa [getD_z hk] at h7)], h3⟩
set_option maxHeartbeats 2000000 in
theorem impIsRanking_any {w : World} {B : Nat} {A : Option Addr} {n c : Nat} {N : Int} {S : List Int} (hl : Hid (S.length = n)) (hn : n ≤ 1099511627776) (hr : Rd w B A (ivs S)) :
    Calls Try.prog 126 #[.slice A n c, .int .i64 N] w (fun e w' => e = .returned (.bool (rkB S N)) ∧ w = w') := by
  by_cases hr1 : 1 ≤ N ∧ N ≤ 8
  · by_cases hlen : (n : Int) = N
    · subst hlen
      have H1 := Lib.hid (inr_t hr1.1 hr1.2)
      have i1 : ((n : Int) != (n : Int)) = false := by simp
      go_enter Try.func126, Try.ntmps126
      go_wp2_with fail
      refine (inRange_any _ _ _ _).mono ?_
      rintro e u ⟨rfl, rfl⟩
      rw [H1.out]
      go_wp2_with fail
      go_loopw [16] (fun i wr => ∃ k : Nat, k ≤ n ∧ i = .int .i64 k ∧ Hid (∀ j : Nat, j < k → (j : Int) ∈ S) ∧ wr = w) (fun i _ => n - (intOf i).toNat)
      case atStart => exact ⟨0, Nat.zero_le _, rfl, Lib.hid (fun j hj => absurd hj (by omega)), rfl⟩
      case round =>
        obtain ⟨k, hk, rfl, hto, rfl⟩ := hrel
        by_cases hlt : k < n
        · have i0 : (0 : Int) ≤ (k : Int) := by omega
          have i2 : (k : Int) < (n : Int) := by omega
          obtain ⟨b, hbb⟩ : ∃ b, S.contains (k : Int) = b := ⟨_, rfl⟩
          have HB := Lib.hid hbb
          clear hbb
          go_wp2_with fail
          refine (contains_any' hl hn hr).mono ?_
          rintro e u ⟨rfl, rfl⟩
          rw [HB.out]
          cases b with
          | false =>
            have HV := Lib.hid (rk_no_missing (l := S) (n := n) (k := k) (by omega) (by omega) (by have := HB.out; simpa using this))
            go_wp2_with fail
            go_ret
            exact ⟨ret_b HV.out.symm, rfl⟩
          | true =>
            have HP : Hid (∀ j : Nat, j < k + 1 → (j : Int) ∈ S) := Lib.hid (fun j hj => by
              by_cases e : j = k
              · rw [e]; have := HB.out; simpa using this
              · exact hto.out j (by omega))
            go_wp2_with fail
            go_roundw
            case rel => exact ⟨k + 1, by omega, by go_num, HP, trivial⟩
            case measure => simp [intOf]; omega
        · have e : k = n := by omega
          subst e
          have HV := Lib.hid (rk_of_all (by omega) (by omega) hl.out hto.out)
          go_wp2_with fail
          go_ret
          exact ⟨ret_b HV.out.symm, rfl⟩
    · have HV := Lib.hid (rk_bad0 (S := S) (N := N) (.inr (by rw [hl.out]; exact hlen)))
      have H1 := Lib.hid (inr_t hr1.1 hr1.2)
      have i1 : ((n : Int) != N) = true := by simpa using hlen
      go_enter Try.func126, Try.ntmps126
      go_wp2_with fail
      refine (inRange_any _ _ _ _).mono ?_
      rintro e u ⟨rfl, rfl⟩
      rw [H1.out]
      go_wp2_with fail
      go_ret
      exact ⟨ret_b HV.out.symm, rfl⟩
  · have HV := Lib.hid (rk_bad0 (S := S) (N := N) (.inl hr1))
    have H1 := Lib.hid (inr_f (n := N) (lo := 1) (hi := 8) (by omega))
    clear hr1
    go_enter Try.func126, Try.ntmps126
    go_wp2_with fail
    refine (inRange_any _ _ _ _).mono ?_
    rintro e u ⟨rfl, rfl⟩
    rw [H1.out]
    go_wp2_with fail
    go_ret
    exact ⟨ret_b HV.out.symm, rfl⟩
set_option maxHeartbeats 2000000 in
theorem impAreRankings_any {w : World} {B : Nat} {A : Option Addr} {n c : Nat} {N : Int} {L : List (List Int)} (hl : Hid (L.length = n)) (hn : n ≤ 1099511627776) (hs : Hid (∀ x ∈ L, x.length ≤ 1099511627776)) (hr : RdSS w B A L) :
    Calls Try.prog 67 #[.slice A n c, .int .i64 N] w (fun e w' => e = .returned (.bool (arB L N)) ∧ w = w') := by
  by_cases hr1 : 1 ≤ N ∧ N ≤ 8
  · have H1 := Lib.hid (inr_t hr1.1 hr1.2)
    by_cases hbig : 20 < n
    · have HV := Lib.hid (ar_big (L := L) (N := N) (by rw [hl.out]; exact hbig))
      have i1 : (20 : Int) < (n : Int) := by omega
      go_enter Try.func67, Try.ntmps67
      go_wp2_with fail
      refine (inRange_any _ _ _ _).mono ?_
      rintro e u ⟨rfl, rfl⟩
      rw [H1.out]
      go_wp2_with fail
      go_ret
      exact ⟨ret_b HV.out.symm, rfl⟩
    · have i9 : ¬ (20 : Int) < (n : Int) := by omega
      have HR1 := Lib.hid hr1
      clear hr1
      go_enter Try.func67, Try.ntmps67
      go_wp2_with fail
      refine (inRange_any _ _ _ _).mono ?_
      rintro e u ⟨rfl, rfl⟩
      rw [H1.out]
      go_wp2_with fail
      go_loopw [17] (fun i wr => ∃ k : Nat, k ≤ n ∧ i = .int .i64 k ∧ Hid ((L.take k).all (rkB · N) = true) ∧ wr = w) (fun i _ => n - (intOf i).toNat)
      case atStart => exact ⟨0, Nat.zero_le _, rfl, Lib.hid rfl, rfl⟩
      case round =>
        obtain ⟨k, hk, rfl, ha, rfl⟩ := hrel
        by_cases hlt : k < n
        · have hkz : k < L.length := by rw [hl.out]; exact hlt
          obtain ⟨ad, Aj, cj, rfl, hab, hc, hcl, hcm, hrd⟩ := hr.at_ hkz
          have hxl := hs.out L[k] (List.getElem_mem _)
          have i0 : (0 : Int) ≤ (k : Int) := by omega
          have i1 : (k : Int) < (n : Int) := by omega
          have HY := Lib.hid (fun h => ar_snoc (N := N) ha.out hkz h)
          have HN := Lib.hid (fun h => ar_no (N := N) hkz h)
          obtain ⟨x, hx⟩ : ∃ x, x = L[k] := ⟨_, rfl⟩
          rw [← hx] at hc hcl hrd hxl HY HN
          obtain ⟨b, hbb⟩ : ∃ b, rkB x N = b := ⟨_, rfl⟩
          have HB := Lib.hid hbb
          clear hx hbb
          go_wp2_with fail
          refine (impIsRanking_any (Lib.hid rfl) hxl hrd).mono ?_
          rintro e w2 ⟨rfl, rfl⟩
          rw [HB.out]
          cases b with
          | false =>
            have HV := Lib.hid (HN.out HB.out)
            go_wp2_with fail
            go_ret
            exact ⟨ret_b HV.out.symm, rfl⟩
          | true =>
            have HP := Lib.hid (HY.out HB.out)
            go_wp2_with fail
            go_roundw
            case rel => exact ⟨k + 1, by omega, by go_num, HP, trivial⟩
            case measure => simp [intOf]; omega
        · have e : k = n := by omega
          subst e
          have HV := Lib.hid (show arB L N = true by rw [ar_end hl.out ha.out, inr_t HR1.out.1 HR1.out.2, decide_eq_true (by omega)]; rfl)
          go_wp2_with fail
          go_ret
          exact ⟨ret_b HV.out.symm, rfl⟩
  · have HV := Lib.hid (ar_range (L := L) hr1)
    have H1 := Lib.hid (inr_f (n := N) (lo := 1) (hi := 8) (by omega))
    clear hr1
    go_enter Try.func67, Try.ntmps67
    go_wp2_with fail
    refine (inRange_any _ _ _ _).mono ?_
    rintro e u ⟨rfl, rfl⟩
    rw [H1.out]
    go_wp2_with fail
    go_ret
    exact ⟨ret_b HV.out.symm, rfl⟩
end Go.Proofs.Ytjjgdeojbpcjjaa
