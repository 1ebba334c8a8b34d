/- Contracts of FirstChoice, the model's and the code's (chapter 24). Condition: the slices have at most 2^40 elements. -/
import Derived.Test.YteffhbboeacogaaOrdA
import Derived.Test.YteffhbboeacogaaInAllC
namespace Go.Proofs.Yteffhbboeacogaa
open Go.ChangeShapes Go.WideShapes Go.ChangeAt Go.RowKit
set_option maxRecDepth 100000
def fchI (L W : List Int) : Int := (W.find? fun m => L.contains m).getD 0
theorem fch_none {L W : List Int} (h : ∀ m ∈ W, L.contains m = false) : fchI L W = 0 := by
  unfold fchI
  rw [List.find?_eq_none.2 (fun m hm => by rw [h m hm]; simp)]
  rfl
theorem fch_at {L W : List Int} {k : Nat} (hk : k < W.length) (h : ∀ m ∈ W.take k, L.contains m = false) (hc : L.contains W[k] = true) : fchI L W = W[k] := by
  unfold fchI
  have e : W = W.take k ++ W[k] :: W.drop (k + 1) := by rw [List.getElem_cons_drop, List.take_append_drop]
  have : W.find? (fun m => L.contains m) = some W[k] := by
    rw [List.find?_eq_some_iff_append]
    exact ⟨hc, W.take k, W.drop (k + 1), e, fun a ha => by rw [h a ha]; rfl⟩
  rw [this]
  rfl
theorem fch_succ {L W : List Int} {k : Nat} (hk : k < W.length) (h : ∀ m ∈ W.take k, L.contains m = false) (hc : L.contains W[k] = false) : ∀ m ∈ W.take (k + 1), L.contains m = false := by
  intro m hm
  rw [List.take_succ_eq_append_getElem hk] at hm
  rcases List.mem_append.1 hm with h1 | h1
  · exact h m h1
  · rw [List.mem_singleton.1 h1]; exact hc
section
variable {w : World} {A A' : Option Addr} {n c n' c' : Nat} {L W : List Int}
set_option maxHeartbeats 1000000 in
theorem specFirstChoice_any (hl : Hid (L.length = n)) (hn : n ≤ 1099511627776) (hr : Rd w w.heap.size A (ivs L)) (hl' : Hid (W.length = n')) (hn' : n' ≤ 1099511627776) (hr' : Rd w w.heap.size A' (ivs W)) :
    Calls Try.prog 39 #[.slice A n c, .slice A' n' c'] w (fun e w' => e = .returned (.int .i64 (fchI L W)) ∧ Below w.heap.size w w') := by
  go_enter Try.func39, Try.ntmps39
  go_wp2_with fail
  go_loopw [5] (fun i wr => ∃ k : Nat, k ≤ n' ∧ i = .int .i64 k ∧ wr = w ∧ Hid (∀ m ∈ W.take k, L.contains m = false)) (fun i _ => n' - (intOf i).toNat)
  case atStart => exact ⟨0, Nat.zero_le _, rfl, rfl, Lib.hid (fun m hm => by simp at hm)⟩
  case round =>
    obtain ⟨k, hk, rfl, rfl, hno⟩ := hrel
    by_cases hlt : k < n'
    · have hkz : k < W.length := by rw [hl'.out]; exact hlt
      obtain ⟨ad, rfl, hab, hc⟩ := ivs_at hr' hkz
      have i0 : (0 : Int) ≤ (k : Int) := by omega
      have HA := Lib.hid (fun h => fch_at hkz hno.out h)
      have HS := Lib.hid (fun h => fch_succ hkz hno.out h)
      obtain ⟨x, hx⟩ : ∃ x, x = W[k] := ⟨_, rfl⟩
      rw [← hx] at hc HA HS
      clear hx
      cases q : L.contains x with
      | true =>
        have HV := Lib.hid (HA.out q)
        have HQ := Lib.hid q
        clear q
        go_wp2_with fail
        refine (l4h_any hl hn hr).mono ?_
        rintro e u ⟨rfl, rfl⟩
        rw [HQ.out]
        go_wp2_with fail
        go_ret
        exact ⟨ret_i HV.out.symm, Below.refl _ _⟩
      | false =>
        have HN := Lib.hid (HS.out q)
        have HQ := Lib.hid q
        clear q
        go_wp2_with fail
        refine (l4h_any hl hn hr).mono ?_
        rintro e u ⟨rfl, rfl⟩
        rw [HQ.out]
        go_wp2_with fail
        go_roundw
        case rel => exact ⟨k + 1, by omega, by go_num, trivial, HN⟩
        case measure => simp [intOf]; omega
    · have e : k = n' := by omega
      subst e
      have HV := Lib.hid (fch_none (L := L) (W := W) (by have := hno.out; rwa [List.take_of_length_le (by rw [hl'.out]; exact Nat.le_refl _)] at this))
      go_wp2_with fail
      go_ret
      exact ⟨ret_i HV.out.symm, Below.refl _ _⟩
set_option maxHeartbeats 1000000 in
theorem impFirstChoice_any (hl : Hid (L.length = n)) (hn : n ≤ 1099511627776) (hr : Rd w w.heap.size A (ivs L)) (hl' : Hid (W.length = n')) (hn' : n' ≤ 1099511627776) (hr' : Rd w w.heap.size A' (ivs W)) :
    Calls Try.prog 40 #[.slice A n c, .slice A' n' c'] w (fun e w' => e = .returned (.int .i64 (fchI L W)) ∧ Below w.heap.size w w') := by
  go_enter Try.func40, Try.ntmps40
  go_wp2_with fail
  go_loopw [9] (fun i wr => ∃ k : Nat, k ≤ n' ∧ i = .int .i64 k ∧ wr = w ∧ Hid (∀ m ∈ W.take k, L.contains m = false)) (fun i _ => n' - (intOf i).toNat)
  case atStart => exact ⟨0, Nat.zero_le _, rfl, rfl, Lib.hid (fun m hm => by simp at hm)⟩
  case round =>
    obtain ⟨k, hk, rfl, rfl, hno⟩ := hrel
    by_cases hlt : k < n'
    · have hkz : k < W.length := by rw [hl'.out]; exact hlt
      obtain ⟨ad, rfl, hab, hc⟩ := ivs_at hr' hkz
      have i0 : (0 : Int) ≤ (k : Int) := by omega
      have HA := Lib.hid (fun h => fch_at hkz hno.out h)
      have HS := Lib.hid (fun h => fch_succ hkz hno.out h)
      obtain ⟨x, hx⟩ : ∃ x, x = W[k] := ⟨_, rfl⟩
      rw [← hx] at hc HA HS
      clear hx
      cases q : L.contains x with
      | true =>
        have HV := Lib.hid (HA.out q)
        have HQ := Lib.hid q
        clear q
        go_wp2_with fail
        refine (contains_any' hl hn hr).mono ?_
        rintro e u ⟨rfl, rfl⟩
        rw [HQ.out]
        go_wp2_with fail
        go_ret
        exact ⟨ret_i HV.out.symm, Below.refl _ _⟩
      | false =>
        have HN := Lib.hid (HS.out q)
        have HQ := Lib.hid q
        clear q
        go_wp2_with fail
        refine (contains_any' hl hn hr).mono ?_
        rintro e u ⟨rfl, rfl⟩
        rw [HQ.out]
        go_wp2_with fail
        go_roundw
        case rel => exact ⟨k + 1, by omega, by go_num, trivial, HN⟩
        case measure => simp [intOf]; omega
    · have e : k = n' := by omega
      subst e
      have HV := Lib.hid (fch_none (L := L) (W := W) (by have := hno.out; rwa [List.take_of_length_le (by rw [hl'.out]; exact Nat.le_refl _)] at this))
      go_wp2_with fail
      go_ret
      exact ⟨ret_i HV.out.symm, Below.refl _ _⟩
end
end Go.Proofs.Yteffhbboeacogaa
