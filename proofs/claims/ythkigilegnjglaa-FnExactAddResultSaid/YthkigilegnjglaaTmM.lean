/- Contracts of the models FindTeam, HaveMet, l19Count. Condition: the slices have at most 2^40 elements. -/
import Derived.Test.YthkigilegnjglaaMg12
import Derived.Test.YthkigilegnjglaaWhoM3
namespace Go.Proofs.Ythkigilegnjglaa
open Go.ChangeShapes Go.WideShapes Go.ChangeAt Go.RowKit
set_option maxRecDepth 100000
def NoT (X : List Tm) (a : Int) (k : Nat) : Prop := ∀ j (hj : j < X.length), j < k → X[j].id ≠ a
theorem NoT.succ {X : List Tm} {a : Int} {k : Nat} (h : NoT X a k) (hk : k < X.length) (h2 : X[k].id ≠ a) : NoT X a (k + 1) := fun j hj hjk => by
  by_cases e : j = k
  · subst e; exact h2
  · exact h j hj (by omega)
theorem NoT.none {X : List Tm} {a : Int} (h : NoT X a X.length) : fndI X a = -1 := fndI_none (fndO_no fun x hx => by
  obtain ⟨j, hj, rfl⟩ := List.getElem_of_mem hx
  exact h j hj hj)
theorem NoT.some {X : List Tm} {a : Int} {k : Nat} (h : NoT X a k) (hk : k < X.length) (he : X[k].id = a) : fndI X a = k := fndI_some (by
  rw [← he]
  exact fndO_at hk (fun j hj hjk => by rw [he]; exact h j hj hjk))
theorem specFindTeam_any {w : World} {B : Nat} {A : Option Addr} {n c : Nat} {a : Int} {X : List Tm} (hl : Hid (X.length = n)) (hn : n ≤ 1099511627776) (hr : RdT w B A X) :
    Calls Try.prog 72 #[.slice A n c, .int .i64 a] w (fun e w' => e = .returned (.int .i64 (fndI X a)) ∧ w = w') := by
  go_enter Try.func72, Try.ntmps72
  go_wp2_with fail
  go_loopw [5] (fun i wr => ∃ k : Nat, k ≤ n ∧ i = .int .i64 k ∧ wr = w ∧ Hid (NoT X a k)) (fun i _ => n - (intOf i).toNat)
  case atStart => exact ⟨0, Nat.zero_le _, rfl, rfl, Lib.hid (fun j _ hj => absurd hj (by omega))⟩
  case round =>
    obtain ⟨k, hk, rfl, rfl, hno⟩ := hrel
    by_cases hlt : k < n
    · have hkz : k < X.length := by rw [hl.out]; exact hlt
      obtain ⟨ad, p, rfl, hp, hab, Aj, cj, c0, _⟩ := hr.at_ hkz
      have i0 : (0 : Int) ≤ (k : Int) := by omega
      have i1 : (k : Int) < (n : Int) := by omega
      by_cases h1 : X[k].id = a
      · have HV := Lib.hid (hno.out.some hkz h1)
        rw [h1] at c0
        clear h1
        go_wp2_with fail
        go_ret
        exact ⟨ret_i HV.out.symm, rfl⟩
      · have HN := Lib.hid (hno.out.succ hkz h1)
        obtain ⟨z, hz⟩ : ∃ z, z = X[k].id := ⟨_, rfl⟩
        rw [← hz] at c0 h1
        have h1' : (z == a) = false := by simpa using h1
        clear hz
        go_wp2_with fail
        go_roundw
        case rel => exact ⟨k + 1, by omega, by go_num, trivial, HN⟩
        case measure => simp [intOf]; omega
    · have e : k = n := by omega
      subst e
      have HV := Lib.hid (NoT.none (a := a) (X := X) (by rw [hl.out]; exact hno.out))
      go_wp2_with fail
      go_ret
      exact ⟨ret_i HV.out.symm, rfl⟩
set_option maxHeartbeats 1000000 in
theorem specHaveMet_any {w : World} {A : Option Addr} {N c : Nat} {X : List Tm} {a b : Int} (hl : Hid (X.length = N)) (hN : N ≤ 1000000000000) (hs : Hid (∀ x ∈ X, x.met.length ≤ 1048576)) (hr : RdT w w.heap.size A X) :
    Calls Try.prog 80 #[.slice A N c, .int .i64 a, .int .i64 b] w (fun e w' => e = .returned (.bool (hmB X a b)) ∧ w = w') := by
  go_enter Try.func80, Try.ntmps80
  go_wp2_with fail
  refine (specFindTeam_any hl (by omega) hr).mono ?_
  rintro e w1 ⟨rfl, rfl⟩
  cases hf : fndO X a with
  | none =>
    have HV := Lib.hid (hm_none (b := b) hf)
    rw [fndI_none hf]
    clear hf
    go_wp2_with fail
    go_ret
    exact ⟨ret_b HV.out.symm, rfl⟩
  | some v =>
    have HV := Lib.hid (hm_some (b := b) hf)
    rw [fndI_some hf]
    obtain ⟨i, rfl, hi, _, _⟩ := fndO_some hf
    have hiN : i < N := by rw [← hl.out]; exact hi
    obtain ⟨ad, p, rfl, hp, hab, Aj, cj, c0, c1, c2, c3, c4, c5, b1, b2, b3⟩ := hr.at_ hi
    have hml := hs.out _ (List.getElem_mem hi)
    have hget : X.getD ((i : Int)).toNat tmD = X[i] := by simp [List.getD, List.getElem?_eq_getElem hi]
    rw [hget] at HV
    obtain ⟨x, hx⟩ : ∃ x, x = X[i] := ⟨_, rfl⟩
    rw [← hx] at c0 c1 c2 c3 c4 c5 b1 b3 hml HV
    have i0 : (0 : Int) ≤ (i : Int) := by omega
    have i1 : (i : Int) < (N : Int) := by omega
    clear hf hx hget
    go_wp2_with fail
    refine (l4Has_any (Lib.hid rfl) (by omega) b3).mono ?_
    rintro e w2 ⟨rfl, rfl⟩
    go_wp2_with fail
    go_ret
    exact ⟨ret_b (by rw [HV.out]; simp), rfl⟩
end Go.Proofs.Ythkigilegnjglaa
