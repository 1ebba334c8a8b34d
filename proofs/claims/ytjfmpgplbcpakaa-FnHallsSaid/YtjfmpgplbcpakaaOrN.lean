/- Contract of cmp.Or at int. Condition: the slice has at most 2^40 elements. -/
import Derived.Test.YtjfmpgplbcpakaaIntS
import Derived.Test.YtjfmpgplbcpakaaInts
import Derived.Test.YtjfmpgplbcpakaaGraph
namespace Go.Proofs.Ytjfmpgplbcpakaa
open Go.ChangeShapes Go.WideShapes Go.ChangeAt Go.RowKit
set_option maxRecDepth 100000
/-- The first that is not zero. -/
def orI : List Int → Int
  | [] => 0
  | x :: l => if x = 0 then orI l else x
theorem orI_cons (x : Int) (l : List Int) : orI (x :: l) = if x = 0 then orI l else x := rfl
set_option maxHeartbeats 2000000 in
theorem or_n {w : World} {A : Option Addr} {n c : Nat} {X : List Int} (hl : Hid (X.length = n)) (hn : n ≤ 1099511627776) (hr : Rd w w.heap.size A (ivs X)) :
    Calls Try.prog 16 #[.slice A n c] w (fun e w' => e = .returned (.int .i64 (orI X)) ∧ w = w') := by
  go_enter Try.func16, Try.ntmps16
  go_wp2_with fail
  go_loopw [8] (fun i wr => ∃ k : Nat, k ≤ n ∧ i = .int .i64 k ∧ Hid (orI X = orI (X.drop k)) ∧ wr = w) (fun i _ => n - (intOf i).toNat)
  case atStart => exact ⟨0, Nat.zero_le _, rfl, Lib.hid (by rw [List.drop_zero]), rfl⟩
  case round =>
    obtain ⟨k, hk, rfl, ho, rfl⟩ := hrel
    by_cases hlt : k < n
    · have hkz : k < X.length := by rw [hl.out]; exact hlt
      obtain ⟨ad, rfl, hab, hc⟩ := ivs_at hr hkz
      have HD := Lib.hid (List.drop_eq_getElem_cons hkz)
      obtain ⟨x, hx⟩ : ∃ x, x = X[k] := ⟨_, rfl⟩
      rw [← hx] at hc HD
      have i0 : (0 : Int) ≤ (k : Int) := by omega
      have i1 : (k : Int) < (n : Int) := by omega
      clear hx
      by_cases hz : x = 0
      · have HV := Lib.hid (show orI X = orI (X.drop (k + 1)) by rw [ho.out, HD.out, orI_cons, if_pos hz])
        subst hz
        go_wp2_with fail
        go_roundw
        case rel => exact ⟨k + 1, by omega, by go_num, HV, trivial⟩
        case measure => simp [intOf]; omega
      · have HV := Lib.hid (show orI X = x by rw [ho.out, HD.out, orI_cons, if_neg hz])
        have hz' : (x != 0) = true := by simpa using hz
        go_wp2_with fail
        go_ret
        exact ⟨ret_i HV.out.symm, rfl⟩
    · have e : k = n := by omega
      subst e
      have HV := Lib.hid (show orI X = 0 by rw [ho.out, List.drop_of_length_le (by rw [hl.out]; exact Nat.le_refl _)]; rfl)
      go_wp2_with fail
      go_ret
      exact ⟨ret_i HV.out.symm, rfl⟩
end Go.Proofs.Ytjfmpgplbcpakaa
