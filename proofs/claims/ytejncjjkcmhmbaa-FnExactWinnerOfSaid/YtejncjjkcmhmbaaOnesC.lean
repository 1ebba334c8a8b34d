/- Contract of math/bits.OnesCount16 at the sets of claims: numbers below 1024. -/
import Derived.Test.YtejncjjkcmhmbaaMg4
import Derived.Lib.Tables
namespace Go.Proofs.Ytejncjjkcmhmbaa
open Go.ChangeShapes Go.WideShapes Go.ChangeAt Go.RowKit
set_option maxRecDepth 100000
theorem ones_sum : ∀ x : Fin 1024, Lib.pop8 (((x.val / 256 : Nat)) : Int) + Lib.pop8 ((x.val % 256 : Nat) : Int) = ((lsT x.val 10).length : Nat) := by decide +kernel
theorem pop_small : ∀ x : Fin 256, 0 ≤ Lib.pop8 ((x.val : Nat) : Int) ∧ Lib.pop8 ((x.val : Nat) : Int) ≤ 8 := by decide +kernel
theorem and255 {x : Nat} (hx : x < 65536) : bits .and .u16 (x : Int) 255 = ((x % 256 : Nat) : Int) := by
  rw [show (255 : Int) = ((255 : Nat) : Int) from rfl, u16_and_nat _ _ hx (by omega), show (255 : Nat) = 2 ^ 8 - 1 from rfl, Nat.and_two_pow_sub_one_eq_mod]
theorem ones_any {w : World} {x : Nat} (hx : x < 1024) : Calls Try.prog 107 #[.int .u16 x] w (fun e w' => e = .returned (.int .i64 ((lsT x 10).length : Nat)) ∧ Below w.heap.size w w') := by
  have h1 : Lib.pop8 (((x / 256 : Nat)) : Int) + Lib.pop8 ((x % 256 : Nat) : Int) = ((lsT x 10).length : Nat) := ones_sum ⟨x, hx⟩
  have h2 : 0 ≤ Lib.pop8 ((x / 256 : Nat) : Int) ∧ Lib.pop8 ((x / 256 : Nat) : Int) ≤ 8 := pop_small ⟨x / 256, by omega⟩
  have h3 : 0 ≤ Lib.pop8 ((x % 256 : Nat) : Int) ∧ Lib.pop8 ((x % 256 : Nat) : Int) ≤ 8 := pop_small ⟨x % 256, by omega⟩
  have ha := and255 (x := x) (by omega)
  have hd : ((x / 256 : Nat) : Int) = (x : Int) / 256 := by omega
  have hm : ((x % 256 : Nat) : Int) = (x : Int) % 256 := by omega
  rw [hd] at h1 h2
  rw [hm] at h1 h3 ha
  have b0 : (0 : Int) ≤ (x : Int) / 256 := by omega
  have b1 : (x : Int) / 256 ≤ 255 := by omega
  have b2 : (0 : Int) ≤ (x : Int) % 256 := by omega
  have b3 : (x : Int) % 256 ≤ 255 := by omega
  obtain ⟨l, hl⟩ : ∃ l : Nat, l = (lsT x 10).length := ⟨_, rfl⟩
  obtain ⟨p, hp⟩ : ∃ p, p = Lib.pop8 ((x : Int) / 256) := ⟨_, rfl⟩
  obtain ⟨q, hq⟩ : ∃ q, q = Lib.pop8 ((x : Int) % 256) := ⟨_, rfl⟩
  rw [← hl, ← hp, ← hq] at h1
  rw [← hp] at h2
  rw [← hq] at h3
  rw [← hl]
  have hp' := hp.symm
  have hq' := hq.symm
  have HS := Lib.hid (show p + q = (l : Int) by omega)
  clear hl hp hq hd hm h1
  go_enter Try.func107, Try.ntmps107
  go_wp2_with fail
  go_quiet (fail)
  go_wp2_with fail
  go_ret
  exact ⟨by rw [← HS.out]; rfl, below_drewN (Below.refl _ _) _⟩
end Go.Proofs.Ytejncjjkcmhmbaa
