/- Contracts of the varint functions and of their models. No conditions but that each byte lies in 0 to 255 and the slice has at most 2^47 - 4096 elements. -/
import Derived.Test.YtdhnhhicjjcmdaaByteS
import Derived.Test.YtdhnhhicjjcmdaaVarMath
import Derived.Laws.BitsAllLaws
import Derived.Test.YtdhnhhicjjcmdaaInts
namespace Go.Proofs.Ytdhnhhicjjcmdaa
open Go.ChangeShapes Go.WideShapes Go.ChangeAt Go.RowKit
theorem and_nat (a b : Nat) (ha : a < 9223372036854775808) (hb : b < 9223372036854775808) : bits .and .i64 (a : Int) (b : Int) = ((a &&& b : Nat) : Int) := by
  have h1 : (BitVec.ofInt 64 (a : Int)).toNat = a := by rw [BitVec.ofInt_natCast, BitVec.toNat_ofNat]; exact Nat.mod_eq_of_lt (by omega)
  have h2 : (BitVec.ofInt 64 (b : Int)).toNat = b := by rw [BitVec.ofInt_natCast, BitVec.toNat_ofNat]; exact Nat.mod_eq_of_lt (by omega)
  have hx : a &&& b ≤ b := Nat.and_le_right
  show IntKind.i64.wrap ((BitVec.ofInt 64 (a : Int) &&& BitVec.ofInt 64 (b : Int)).toNat : Int) = _
  rw [BitVec.toNat_and, h1, h2, IntKind.wrap_i64]
  omega
theorem or_nat (a b : Nat) (ha : a < 9223372036854775808) (hb : b < 9223372036854775808) : bits .or .i64 (a : Int) (b : Int) = ((a ||| b : Nat) : Int) := by
  have h1 : (BitVec.ofInt 64 (a : Int)).toNat = a := by rw [BitVec.ofInt_natCast, BitVec.toNat_ofNat]; exact Nat.mod_eq_of_lt (by omega)
  have h2 : (BitVec.ofInt 64 (b : Int)).toNat = b := by rw [BitVec.ofInt_natCast, BitVec.toNat_ofNat]; exact Nat.mod_eq_of_lt (by omega)
  have hx : a ||| b < 2 ^ 63 := Nat.or_lt_two_pow (by omega) (by omega)
  show IntKind.i64.wrap ((BitVec.ofInt 64 (a : Int) ||| BitVec.ofInt 64 (b : Int)).toNat : Int) = _
  rw [BitVec.toNat_or, h1, h2, IntKind.wrap_i64]
  omega
theorem and127 (x : Int) (h0 : 0 ≤ x) (h1 : x ≤ 1000000000000000) : bits .and .i64 x 127 = x % 128 := by
  obtain ⟨n, rfl⟩ := Int.eq_ofNat_of_zero_le h0
  have := and_nat n 127 (by omega) (by omega)
  rw [show ((127 : Nat) : Int) = 127 from rfl] at this
  rw [this, show (127 : Nat) = 2 ^ 7 - 1 from rfl, Nat.and_two_pow_sub_one_eq_mod]; rfl
theorem or_add (a y i : Nat) (ha : a < 2 ^ i) (hi : i ≤ 40) (hy : y < 128) : bits .or .i64 (a : Int) ((y * 2 ^ i : Nat) : Int) = (a : Int) + (y : Int) * ((2 ^ i : Nat) : Int) := by
  have hp : 2 ^ i ≤ 2 ^ 40 := Nat.pow_le_pow_right (by omega) hi
  have hm : y * 2 ^ i ≤ 127 * 2 ^ 40 := Nat.mul_le_mul (by omega) hp
  have e40 : 2 ^ 40 = 1099511627776 := by decide
  rw [or_nat _ _ (by omega) (by omega), Nat.or_comm, ← Nat.shiftLeft_eq, ← Nat.shiftLeft_add_eq_or_of_lt ha, Nat.shiftLeft_eq]
  push_cast; omega
theorem or_step {z x : Int} {k : Nat} (hk : k < 6) (hz0 : 0 ≤ z) (hz : z < pw k) : bits .or .i64 z (x % 128 * 2 ^ (7 * k)) = z + x % 128 * pw k := by
  obtain ⟨a, rfl⟩ := Int.eq_ofNat_of_zero_le hz0
  obtain ⟨y, hy⟩ := Int.eq_ofNat_of_zero_le (show 0 ≤ x % 128 by omega)
  rw [hy]
  rw [pw_two] at hz ⊢
  have e : (2 : Int) ^ (7 * k) = ((2 ^ (7 * k) : Nat) : Int) := by push_cast; rfl
  rw [e] at hz ⊢
  have := or_add a y (7 * k) (by omega) (by omega) (by omega)
  rw [← this]
  push_cast; rfl
/-- What the four facts of one round are, in the walk's own spelling. -/
theorem round_facts {z x : Int} {k : Nat} (hk : k < 6) (hz : z < pw k) :
    wrap64 (x % 128 * 2 ^ (7 * k)) = x % 128 * 2 ^ (7 * k) ∧ 0 ≤ x % 128 * pw k ∧ x % 128 * pw k ≤ 4363686772736 ∧ z + x % 128 * pw k < pw (k + 1) := by
  have hp := pw_pos k
  have hl := pw_le k (by omega)
  have h1 := mul_lo (show 0 ≤ x % 128 by omega) (show 0 ≤ pw k by omega)
  have h2 := mul_hi (show x % 128 ≤ 127 by omega) (show 0 ≤ pw k by omega)
  have hs := pw_succ k
  rw [← pw_two]
  exact ⟨IntWalk.wrap64_in _ ⟨by omega, by omega⟩, h1, by omega, by omega⟩
theorem or_zero (z : Int) (hz0 : 0 ≤ z) (h : z < 9223372036854775808) : bits .or .i64 z 0 = z := by
  obtain ⟨a, rfl⟩ := Int.eq_ofNat_of_zero_le hz0
  have := or_nat a 0 (by omega) (by omega)
  simpa using this
theorem add_add_ (a : Addr) (i j : Nat) : (a.add i).add j = a.add (i + j) := by
  unfold Addr.add
  by_cases hi : i = 0 <;> by_cases hj : j = 0 <;> simp [hi, hj, Nat.add_assoc]
theorem and127b (x : Int) (h0 : 0 ≤ x) (h1 : x ≤ 255) : bits .and .u8 x 127 = x % 128 := by
  obtain ⟨n, rfl⟩ := Int.eq_ofNat_of_zero_le h0
  have := u8_and_nat n 127 (by omega) (by omega)
  rw [show ((127 : Nat) : Int) = 127 from rfl] at this
  rw [this, show (127 : Nat) = 2 ^ 7 - 1 from rfl, Nat.and_two_pow_sub_one_eq_mod]; rfl
theorem bits_and0b : bits .and .u8 0 127 = 0 := by decide
theorem bits_and0 : bits .and .i64 0 127 = 0 := by decide
theorem bits_or0 : bits .or .i64 0 0 = 0 := by decide
theorem wrap_0 : wrap64 0 = 0 := IntWalk.wrap64_in 0 ⟨by omega, by omega⟩
/-- What reading a varint at o answers. -/
def rvVal (o : Int) : Option (Int × Nat) → Value
  | none => .tuple #[.int .i64 0, .int .i64 0, .bool false]
  | some (n, j) => .tuple #[.int .i64 n, .int .i64 (o + (j : Int)), .bool true]
theorem rvVal_none {o : Int} {r : Option (Int × Nat)} (h : r = none) : Ending.returned (.tuple #[.int .i64 0, .int .i64 0, .bool false]) = .returned (rvVal o r) := by rw [h]; rfl
theorem rvVal_some {o n m : Int} {j : Nat} {r : Option (Int × Nat)} (h : r = some (n, j)) (e : m = o + (j : Int)) : Ending.returned (.tuple #[.int .i64 n, .int .i64 m, .bool true]) = .returned (rvVal o r) := by rw [h, e]; rfl
end Go.Proofs.Ytdhnhhicjjcmdaa
