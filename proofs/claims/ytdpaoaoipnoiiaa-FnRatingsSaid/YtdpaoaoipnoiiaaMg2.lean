/- Contracts of the smallest functions of chapter 1 (InRange, Min, Max, CeilDiv, Mod) and of their models: each returns the integer or truth value that a plain Lean function names, for every input. No conditions. -/
import Derived.Test.YtdpaoaoipnoiiaaRows
import Derived.WalkKit
import Derived.ProofKit
import Derived.OpenShut
import Derived.LoopN
import Derived.Handy
import Derived.Lib.Hide
import Derived.IntWalk
import Derived.Test.YtdpaoaoipnoiiaaMg0
import Derived.Test.YtdpaoaoipnoiiaaMg1
import Derived.Laws.BitsAllLaws
import Derived.Maps.AppendAt
namespace Go.Proofs.Ytdpaoaoipnoiiaa
open Go.ChangeShapes Go.WideShapes Go.ChangeAt Go.RowKit
def mn (a b : Int) : Int := if b < a then b else a
def mx (a b : Int) : Int := if b > a then b else a
theorem mn_t {a b : Int} (h : b < a) : mn a b = b := if_pos h
theorem mn_f {a b : Int} (h : ¬ b < a) : mn a b = a := if_neg h
theorem mx_t {a b : Int} (h : b < a) : mx a b = a := if_neg (by omega)
theorem mx_f {a b : Int} (h : ¬ b < a) : mx a b = b := by unfold mx; split <;> omega
theorem extreme_min (a b : Int) (w : World) (B : Nat) (hc : w.cell? ⟨B, 0, none⟩ = some (.int .i64 b)) :
    Calls Try.prog 82 #[.bool true, .int .i64 a, .slice (some ⟨B, 0, none⟩) 1 1] w fun e w' => e = .returned (.int .i64 (mn a b)) ∧ w = w' := by
  by_cases h : b < a
  all_goals
    first | (have hd : decide (b < a) = true := by simpa using h) | (have hd : decide (b < a) = false := by simpa using h)
    first | (have H := mn_t h) | (have H := mn_f h)
    have HH := Lib.hid H
    clear H
    go_enter Try.func82, Try.ntmps82
    go_wp2
    refine wp_loop_rounds 2 ?_
    rw [rounds_succ]
    go_wp2
    rw [rounds_succ]
    go_wp2
    go_ret
    exact ⟨ret_i (HH.out).symm, rfl⟩
theorem extreme_max (a b : Int) (w : World) (B : Nat) (hc : w.cell? ⟨B, 0, none⟩ = some (.int .i64 b)) :
    Calls Try.prog 82 #[.bool false, .int .i64 a, .slice (some ⟨B, 0, none⟩) 1 1] w fun e w' => e = .returned (.int .i64 (mx a b)) ∧ w = w' := by
  by_cases h : b < a
  all_goals
    first | (have hd : decide (b < a) = true := by simpa using h) | (have hd : decide (b < a) = false := by simpa using h)
    first | (have H := mx_t h) | (have H := mx_f h)
    have HH := Lib.hid H
    clear H
    go_enter Try.func82, Try.ntmps82
    go_wp2
    refine wp_loop_rounds 2 ?_
    rw [rounds_succ]
    go_wp2
    rw [rounds_succ]
    go_wp2
    go_ret
    exact ⟨ret_i (HH.out).symm, rfl⟩
theorem min_any (a b : Int) (w : World) :
    Calls Try.prog 74 #[.int .i64 a, .int .i64 b] w fun e w' => e = .returned (.int .i64 (mn a b)) ∧ w.alloc (Obj.cells #[Value.int IntKind.i64 b] 3) = w' := by
  go_enter Try.func74, Try.ntmps74
  go_wp2_with (go_at_call 82; refine (extreme_min a b _ w.heap.size (by simp)).mono ?_; rintro e w' ⟨rfl, rfl⟩)
  go_ret
  exact ⟨rfl, rfl⟩
theorem max_any (a b : Int) (w : World) :
    Calls Try.prog 73 #[.int .i64 a, .int .i64 b] w fun e w' => e = .returned (.int .i64 (mx a b)) ∧ w.alloc (Obj.cells #[Value.int IntKind.i64 b] 3) = w' := by
  go_enter Try.func73, Try.ntmps73
  go_wp2_with (go_at_call 82; refine (extreme_max a b _ w.heap.size (by simp)).mono ?_; rintro e w' ⟨rfl, rfl⟩)
  go_ret
  exact ⟨rfl, rfl⟩
theorem smin_any (a b : Int) (w : World) :
    Calls Try.prog 72 #[.int .i64 a, .int .i64 b] w fun e w' => e = .returned (.int .i64 (mn a b)) ∧ w = w' := by
  by_cases h : b < a
  all_goals
    first | (have H := mn_t h) | (have H := mn_f h)
    have HH := Lib.hid H
    clear H
    go_enter Try.func72, Try.ntmps72
    go_wp2
    go_ret
    exact ⟨ret_i (HH.out).symm, rfl⟩
theorem smax_any (a b : Int) (w : World) :
    Calls Try.prog 71 #[.int .i64 a, .int .i64 b] w fun e w' => e = .returned (.int .i64 (mx a b)) ∧ w = w' := by
  rcases Int.lt_trichotomy a b with h | h | h
  all_goals
    first | (have H : mx a b = a := by unfold mx; split <;> omega) | (have H : mx a b = b := by unfold mx; split <;> omega)
    have HH := Lib.hid H
    clear H
    have h1 : a < b ∨ b ≤ a := by omega
    clear h
    rcases h1 with h1 | h1
    all_goals
      go_enter Try.func71, Try.ntmps71
      go_wp2
      go_ret
      exact ⟨ret_i (by have := HH.out; unfold mx at this ⊢; split <;> omega), rfl⟩
def inr (n lo hi : Int) : Bool := decide (lo ≤ n) && decide (n ≤ hi)
theorem inr_t {n lo hi : Int} (h1 : lo ≤ n) (h2 : n ≤ hi) : inr n lo hi = true := by simp [inr, h1, h2]
theorem inr_f {n lo hi : Int} (h : n < lo ∨ hi < n) : inr n lo hi = false := by
  rcases h with h | h <;> simp [inr] <;> omega
theorem inRange_any (n lo hi : Int) (w : World) :
    Calls Try.prog 67 #[.int .i64 n, .int .i64 lo, .int .i64 hi] w fun e w' => e = .returned (.bool (inr n lo hi)) ∧ w = w' := by
  by_cases h1 : lo ≤ n
  · have d1 : decide (lo ≤ n) = true := by simpa using h1
    go_enter Try.func67, Try.ntmps67
    go_wp2
    all_goals go_ret
    all_goals exact ⟨ret_b (by simp [inr, h1]), rfl⟩
  · have d1 : decide (lo ≤ n) = false := by simpa using h1
    go_enter Try.func67, Try.ntmps67
    go_wp2
    all_goals go_ret
    all_goals exact ⟨ret_b (by simp [inr]; omega), rfl⟩
theorem l1In_any (n lo hi : Int) (w : World) :
    Calls Try.prog 70 #[.int .i64 n, .int .i64 lo, .int .i64 hi] w fun e w' => e = .returned (.bool (inr n lo hi)) ∧ w = w' := by
  by_cases h1 : lo ≤ n
  · have d1 : decide (lo ≤ n) = true := by simpa using h1
    go_enter Try.func70, Try.ntmps70
    go_wp2
    all_goals go_ret
    all_goals exact ⟨ret_b (by simp [inr, h1]), rfl⟩
  · have d1 : decide (lo ≤ n) = false := by simpa using h1
    go_enter Try.func70, Try.ntmps70
    go_wp2
    all_goals go_ret
    all_goals exact ⟨ret_b (by simp [inr]; omega), rfl⟩
def cdiv (a b : Int) : Int := if inr a 0 1000000000000 && inr b 1 1000000000000 then (a + b - 1) / b else 0
def md (p q : Int) : Int := if inr q 1 1000000000000 then p % q else 0
theorem tmod_fix {p q : Int} (hq : 0 < q) : (p.tmod q < 0 → p.tmod q + q = p % q) ∧ (0 ≤ p.tmod q → p.tmod q = p % q) := by
  have h1 := Int.emod_nonneg p (show q ≠ 0 by omega)
  have h2 := Int.emod_lt_of_pos p hq
  rw [Int.tmod_eq_emod]
  split <;> constructor <;> intro h <;> omega
theorem smod_eq {p q : Int} (e2 : inr q 1 1000000000000 = true) (hq : 0 < q) : (p.tmod q + q) % q = md p q := by
  obtain ⟨f1, f2⟩ := tmod_fix (p := p) hq
  rw [Int.add_emod_right]
  simp only [md, e2, if_true]
  by_cases h : p.tmod q < 0
  · rw [← f1 h, ← Int.add_emod_right (p.tmod q) q]
    have := f1 h
    rw [this, Int.emod_emod]
  · rw [f2 (by omega), Int.emod_emod]
end Go.Proofs.Ytdpaoaoipnoiiaa

/- Contracts of the varint functions and of their models. No conditions but that each byte lies in 0 to 255 and the slice has at most 2^47 - 4096 elements. -/
namespace Go.Proofs.Ytdpaoaoipnoiiaa
open Go.ChangeShapes Go.WideShapes Go.ChangeAt Go.RowKit
theorem and_nat (a b : Nat) (ha : a < 9223372036854775808) (hb : b < 9223372036854775808) : bits .and .i64 (a : Int) (b : Int) = ((a &&& b : Nat) : Int) := by
  have h1 : (BitVec.ofInt 64 (a : Int)).toNat = a := by rw [BitVec.ofInt_natCast, BitVec.toNat_ofNat]; exact Nat.mod_eq_of_lt (by omega)
  have h2 : (BitVec.ofInt 64 (b : Int)).toNat = b := by rw [BitVec.ofInt_natCast, BitVec.toNat_ofNat]; exact Nat.mod_eq_of_lt (by omega)
  have hx : a &&& b ≤ b := Nat.and_le_right
  show IntKind.i64.wrap ((BitVec.ofInt 64 (a : Int) &&& BitVec.ofInt 64 (b : Int)).toNat : Int) = _
  rw [BitVec.toNat_and, h1, h2, IntKind.wrap_i64]
  omega
theorem or_nat (a b : Nat) (ha : a < 9223372036854775808) (hb : b < 9223372036854775808) : bits .or .i64 (a : Int) (b : Int) = ((a ||| b : Nat) : Int) := by
  have h1 : (BitVec.ofInt 64 (a : Int)).toNat = a := by rw [BitVec.ofInt_natCast, BitVec.toNat_ofNat]; exact Nat.mod_eq_of_lt (by omega)
  have h2 : (BitVec.ofInt 64 (b : Int)).toNat = b := by rw [BitVec.ofInt_natCast, BitVec.toNat_ofNat]; exact Nat.mod_eq_of_lt (by omega)
  have hx : a ||| b < 2 ^ 63 := Nat.or_lt_two_pow (by omega) (by omega)
  show IntKind.i64.wrap ((BitVec.ofInt 64 (a : Int) ||| BitVec.ofInt 64 (b : Int)).toNat : Int) = _
  rw [BitVec.toNat_or, h1, h2, IntKind.wrap_i64]
  omega
theorem and127 (x : Int) (h0 : 0 ≤ x) (h1 : x ≤ 1000000000000000) : bits .and .i64 x 127 = x % 128 := by
  obtain ⟨n, rfl⟩ := Int.eq_ofNat_of_zero_le h0
  have := and_nat n 127 (by omega) (by omega)
  rw [show ((127 : Nat) : Int) = 127 from rfl] at this
  rw [this, show (127 : Nat) = 2 ^ 7 - 1 from rfl, Nat.and_two_pow_sub_one_eq_mod]; rfl
theorem or_add (a y i : Nat) (ha : a < 2 ^ i) (hi : i ≤ 40) (hy : y < 128) : bits .or .i64 (a : Int) ((y * 2 ^ i : Nat) : Int) = (a : Int) + (y : Int) * ((2 ^ i : Nat) : Int) := by
  have hp : 2 ^ i ≤ 2 ^ 40 := Nat.pow_le_pow_right (by omega) hi
  have hm : y * 2 ^ i ≤ 127 * 2 ^ 40 := Nat.mul_le_mul (by omega) hp
  have e40 : 2 ^ 40 = 1099511627776 := by decide
  rw [or_nat _ _ (by omega) (by omega), Nat.or_comm, ← Nat.shiftLeft_eq, ← Nat.shiftLeft_add_eq_or_of_lt ha, Nat.shiftLeft_eq]
  push_cast; omega
theorem or_step {z x : Int} {k : Nat} (hk : k < 6) (hz0 : 0 ≤ z) (hz : z < pw k) : bits .or .i64 z (x % 128 * 2 ^ (7 * k)) = z + x % 128 * pw k := by
  obtain ⟨a, rfl⟩ := Int.eq_ofNat_of_zero_le hz0
  obtain ⟨y, hy⟩ := Int.eq_ofNat_of_zero_le (show 0 ≤ x % 128 by omega)
  rw [hy]
  rw [pw_two] at hz ⊢
  have e : (2 : Int) ^ (7 * k) = ((2 ^ (7 * k) : Nat) : Int) := by push_cast; rfl
  rw [e] at hz ⊢
  have := or_add a y (7 * k) (by omega) (by omega) (by omega)
  rw [← this]
  push_cast; rfl
/-- What the four facts of one round are, in the walk's own spelling. -/
theorem round_facts {z x : Int} {k : Nat} (hk : k < 6) (hz : z < pw k) :
    wrap64 (x % 128 * 2 ^ (7 * k)) = x % 128 * 2 ^ (7 * k) ∧ 0 ≤ x % 128 * pw k ∧ x % 128 * pw k ≤ 4363686772736 ∧ z + x % 128 * pw k < pw (k + 1) := by
  have hp := pw_pos k
  have hl := pw_le k (by omega)
  have h1 := mul_lo (show 0 ≤ x % 128 by omega) (show 0 ≤ pw k by omega)
  have h2 := mul_hi (show x % 128 ≤ 127 by omega) (show 0 ≤ pw k by omega)
  have hs := pw_succ k
  rw [← pw_two]
  exact ⟨IntWalk.wrap64_in _ ⟨by omega, by omega⟩, h1, by omega, by omega⟩
theorem or_zero (z : Int) (hz0 : 0 ≤ z) (h : z < 9223372036854775808) : bits .or .i64 z 0 = z := by
  obtain ⟨a, rfl⟩ := Int.eq_ofNat_of_zero_le hz0
  have := or_nat a 0 (by omega) (by omega)
  simpa using this
theorem add_add_ (a : Addr) (i j : Nat) : (a.add i).add j = a.add (i + j) := by
  unfold Addr.add
  by_cases hi : i = 0 <;> by_cases hj : j = 0 <;> simp [hi, hj, Nat.add_assoc]
theorem and127b (x : Int) (h0 : 0 ≤ x) (h1 : x ≤ 255) : bits .and .u8 x 127 = x % 128 := by
  obtain ⟨n, rfl⟩ := Int.eq_ofNat_of_zero_le h0
  have := u8_and_nat n 127 (by omega) (by omega)
  rw [show ((127 : Nat) : Int) = 127 from rfl] at this
  rw [this, show (127 : Nat) = 2 ^ 7 - 1 from rfl, Nat.and_two_pow_sub_one_eq_mod]; rfl
theorem bits_and0b : bits .and .u8 0 127 = 0 := by decide
theorem bits_and0 : bits .and .i64 0 127 = 0 := by decide
theorem bits_or0 : bits .or .i64 0 0 = 0 := by decide
theorem wrap_0 : wrap64 0 = 0 := IntWalk.wrap64_in 0 ⟨by omega, by omega⟩
/-- What reading a varint at o answers. -/
def rvVal (o : Int) : Option (Int × Nat) → Value
  | none => .tuple #[.int .i64 0, .int .i64 0, .bool false]
  | some (n, j) => .tuple #[.int .i64 n, .int .i64 (o + (j : Int)), .bool true]
theorem rvVal_none {o : Int} {r : Option (Int × Nat)} (h : r = none) : Ending.returned (.tuple #[.int .i64 0, .int .i64 0, .bool false]) = .returned (rvVal o r) := by rw [h]; rfl
theorem rvVal_some {o n m : Int} {j : Nat} {r : Option (Int × Nat)} (h : r = some (n, j)) (e : m = o + (j : Int)) : Ending.returned (.tuple #[.int .i64 n, .int .i64 m, .bool true]) = .returned (rvVal o r) := by rw [h, e]; rfl
end Go.Proofs.Ytdpaoaoipnoiiaa

/- One law of append for the words of XWords, over any program: the appended slice may be nil; the row stays the call's own. No conditions but the machine's bound on bytes. -/
namespace Go.Proofs.Ytdpaoaoipnoiiaa
open Go.ChangeShapes Go.WideShapes Go.ChangeAt Go.RowKit
section
variable {P : Program} {w : World}
theorem run_app_nil (t ty e : TypeId) (i : TypeInfo) (ht : P.underlying t = some (.slice e)) (hi : P.info? e = some i) {base size n c : Nat} {v : Value} {xs : List Value} (hown : w.ownsRow base e size v n xs) :
    (Builtin.append_ #[t, t] ty #[v, .slice none 0 c]).run P w = .ok v w := by
  rcases hown.2 with ⟨rfl, rfl⟩ | ⟨g, cap, cur, rfl, _, _, hnc, _⟩
  · simp [Builtin.append_, run_underlying ht, sizeOf, typeInfo, hi, Builtin.lenOf, Builtin.firstCells]
  · simp [Builtin.append_, run_underlying ht, sizeOf, typeInfo, hi, Builtin.lenOf, Builtin.firstCells, hnc, storeCells]
theorem run_app (t ty e : TypeId) (i : TypeInfo) (z : Value) (bytes : Nat) (ht : P.underlying t = some (.slice e)) (hi : P.info? e = some i) (hz : i.zero = some z) (hsize : i.size = 1) (hby : i.bytes = bytes) (hzs : z.cells.size = 1)
    {lo hi' B m c : Nat} {v : Value} {xs news : List Value} {A : Option Addr} (hrow : Row w lo hi' e v xs) (hm : news.length = m) (hr : Rd w B A news) (h1 : ∀ u ∈ news, u.oneCell' = true)
    (h63 : xs.length + m ≤ maxLen) (hbytes : (xs.length + m) * bytes ≤ 140737488355328) (hlo : lo ≤ w.heap.size) :
    ∃ v' w', (Builtin.append_ #[t, t] ty #[v, .slice A m c]).run P w = .ok v' w' ∧ Row w' lo w'.heap.size e v' (xs ++ news) ∧ Out lo hi' w w' := by
  rcases A with _ | ad
  · have hn : news = [] := by
      cases news with
      | nil => rfl
      | cons u l => obtain ⟨ad, h, _⟩ := hr 0 u rfl; cases h
    subst hn
    obtain rfl : m = 0 := hm.symm
    refine ⟨v, w, run_app_nil t ty e i ht hi hrow.1, ?_, Out.refl⟩
    rw [List.append_nil]
    exact ⟨hrow.1, fun g hg => (hrow.1.lt g hg).2⟩
  · have hcells : ∀ j u, news[j]? = some u → w.cell? (ad.add j) = some u := fun j u hu => by
      obtain ⟨ad', h, _, hc⟩ := hr j u hu
      injection h with h
      subst h
      exact hc
    obtain ⟨v', w', hrun, h2, h3, _, h5⟩ := run_append_own_at (P := P) w lo t ty e i z 1 bytes ht hi hz hsize hby hzs (by omega) v xs.length xs hrow.1 ad m c news (by omega) hcells h1 h63 hbytes hlo
    refine ⟨v', w', hrun, Row.of_own h2, ⟨h3.os, h3.tape, h3.output, h3.size, fun k hk hne => h3.block k hk (fun e => ?_)⟩⟩
    have h6 := hrow.2 k e.symm
    have h7 := (hrow.1.lt k e.symm).1
    omega
theorem wpList_app {ops : Array Oper} {rest : List Oper} {o : Oper} {a : Act} {Q : Exit → Act → World → Prop} (hgd : o.guard = none) (s x : Operand) (t : TypeId)
    (ho : o.op = .call { callee := .builtin .append, args := #[s, x], argTypes := #[t, t] })
    (e : TypeId) (i : TypeInfo) (z : Value) (bytes : Nat) (ht : P.underlying t = some (.slice e)) (hi : P.info? e = some i) (hz : i.zero = some z) (hsize : i.size = 1) (hby : i.bytes = bytes) (hzs : z.cells.size = 1)
    {lo hi' B m c : Nat} {v : Value} {xs news : List Value} {A : Option Addr} (hs : a.eval s = v) (hx : a.eval x = .slice A m c) (hrow : Row w lo hi' e v xs) (hm : news.length = m) (hr : Rd w B A news) (h1 : ∀ u ∈ news, u.oneCell' = true)
    (h63 : xs.length + m ≤ maxLen) (hbytes : (xs.length + m) * bytes ≤ 140737488355328) (hlo : lo ≤ w.heap.size)
    (K : ∀ v' w', Row w' lo w'.heap.size e v' (xs ++ news) → Out lo hi' w w' → wpList P ops Q rest (a.put o.dst v') w') : wpList P ops Q (o :: rest) a w := by
  obtain ⟨v', w', hrun, h2, h3⟩ := run_app (P := P) t o.type e i z bytes ht hi hz hsize hby hzs (c := c) hrow hm hr h1 h63 hbytes hlo
  refine wpList_plain hgd fun K' hK' => ?_
  unfold Oper.wp
  simp [execOp, ho, resolve, invoke, builtin, hs, hx, hrun, Result.andThen]
  exact hK' _ _ (K v' w' h2 h3)
end
theorem int_one {k : IntKind} {zs : List Int} : ∀ u ∈ zs.map (Value.int k), u.oneCell' = true := by
  intro u hu
  obtain ⟨n, _, rfl⟩ := List.mem_map.1 hu
  rfl
/-- A block that was just made reads as its cells. -/
theorem Rd.made (w : World) (cs : Array Value) (t : TypeId) : Rd (w.alloc (.cells cs t)) (w.heap.size + 1) (some ⟨w.heap.size, 0, none⟩) cs.toList := fun j u hu => by
  refine ⟨_, rfl, by simp, ?_⟩
  have e : (⟨w.heap.size, 0, none⟩ : Addr).add j = ⟨w.heap.size, j, none⟩ := by
    unfold Addr.add; split <;> simp_all
  rw [e, cell_of_row _ _ j cs t (0, 0) (heap_alloc_new w _)]
  simpa using hu
theorem Row.made {w : World} (lo : Nat) (cs : Array Value) (n : Nat) (t : TypeId) (hlo : lo ≤ w.heap.size) (hn : cs.size = n) (hm : n ≤ maxLen) : Row (w.alloc (.cells cs t)) lo (w.heap.size + 1) t (.slice (some ⟨w.heap.size, 0, none⟩) n n) cs.toList := by
  have h := World.ownsRow_lit (base := lo) (e := t) (size := 1) w cs n hlo hm (by omega)
  refine ⟨by rw [show cs.toList.length = n by simpa using hn]; exact h, fun g hg => ?_⟩
  simp [Value.ownBlock] at hg
  omega
end Go.Proofs.Ytdpaoaoipnoiiaa
