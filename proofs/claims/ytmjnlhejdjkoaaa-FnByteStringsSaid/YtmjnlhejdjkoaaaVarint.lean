/- Contracts of the varint functions and of their models. No conditions but that each byte lies in 0 to 255 and the slice has at most 2^47 - 4096 elements. -/
import Derived.Test.YtmjnlhejdjkoaaaByteS
import Derived.Test.YtmjnlhejdjkoaaaVarMath
import Derived.Laws.BitsAllLaws
import Derived.Test.YtmjnlhejdjkoaaaInts
namespace Go.Proofs.Ytmjnlhejdjkoaaa
open Go.ChangeShapes Go.WideShapes Go.ChangeAt Go.RowKit
theorem and_nat (a b : Nat) (ha : a < 9223372036854775808) (hb : b < 9223372036854775808) : bits .and .i64 (a : Int) (b : Int) = ((a &&& b : Nat) : Int) := by
  have h1 : (BitVec.ofInt 64 (a : Int)).toNat = a := by rw [BitVec.ofInt_natCast, BitVec.toNat_ofNat]; exact Nat.mod_eq_of_lt (by omega)
  have h2 : (BitVec.ofInt 64 (b : Int)).toNat = b := by rw [BitVec.ofInt_natCast, BitVec.toNat_ofNat]; exact Nat.mod_eq_of_lt (by omega)
  have hx : a &&& b ≤ b := Nat.and_le_right
  show IntKind.i64.wrap ((BitVec.ofInt 64 (a : Int) &&& BitVec.ofInt 64 (b : Int)).toNat : Int) = _
  rw [BitVec.toNat_and, h1, h2, IntKind.wrap_i64]
  omega
theorem or_nat (a b : Nat) (ha : a < 9223372036854775808) (hb : b < 9223372036854775808) : bits .or .i64 (a : Int) (b : Int) = ((a ||| b : Nat) : Int) := by
  have h1 : (BitVec.ofInt 64 (a : Int)).toNat = a := by rw [BitVec.ofInt_natCast, BitVec.toNat_ofNat]; exact Nat.mod_eq_of_lt (by omega)
  have h2 : (BitVec.ofInt 64 (b : Int)).toNat = b := by rw [BitVec.ofInt_natCast, BitVec.toNat_ofNat]; exact Nat.mod_eq_of_lt (by omega)
  have hx : a ||| b < 2 ^ 63 := Nat.or_lt_two_pow (by omega) (by omega)
  show IntKind.i64.wrap ((BitVec.ofInt 64 (a : Int) ||| BitVec.ofInt 64 (b : Int)).toNat : Int) = _
  rw [BitVec.toNat_or, h1, h2, IntKind.wrap_i64]
  omega
theorem and127 (x : Int) (h0 : 0 ≤ x) (h1 : x ≤ 1000000000000000) : bits .and .i64 x 127 = x % 128 := by
  obtain ⟨n, rfl⟩ := Int.eq_ofNat_of_zero_le h0
  have := and_nat n 127 (by omega) (by omega)
  rw [show ((127 : Nat) : Int) = 127 from rfl] at this
  rw [this, show (127 : Nat) = 2 ^ 7 - 1 from rfl, Nat.and_two_pow_sub_one_eq_mod]; rfl
theorem or_add (a y i : Nat) (ha : a < 2 ^ i) (hi : i ≤ 40) (hy : y < 128) : bits .or .i64 (a : Int) ((y * 2 ^ i : Nat) : Int) = (a : Int) + (y : Int) * ((2 ^ i : Nat) : Int) := by
  have hp : 2 ^ i ≤ 2 ^ 40 := Nat.pow_le_pow_right (by omega) hi
  have hm : y * 2 ^ i ≤ 127 * 2 ^ 40 := Nat.mul_le_mul (by omega) hp
  have e40 : 2 ^ 40 = 1099511627776 := by decide
  rw [or_nat _ _ (by omega) (by omega), Nat.or_comm, ← Nat.shiftLeft_eq, ← Nat.shiftLeft_add_eq_or_of_lt ha, Nat.shiftLeft_eq]
  push_cast; omega
theorem or_step {z x : Int} {k : Nat} (hk : k < 6) (hz0 : 0 ≤ z) (hz : z < pw k) : bits .or .i64 z (x % 128 * 2 ^ (7 * k)) = z + x % 128 * pw k := by
  obtain ⟨a, rfl⟩ := Int.eq_ofNat_of_zero_le hz0
  obtain ⟨y, hy⟩ := Int.eq_ofNat_of_zero_le (show 0 ≤ x % 128 by omega)
  rw [hy]
  rw [pw_two] at hz ⊢
  have e : (2 : Int) ^ (7 * k) = ((2 ^ (7 * k) : Nat) : Int) := by push_cast; rfl
  rw [e] at hz ⊢
  have := or_add a y (7 * k) (by omega) (by omega) (by omega)
  rw [← this]
  push_cast; rfl
/-- What the four facts of one round are, in the walk's own spelling. -/
theorem round_facts {z x : Int} {k : Nat} (hk : k < 6) (hz : z < pw k) :
    wrap64 (x % 128 * 2 ^ (7 * k)) = x % 128 * 2 ^ (7 * k) ∧ 0 ≤ x % 128 * pw k ∧ x % 128 * pw k ≤ 4363686772736 ∧ z + x % 128 * pw k < pw (k + 1) := by
  have hp := pw_pos k
  have hl := pw_le k (by omega)
  have h1 := mul_lo (show 0 ≤ x % 128 by omega) (show 0 ≤ pw k by omega)
  have h2 := mul_hi (show x % 128 ≤ 127 by omega) (show 0 ≤ pw k by omega)
  have hs := pw_succ k
  rw [← pw_two]
  exact ⟨IntWalk.wrap64_in _ ⟨by omega, by omega⟩, h1, by omega, by omega⟩
theorem or_zero (z : Int) (hz0 : 0 ≤ z) (h : z < 9223372036854775808) : bits .or .i64 z 0 = z := by
  obtain ⟨a, rfl⟩ := Int.eq_ofNat_of_zero_le hz0
  have := or_nat a 0 (by omega) (by omega)
  simpa using this
theorem add_add_ (a : Addr) (i j : Nat) : (a.add i).add j = a.add (i + j) := by
  unfold Addr.add
  by_cases hi : i = 0 <;> by_cases hj : j = 0 <;> simp [hi, hj, Nat.add_assoc]
theorem and127b (x : Int) (h0 : 0 ≤ x) (h1 : x ≤ 255) : bits .and .u8 x 127 = x % 128 := by
  obtain ⟨n, rfl⟩ := Int.eq_ofNat_of_zero_le h0
  have := u8_and_nat n 127 (by omega) (by omega)
  rw [show ((127 : Nat) : Int) = 127 from rfl] at this
  rw [this, show (127 : Nat) = 2 ^ 7 - 1 from rfl, Nat.and_two_pow_sub_one_eq_mod]; rfl
theorem bits_and0b : bits .and .u8 0 127 = 0 := by decide
theorem bits_and0 : bits .and .i64 0 127 = 0 := by decide
theorem bits_or0 : bits .or .i64 0 0 = 0 := by decide
theorem wrap_0 : wrap64 0 = 0 := IntWalk.wrap64_in 0 ⟨by omega, by omega⟩
/-- What reading a varint at o answers. -/
def rvVal (o : Int) : Option (Int × Nat) → Value
  | none => .tuple #[.int .i64 0, .int .i64 0, .bool false]
  | some (n, j) => .tuple #[.int .i64 n, .int .i64 (o + (j : Int)), .bool true]
theorem rvVal_none {o : Int} {r : Option (Int × Nat)} (h : r = none) : Ending.returned (.tuple #[.int .i64 0, .int .i64 0, .bool false]) = .returned (rvVal o r) := by rw [h]; rfl
theorem rvVal_some {o n m : Int} {j : Nat} {r : Option (Int × Nat)} (h : r = some (n, j)) (e : m = o + (j : Int)) : Ending.returned (.tuple #[.int .i64 n, .int .i64 m, .bool true]) = .returned (rvVal o r) := by rw [h, e]; rfl
set_option maxHeartbeats 1600000 in
theorem specReadUvarint_any {w : World} {A : Option Addr} {n c : Nat} {zs : List Int} {o : Int} (hl : Hid (zs.length = n)) (hn : n ≤ 140737488351232) (hr : Rd w w.heap.size A (bvs zs)) (hb : ∀ x ∈ zs, 0 ≤ x ∧ x ≤ 255) (hlo : -9223372036854775808 ≤ o) (hhi : o ≤ 9223372036854775807) :
    Calls Try.prog 18 #[.slice A n c, .int .i64 o] w (fun e w' => e = .returned (rvVal o (rvAt zs o)) ∧ w = w') := by
  obtain ⟨R, hR⟩ : ∃ R, R = rvAt zs o := ⟨_, rfl⟩
  rw [← hR]
  by_cases h0 : o < 0
  · have hR2 : Hid (R = none) := by rw [hR]; unfold rvAt; rw [if_pos h0]; rfl
    clear hR hr
    go_enter Try.func18, Try.ntmps18
    go_wp2
    refine wp_loop_rounds 1 ?_
    rw [rounds_succ]
    go_wp2
    go_ret3
    exact ⟨rvVal_none hR2.out, rfl⟩
  obtain ⟨p, rfl⟩ := Int.eq_ofNat_of_zero_le (show 0 ≤ o by omega)
  have hR1 : Hid (rv 6 0 0 (zs.drop (p + 0)) = R) := by rw [hR]; unfold rvAt; rw [if_neg h0]; rfl
  clear hR h0
  go_enter Try.func18, Try.ntmps18
  go_wp2
  go_loop [7, 8] (fun a i => ∃ (k : Nat) (z : Int), k ≤ 6 ∧ i = .int .i64 k ∧ a = .int .i64 z ∧ 0 ≤ z ∧ z < pw k ∧ Hid (rv (6 - k) k z (zs.drop (p + k)) = R)) (fun _ i => 6 - (intOf i).toNat)
  case atStart => exact ⟨0, 0, by omega, rfl, rfl, by omega, by decide, hR1⟩
  case round =>
    obtain ⟨k, z, hk, rfl, rfl, hz, hz2, hrv⟩ := hrel
    by_cases hlt : k < 6
    · by_cases hin : p + k < n
      · have hkz : p + k < zs.length := by rw [hl.out]; exact hin
        obtain ⟨ad, rfl, hab, hc⟩ := bvs_at hr hkz
        obtain ⟨hx0, hx1⟩ := hb zs[p + k] (List.getElem_mem _)
        obtain ⟨x, hxe⟩ : ∃ x, x = zs[p + k] := ⟨_, rfl⟩
        have hrd := Lib.hid (rv_round hrv.out hlt hkz hxe)
        rw [← hxe] at hc hx0 hx1
        clear hxe hr hb
        obtain ⟨f1, f2, f3, f4⟩ := round_facts (x := x) hlt hz2
        have e127 := and127 x hx0 (by omega)
        have eor := or_step (x := x) hlt hz hz2
        have hzM : z ≤ 34359738368 := by have := pw_le k (by omega); omega
        have eor0 := or_zero z hz (by omega)
        have hlt1 : k = 0 → z < 1 := fun e => by subst e; exact hz2
        have H5 := Lib.hid hlt1
        have H4 := Lib.hid f4
        clear f4 hz2 hlt1
        by_cases hx : x < 128
        · by_cases hx00 : x = 0
          · subst hx00
            clear f1 f2 f3 eor e127
            by_cases hk0 : k = 0
            · subst hk0
              have hz1 := H5.out rfl
              obtain rfl : z = 0 := by omega
              rw [Nat.add_zero] at hc
              have b1 := bits_and0
              have b2 := bits_or0
              have b3 := wrap_0
              have HR := Lib.hid (show R = some (0, 1) from by have h := rv_yes hrd.out (by omega) (by simp) (by omega); simpa using h)
              go_wp2
              go_ret3
              exact ⟨rvVal_some HR.out (by omega), rfl⟩
            · have HR := Lib.hid (rv_no hrd.out (by omega) (.inl ⟨rfl, by omega⟩) (by omega))
              have hk0' : 0 < k := by omega
              go_wp2
              go_ret3
              exact ⟨rvVal_none HR.out, rfl⟩
          · by_cases hM : 1000000000000 < z + x % 128 * pw k
            · have HR := Lib.hid (rv_no hrd.out hx (.inr hM) hx0)
              go_wp2
              go_ret3
              exact ⟨rvVal_none HR.out, rfl⟩
            · have HR := Lib.hid (rv_yes hrd.out hx (fun h => h.elim (fun h => hx00 h.1) hM) hx0)
              have hM' : z + x % 128 * pw k ≤ 1000000000000 := by omega
              go_wp2
              go_ret3
              exact ⟨rvVal_some HR.out (by omega), rfl⟩
        · have hx' : 128 ≤ x := by omega
          go_wp2
          go_round
          case rel => exact ⟨k + 1, _, by omega, by go_num, rfl, by omega, H4.out, rv_more hrd.out hlt hx' hx1⟩
          case measure => simp [intOf]; omega
      · have HR := Lib.hid (rv_out hrv.out (.inr (by rw [hl.out]; omega)))
        go_wp2
        go_ret3
        exact ⟨rvVal_none HR.out, rfl⟩
    · obtain rfl : k = 6 := by omega
      have HR := Lib.hid (rv_out hrv.out (.inl rfl))
      go_wp2
      go_ret3
      exact ⟨rvVal_none HR.out, rfl⟩
set_option maxHeartbeats 1600000 in
theorem impReadUvarint_any {w : World} {A : Option Addr} {n c : Nat} {zs : List Int} {o : Int} (hl : Hid (zs.length = n)) (hn : n ≤ 140737488351232) (hcap : n ≤ c) (hr : Rd w w.heap.size A (bvs zs)) (hb : ∀ x ∈ zs, 0 ≤ x ∧ x ≤ 255) (hlo : -9223372036854775808 ≤ o) (hhi : o ≤ 9223372036854775807) :
    Calls Try.prog 15 #[.slice A n c, .int .i64 o] w (fun e w' => e = .returned (rvVal o (rvAt zs o)) ∧ Below w.heap.size w w') := by
  obtain ⟨R, hR⟩ : ∃ R, R = rvAt zs o := ⟨_, rfl⟩
  rw [← hR]
  by_cases h0 : 0 ≤ o ∧ o ≤ n
  · obtain ⟨h0, h1⟩ := h0
    obtain ⟨p, rfl⟩ := Int.eq_ofNat_of_zero_le h0
    have hR1 : Hid (rv 6 0 0 (zs.drop (p + 0)) = R) := by rw [hR]; unfold rvAt; rw [if_neg (by omega)]; rfl
    have hin := inr_t h0 h1
    clear hR h0
    obtain ⟨e, he, hee⟩ : ∃ e : Nat, mn ((p : Int) + 6) (n : Int) = (e : Int) ∧ p ≤ e ∧ e ≤ n ∧ e ≤ p + 6 ∧ (e = p + 6 ∨ e = n) := by
      by_cases h6 : p + 6 ≤ n
      · exact ⟨p + 6, by rw [mn_f (by omega)]; omega, by omega, by omega, by omega, .inl rfl⟩
      · exact ⟨n, by rw [mn_t (by omega)], by omega, by omega, by omega, .inr rfl⟩
    obtain ⟨e1, e2, e3, e4⟩ := hee
    have cmin := min_any ((p : Int) + 6) (n : Int) w
    rw [he] at cmin
    have C := Lib.hid cmin
    have E4 := Lib.hid e4
    clear he cmin e4
    by_cases hpe : e ≤ p
    · have HR := Lib.hid (rv_out (k := 0) (p := p) (z := 0) hR1.out (.inr (by rw [hl.out]; have := E4.out; omega)))
      obtain rfl : e = p := by omega
      clear hr
      go_enter Try.func15, Try.ntmps15
      go_wp2_with (first
        | (go_at_call 47; refine (inRange_any _ _ _ _).mono ?_; rintro e' w1 ⟨rfl, rfl⟩)
        | (go_at_call 48; refine C.out.mono ?_; rintro e' w1 ⟨rfl, rfl⟩))
      refine wp_loop_rounds 1 ?_
      rw [rounds_succ]
      go_wp2
      go_ret3
      exact ⟨rvVal_none HR.out, (Below.refl _ _).alloc (Nat.le_refl _) _⟩
    have hpe' : p < e := by omega
    have hpc : p < c := by omega
    obtain ⟨ad, rfl, hab, hcc⟩ := bvs_at hr (k := p) (by rw [hl.out]; omega)
    clear hcc hab
    go_enter Try.func15, Try.ntmps15
    go_wp2_with (first
      | (go_at_call 47; refine (inRange_any _ _ _ _).mono ?_; rintro e' w1 ⟨rfl, rfl⟩)
      | (go_at_call 48; refine C.out.mono ?_; rintro e' w1 ⟨rfl, rfl⟩))
    go_loop [8, 27] (fun a i => ∃ (k : Nat) (z : Int), k ≤ e - p ∧ i = .int .i64 k ∧ a = .int .i64 z ∧ 0 ≤ z ∧ z < pw k ∧ Hid (rv (6 - k) k z (zs.drop (p + k)) = R)) (fun _ i => (e - p) - (intOf i).toNat)
    case atStart => exact ⟨0, 0, by omega, rfl, rfl, by omega, by decide, hR1⟩
    case round =>
      obtain ⟨k, z, hk, rfl, rfl, hz, hz2, hrv⟩ := hrel
      by_cases hlt : k < e - p
      · have hlt6 : k < 6 := by omega
        have hkz : p + k < zs.length := by rw [hl.out]; omega
        obtain ⟨ad', had, hab, hc⟩ := bvs_at hr hkz
        injection had with had
        subst had
        obtain ⟨hx0, hx1⟩ := hb zs[p + k] (List.getElem_mem _)
        obtain ⟨x, hxe⟩ : ∃ x, x = zs[p + k] := ⟨_, rfl⟩
        have hrd := Lib.hid (rv_round hrv.out hlt6 hkz hxe)
        rw [← hxe] at hc hx0 hx1
        clear hxe hb
        obtain ⟨f1, f2, f3, f4⟩ := round_facts (x := x) hlt6 hz2
        have e127 := and127b x hx0 hx1
        have eor := or_step (x := x) hlt6 hz hz2
        have hzM : z ≤ 34359738368 := by have := pw_le k (by omega); omega
        have eor0 := or_zero z hz (by omega)
        have hlt1 : k = 0 → z < 1 := fun e => by subst e; exact hz2
        have H5 := Lib.hid hlt1
        have H4 := Lib.hid f4
        clear f4 hz2 hlt1
        have hc2 : (w.alloc (Obj.cells #[Value.int IntKind.i64 n] 3)).cell? ((ad.add p).add k) = some (.int .u8 x) := by
          rw [add_add_, World.cell?_alloc_lt w _ _ (by rw [add_blk]; exact hab)]; exact hc
        clear hc hr
        by_cases hx : x < 128
        · by_cases hx00 : x = 0
          · subst hx00
            clear f1 f2 f3 eor e127
            have b0 := bits_and0b
            have b2 := bits_or0
            have b3 := wrap_0
            by_cases hk0 : k = 0
            · subst hk0
              have hz1 := H5.out rfl
              obtain rfl : z = 0 := by omega
              have HR := Lib.hid (show R = some (0, 1) from by have h := rv_yes hrd.out (by omega) (by simp) (by omega); simpa using h)
              have hd : decide (0 < e - p) = true := decide_eq_true (by omega)
              rw [show (ad.add p).add 0 = ad.add p by simp [Addr.add]] at hc2
              go_wp2
              go_ret3
              exact ⟨rvVal_some HR.out (by omega), (Below.refl _ _).alloc (Nat.le_refl _) _⟩
            · have HR := Lib.hid (rv_no hrd.out (by omega) (.inl ⟨rfl, by omega⟩) (by omega))
              have hk0' : 0 < k := by omega
              go_wp2
              go_ret3
              exact ⟨rvVal_none HR.out, (Below.refl _ _).alloc (Nat.le_refl _) _⟩
          · have hxb : (x == 0) = false := by simpa using hx00
            by_cases hM : 1000000000000 < z + x % 128 * pw k
            · have HR := Lib.hid (rv_no hrd.out hx (.inr hM) hx0)
              go_wp2
              all_goals
                go_ret3
                exact ⟨rvVal_none HR.out, (Below.refl _ _).alloc (Nat.le_refl _) _⟩
            · have HR := Lib.hid (rv_yes hrd.out hx (fun h => h.elim (fun h => hx00 h.1) hM) hx0)
              have hM' : z + x % 128 * pw k ≤ 1000000000000 := by omega
              go_wp2
              all_goals
                go_ret3
                exact ⟨rvVal_some HR.out (by omega), (Below.refl _ _).alloc (Nat.le_refl _) _⟩
        · have hx' : 128 ≤ x := by omega
          go_wp2
          go_round
          case rel => exact ⟨k + 1, _, by omega, by go_num, rfl, by omega, H4.out, rv_more hrd.out hlt6 hx' hx1⟩
          case measure => simp [intOf]; omega
      · have HR := Lib.hid (rv_out hrv.out (by rw [hl.out]; have := E4.out; omega))
        go_wp2
        go_ret3
        exact ⟨rvVal_none HR.out, (Below.refl _ _).alloc (Nat.le_refl _) _⟩
  · have hR2 : Hid (R = none) := by
      rw [hR]; unfold rvAt
      by_cases hneg : o < 0
      · exact if_pos hneg
      · rw [if_neg hneg, List.drop_eq_nil_of_le (by rw [hl.out]; omega)]; rfl
    have hin := inr_f (n := o) (lo := 0) (hi := n) (by omega)
    clear hR hr
    go_enter Try.func15, Try.ntmps15
    go_wp2_with (go_at_call 47; refine (inRange_any _ _ _ _).mono ?_; rintro e w1 ⟨rfl, rfl⟩)
    go_ret3
    exact ⟨rvVal_none hR2.out, Below.refl _ _⟩
end Go.Proofs.Ytmjnlhejdjkoaaa
