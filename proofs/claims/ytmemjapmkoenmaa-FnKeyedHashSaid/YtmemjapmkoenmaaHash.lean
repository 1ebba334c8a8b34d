/- Contracts of the hash functions' models: Hash, KeyedHash, IsValidKey, BytesToInts, DeriveFromString. No conditions but that the slices have at most 2^40 elements. -/
import Derived.Test.YtmemjapmkoenmaaIntS
import Derived.Test.YtmemjapmkoenmaaInts
import Derived.Test.YtmemjapmkoenmaaAppend
namespace Go.Proofs.Ytmemjapmkoenmaa
open Go.ChangeShapes Go.WideShapes Go.ChangeAt Go.RowKit
def hsStep (d x : Int) : Int := (d * 1000003 + md x 2147483647 + 13) % 2147483647
def hsh (l : List Int) : Int := l.foldl hsStep 11
theorem md_M (x : Int) : 0 ≤ md x 2147483647 ∧ md x 2147483647 ≤ 2147483646 := by
  have e : md x 2147483647 = x % 2147483647 := by unfold md; rw [if_pos (by decide)]
  rw [e]; omega
theorem hsh_range (l : List Int) : 0 ≤ hsh l ∧ hsh l ≤ 2147483646 := by
  unfold hsh
  have gen : ∀ (l : List Int) (d : Int), 0 ≤ d ∧ d ≤ 2147483646 → 0 ≤ l.foldl hsStep d ∧ l.foldl hsStep d ≤ 2147483646 := by
    intro l
    induction l with
    | nil => intro d h; exact h
    | cons x l ih => intro d _; rw [List.foldl_cons]; exact ih _ (by unfold hsStep; omega)
  exact gen l 11 (by omega)
theorem hsh_snoc (l : List Int) (x : Int) : hsh (l ++ [x]) = hsStep (hsh l) x := by simp [hsh]
theorem hsh_take (l : List Int) (k : Nat) (h : k < l.length) : hsh (l.take (k + 1)) = hsStep (hsh (l.take k)) l[k] := by
  rw [List.take_succ_eq_append_getElem h, hsh_snoc]
theorem ivs_snoc_ (zs : List Int) (x : Int) : ivs zs ++ [Value.int .i64 x] = ivs (zs ++ [x]) := by simp [ivs]
theorem ivs_app (zs ys : List Int) : ivs zs ++ ivs ys = ivs (zs ++ ys) := by simp [ivs]
theorem ivs_one (zs : List Int) : ∀ u ∈ ivs zs, u.oneCell' = true := int_one
set_option maxHeartbeats 800000 in
theorem specHash_any {w : World} {A : Option Addr} {n c : Nat} {zs : List Int} (hl : Hid (zs.length = n)) (hn : n ≤ 1099511627776) (hr : Rd w w.heap.size A (ivs zs)) :
    Calls Try.prog 38 #[.slice A n c] w (fun e w' => e = .returned (.int .i64 (hsh zs)) ∧ w = w') := by
  go_enter Try.func38, Try.ntmps38
  go_wp2
  go_loop [3, 4] (fun d i => ∃ (k : Nat) (x : Int), k ≤ n ∧ i = .int .i64 k ∧ d = .int .i64 x ∧ 0 ≤ x ∧ x ≤ 2147483646 ∧ Hid (hsh (zs.take k) = x)) (fun _ i => n - (intOf i).toNat)
  case atStart => exact ⟨0, 11, Nat.zero_le _, rfl, rfl, by omega, by omega, rfl⟩
  case round =>
    obtain ⟨k, d, hk, rfl, rfl, hd0, hd1, hh⟩ := hrel
    by_cases hlt : k < n
    · have hkz : k < zs.length := by rw [hl.out]; exact hlt
      obtain ⟨ad, rfl, hab, hc⟩ := ivs_at hr hkz
      have ht := hsh_take zs k hkz
      rw [hh.out] at ht
      obtain ⟨x, hx⟩ : ∃ x, x = zs[k] := ⟨_, rfl⟩
      rw [← hx] at hc ht
      obtain ⟨m0, m1⟩ := md_M x
      have hrg := hsh_range (zs.take (k + 1))
      rw [ht] at hrg
      unfold hsStep at hrg ht
      have HT := Lib.hid ht
      have HRg := Lib.hid hrg
      clear hx ht hrg
      go_wp2_with (go_at_call 24; refine (smod_any _ _ _).mono ?_; rintro e w1 ⟨rfl, rfl⟩)
      go_round
      case rel => exact ⟨k + 1, _, by omega, by go_num, rfl, HRg.out.1, HRg.out.2, HT.out⟩
      case measure => simp [intOf]; omega
    · have e : k = n := by omega
      subst e
      have H1 := Lib.hid (show zs.take k = zs from List.take_of_length_le (by rw [hl.out]; omega))
      go_wp2
      go_ret
      exact ⟨ret_i (by rw [← hh.out, H1.out]), rfl⟩
theorem specKeyedHash_any {w : World} {A : Option Addr} {n c : Nat} {zs : List Int} {q : Int} (hl : Hid (zs.length = n)) (hn : n ≤ 1000000000000) (hr : Rd w w.heap.size A (ivs zs)) :
    Calls Try.prog 41 #[.int .i64 q, .slice A n c] w (fun e w' => e = .returned (.int .i64 (hsh (q :: zs ++ [q]))) ∧ Below w.heap.size w w') := by
  obtain ⟨i0, hi, hz0, hz1, hz2⟩ := info_parts IntS_info
  have hb0 : Below w.heap.size w (w.alloc (Obj.cells #[Value.int .i64 q] 3)) := (Below.refl _ _).alloc (Nat.le_refl _) _
  have hrow0 := Row.made (w := w) w.heap.size #[Value.int .i64 q] 1 3 (Nat.le_refl _) rfl (by unfold maxLen; omega)
  have hr1 := hr.below hb0
  have HL := Lib.hid (show (ivs zs).length = n by rw [ivs_len, hl.out])
  obtain ⟨ls, hls⟩ : ∃ ls, ls = q :: zs ++ [q] := ⟨_, rfl⟩
  have HX := Lib.hid (show #[Value.int IntKind.i64 q].toList ++ ivs zs ++ #[Value.int IntKind.i64 q].toList = ivs ls by rw [hls]; simp [ivs])
  have hle : ls.length ≤ 1099511627776 := by rw [hls]; simp [hl.out]; omega
  rw [← hls]
  clear hr hls
  go_enter Try.func41, Try.ntmps41
  go_wp2_with (first
    | (at_builtin; refine wpList_app rfl (.tmp 6) (.tmp 7) 28 rfl 3 i0 _ 8 Try.underlying28 hi hz0 hz1 hz2 rfl rfl rfl hrow0 HL.out hr1 (ivs_one zs) (by simp; unfold maxLen; omega) (by simp; omega) (by simp) ?_; intro v1 w1 hrow1 ho1; have hb1 := hb0.trans (ho1.below (Nat.le_refl _) (by simp)); have hbl : Below w1.heap.size w1 (w1.alloc (Obj.cells #[Value.int .i64 q] 3)) := (Below.refl _ _).alloc (Nat.le_refl _) _; have hrow2 := hrow1.new hbl; have hmade := Rd.made w1 #[Value.int .i64 q] 3; have s1 := hb1.size)
    | (at_builtin; refine wpList_app rfl (.tmp 8) (.tmp 10) 28 rfl 3 i0 _ 8 Try.underlying28 hi hz0 hz1 hz2 rfl rfl rfl hrow2 rfl hmade (by simp [Value.oneCell']) (by have := HL.out; simp; unfold maxLen; omega) (by have := HL.out; simp; omega) (by simp; omega) ?_; intro v2 w2 hrow3 ho2; rw [HX.out] at hrow3; obtain ⟨A2, c2, rfl, hrd, _, _⟩ := hrow3.rd (ivs_len ls))
    | (go_at_call 38; refine (specHash_any (Lib.hid rfl) (by omega) hrd).mono ?_; rintro e w3 ⟨rfl, rfl⟩))
  go_ret
  exact ⟨rfl, hb1.trans ((hbl.mono s1).trans (ho2.below (Nat.le_refl _) (by simp; omega)))⟩
theorem specIsValidKey_any (q : Int) (w : World) : Calls Try.prog 42 #[.int .i64 q] w (fun e w' => e = .returned (.bool (inr q 1 2147483646)) ∧ w = w') := by
  go_enter Try.func42, Try.ntmps42
  go_wp2_with (go_at_call 68; refine (l1In_any _ _ _ _).mono ?_; rintro e w1 ⟨rfl, rfl⟩)
  go_ret
  exact ⟨rfl, rfl⟩
def b2i (zs : List Int) : List Int := (zs.length : Int) :: zs
set_option maxHeartbeats 800000 in
theorem specBytesToInts_any {w : World} {A : Option Addr} {n c : Nat} {zs : List Int} (hl : Hid (zs.length = n)) (hn : n ≤ 1099511627776) (hr : Rd w w.heap.size A (bvs zs)) (hb : ∀ x ∈ zs, 0 ≤ x ∧ x ≤ 255) :
    Calls Try.prog 43 #[.slice A n c] w (Fresh 3 (ivs (b2i zs)) w) := by
  obtain ⟨i0, hi, hz0, hz1, hz2⟩ := info_parts IntS_info
  have hb0 : Below w.heap.size w (w.alloc (Obj.cells #[Value.int .i64 n] 3)) := (Below.refl _ _).alloc (Nat.le_refl _) _
  have hrow0 := Row.made (w := w) w.heap.size #[Value.int .i64 n] 1 3 (Nat.le_refl _) rfl (by unfold maxLen; omega)
  have HZ := Lib.hid (show #[Value.int IntKind.i64 n].toList = ivs ((n : Int) :: zs.take 0) from rfl)
  rw [HZ.out] at hrow0
  go_enter Try.func43, Try.ntmps43
  go_wp2
  go_loopw [3, 4] (fun b i wr => ∃ k : Nat, k ≤ n ∧ i = .int .i64 k ∧ Row wr w.heap.size wr.heap.size 3 b (ivs ((n : Int) :: zs.take k)) ∧ Below w.heap.size w wr) (fun _ i _ => n - (intOf i).toNat)
  case atStart => exact ⟨0, Nat.zero_le _, rfl, hrow0.wide (Nat.le_refl _) (by simp), hb0⟩
  case round =>
    obtain ⟨k, hk, rfl, hrow, hbw⟩ := hrel
    have hsz := hbw.size
    clear hrow0 hb0
    by_cases hlt : k < n
    · have hkz : k < zs.length := by rw [hl.out]; exact hlt
      obtain ⟨ad, rfl, hab, hc⟩ := bvs_at (hr.below hbw) hkz
      obtain ⟨hx0, hx1⟩ := hb zs[k] (List.getElem_mem _)
      have HT := Lib.hid (show ivs ((n : Int) :: zs.take k) ++ [Value.int .i64 zs[k]] = ivs ((n : Int) :: zs.take (k + 1)) by rw [ivs_snoc_, List.take_succ_eq_append_getElem hkz]; rfl)
      obtain ⟨x, hx⟩ : ∃ x, x = zs[k] := ⟨_, rfl⟩
      rw [← hx] at hc hx0 hx1 HT
      obtain ⟨ys, hys⟩ : ∃ ys, ys = (n : Int) :: zs.take k := ⟨_, rfl⟩
      rw [← hys] at hrow HT
      have hyl : ys.length ≤ n + 1 := by rw [hys]; simp; omega
      have hbl : Below wr.heap.size wr (wr.alloc (Obj.cells #[Value.int .i64 x] 3)) := (Below.refl _ _).alloc (Nat.le_refl _) _
      have hrow2 := hrow.new hbl
      have hmade := Rd.made wr #[Value.int .i64 x] 3
      have L : (ivs ys).length + 1 ≤ maxLen ∧ ((ivs ys).length + 1) * 8 ≤ 140737488355328 := by rw [ivs_len]; unfold maxLen; omega
      have L1 := Lib.hid L
      clear L hx hys hb hr
      go_wp2_with (first
        | (at_builtin; refine wpList_app rfl (.tmp 14) (.tmp 20) 28 rfl 3 i0 _ 8 Try.underlying28 hi hz0 hz1 hz2 rfl rfl rfl hrow2 rfl hmade (by simp [Value.oneCell']) L1.out.1 L1.out.2 (by simp; omega) ?_; intro v1 w1 hrow1 ho1))
      go_roundw
      case rel => exact ⟨k + 1, by omega, by go_num, by rw [← HT.out]; exact hrow1, hbw.trans ((hbl.mono hsz).trans (ho1.below (Nat.le_refl _) (by simp; omega)))⟩
      case measure => simp [intOf]; omega
    · have e : k = n := by omega
      subst e
      have H1 := Lib.hid (show ((k : Int) :: zs.take k) = b2i zs by rw [List.take_of_length_le (by rw [hl.out]; omega)]; unfold b2i; rw [hl.out])
      go_wp2
      go_ret
      exact ⟨_, rfl, by rw [← H1.out]; exact hrow, hbw⟩
end Go.Proofs.Ytmemjapmkoenmaa
