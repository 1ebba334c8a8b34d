/- Contracts of chapter 3's code: Hash, KeyedHash, IsValidKey, BytesToInts. No conditions but that the slices have at most 2^40 elements. -/
import Derived.Test.YtmemjapmkoenmaaHash
namespace Go.Proofs.Ytmemjapmkoenmaa
open Go.ChangeShapes Go.WideShapes Go.ChangeAt Go.RowKit
def hfold (d : Int) (l : List Int) : Int := l.foldl hsStep d
theorem hfold_range (l : List Int) : ∀ (d : Int), 0 ≤ d ∧ d ≤ 2147483646 → 0 ≤ hfold d l ∧ hfold d l ≤ 2147483646 := by
  unfold hfold
  induction l with
  | nil => intro d h; exact h
  | cons x l ih => intro d _; rw [List.foldl_cons]; exact ih _ (by unfold hsStep; omega)
theorem hfold_take (d : Int) (l : List Int) (k : Nat) (h : k < l.length) : hfold d (l.take (k + 1)) = hsStep (hfold d (l.take k)) l[k] := by
  rw [List.take_succ_eq_append_getElem h]; unfold hfold; rw [List.foldl_append]; rfl
theorem hfold_keyed (q : Int) (zs : List Int) : hfold (hfold (hfold 11 [q]) zs) [q] = hsh (q :: zs ++ [q]) := by
  simp [hfold, hsh]
set_option maxHeartbeats 800000 in
theorem foldValues_any {w : World} {A : Option Addr} {n c : Nat} {zs : List Int} {d0 : Int} (h0 : 0 ≤ d0) (h1 : d0 ≤ 2147483646) (hl : Hid (zs.length = n)) (hn : n ≤ 1099511627776) (hr : Rd w w.heap.size A (ivs zs)) :
    Calls Try.prog 67 #[.int .i64 d0, .slice A n c] w (fun e w' => e = .returned (.int .i64 (hfold d0 zs)) ∧ w = w') := by
  go_enter Try.func67, Try.ntmps67
  go_wp2
  go_loop [0, 9] (fun d i => ∃ (k : Nat) (x : Int), k ≤ n ∧ i = .int .i64 k ∧ d = .int .i64 x ∧ 0 ≤ x ∧ x ≤ 2147483646 ∧ Hid (hfold d0 (zs.take k) = x)) (fun _ i => n - (intOf i).toNat)
  case atStart => exact ⟨0, d0, Nat.zero_le _, rfl, rfl, h0, h1, rfl⟩
  case round =>
    obtain ⟨k, d, hk, rfl, rfl, hd0, hd1, hh⟩ := hrel
    by_cases hlt : k < n
    · have hkz : k < zs.length := by rw [hl.out]; exact hlt
      obtain ⟨ad, rfl, hab, hc⟩ := ivs_at hr hkz
      have ht := hfold_take d0 zs k hkz
      rw [hh.out] at ht
      obtain ⟨x, hx⟩ : ∃ x, x = zs[k] := ⟨_, rfl⟩
      rw [← hx] at hc ht
      obtain ⟨m0, m1⟩ := md_M x
      have hrg := hfold_range (zs.take (k + 1)) d0 ⟨h0, h1⟩
      rw [ht] at hrg
      unfold hsStep at hrg ht
      have HT := Lib.hid ht
      have HRg := Lib.hid hrg
      clear hx ht hrg
      go_wp2_with (go_at_call 92; refine (mod_any _ _ _).mono ?_; rintro e w1 ⟨rfl, rfl⟩)
      go_round
      case rel => exact ⟨k + 1, _, by omega, by go_num, rfl, HRg.out.1, HRg.out.2, HT.out⟩
      case measure => simp [intOf]; omega
    · have e : k = n := by omega
      subst e
      have H1 := Lib.hid (show zs.take k = zs from List.take_of_length_le (by rw [hl.out]; omega))
      go_wp2
      go_ret
      exact ⟨ret_i (by rw [← hh.out, H1.out]), rfl⟩
theorem impHash_any {w : World} {A : Option Addr} {n c : Nat} {zs : List Int} (hl : Hid (zs.length = n)) (hn : n ≤ 1099511627776) (hr : Rd w w.heap.size A (ivs zs)) :
    Calls Try.prog 22 #[.slice A n c] w (fun e w' => e = .returned (.int .i64 (hsh zs)) ∧ w = w') := by
  go_enter Try.func22, Try.ntmps22
  go_wp2_with (go_at_call 67; refine (foldValues_any (by omega) (by omega) hl hn hr).mono ?_; rintro e w1 ⟨rfl, rfl⟩)
  go_ret
  exact ⟨rfl, rfl⟩
theorem impKeyedHash_any {w : World} {A : Option Addr} {n c : Nat} {zs : List Int} {q : Int} (hl : Hid (zs.length = n)) (hn : n ≤ 1000000000000) (hr : Rd w w.heap.size A (ivs zs)) :
    Calls Try.prog 21 #[.int .i64 q, .slice A n c] w (fun e w' => e = .returned (.int .i64 (hsh (q :: zs ++ [q]))) ∧ Below w.heap.size w w') := by
  obtain ⟨r1, r1'⟩ := hfold_range [q] 11 (by omega)
  obtain ⟨r2, r2'⟩ := hfold_range zs _ ⟨r1, r1'⟩
  have HK := Lib.hid (hfold_keyed q zs)
  have hb0 : Below w.heap.size w (w.alloc (Obj.cells #[Value.int .i64 q] 3)) := (Below.refl _ _).alloc (Nat.le_refl _) _
  have hr1 := hr.below hb0
  have hmade := Rd.made w #[Value.int .i64 q] 3
  obtain ⟨W1, hW⟩ : ∃ u : World, u = w.alloc (Obj.cells #[Value.int IntKind.i64 q] 3) := ⟨_, rfl⟩
  have HW := Lib.hid hW
  have hsz : W1.heap.size = w.heap.size + 1 := by rw [hW]; simp
  have hb1 : Below W1.heap.size W1 (W1.alloc (Obj.cells #[Value.int .i64 q] 3)) := (Below.refl _ _).alloc (Nat.le_refl _) _
  have hmade1 := Rd.made W1 #[Value.int .i64 q] 3
  rw [← hW] at hmade hr1 hb0
  clear hW
  obtain ⟨p1, hp1⟩ : ∃ p1, p1 = hfold 11 [q] := ⟨_, rfl⟩
  rw [← hp1] at r1 r1' r2 r2' HK
  have HP1 := Lib.hid hp1
  clear hp1
  obtain ⟨p2, hp2⟩ : ∃ p2, p2 = hfold p1 zs := ⟨_, rfl⟩
  rw [← hp2] at r2 r2' HK
  have HP2 := Lib.hid hp2
  clear hp2
  go_enter Try.func21, Try.ntmps21
  go_wp2_with fail
  rw [← HW.out]
  refine (foldValues_any (zs := [q]) (by omega) (by omega) (Lib.hid rfl) (by simp) (by rw [hsz]; exact hmade)).mono ?_
  rintro e w1 ⟨rfl, rfl⟩
  rw [← HP1.out]
  go_wp2_with fail
  refine (foldValues_any r1 r1' hl (by omega) (hr1.more (by omega))).mono ?_
  rintro e w1 ⟨rfl, rfl⟩
  rw [← HP2.out]
  go_wp2_with fail
  refine (foldValues_any (zs := [q]) r2 r2' (Lib.hid rfl) (by simp) (by simp; rw [← hsz]; exact hmade1)).mono ?_
  rintro e w1 ⟨rfl, rfl⟩
  rw [HK.out]
  go_wp2
  go_ret
  exact ⟨rfl, hb0.trans (hb1.mono hb0.size)⟩
theorem impIsValidKey_any (q : Int) (w : World) : Calls Try.prog 26 #[.int .i64 q] w (fun e w' => e = .returned (.bool (inr q 1 2147483646)) ∧ w = w') := by
  go_enter Try.func26, Try.ntmps26
  go_wp2_with (go_at_call 70; refine (inRange_any _ _ _ _).mono ?_; rintro e w1 ⟨rfl, rfl⟩)
  go_ret
  exact ⟨rfl, rfl⟩
set_option maxHeartbeats 800000 in
theorem impBytesToInts_any {w : World} {A : Option Addr} {n c : Nat} {zs : List Int} (hl : Hid (zs.length = n)) (hn : n ≤ 1099511627776) (hr : Rd w w.heap.size A (bvs zs)) (hb : ∀ x ∈ zs, 0 ≤ x ∧ x ≤ 255) :
    Calls Try.prog 45 #[.slice A n c] w (Fresh 3 (ivs (b2i zs)) w) := by
  obtain ⟨i0, hi, hz0, hz1, hz2⟩ := info_parts IntS_info
  have hb0 : Below w.heap.size w (w.alloc (Obj.cells #[Value.int .i64 n] 3)) := (Below.refl _ _).alloc (Nat.le_refl _) _
  have hrow0 := Row.made (w := w) w.heap.size #[Value.int .i64 n] 1 3 (Nat.le_refl _) rfl (by unfold maxLen; omega)
  have HZ := Lib.hid (show #[Value.int IntKind.i64 n].toList = ivs ((n : Int) :: zs.take 0) from rfl)
  rw [HZ.out] at hrow0
  go_enter Try.func45, Try.ntmps45
  go_wp2
  go_loopw [3, 11] (fun b i wr => ∃ k : Nat, k ≤ n ∧ i = .int .i64 k ∧ Row wr w.heap.size wr.heap.size 3 b (ivs ((n : Int) :: zs.take k)) ∧ Below w.heap.size w wr) (fun _ i _ => n - (intOf i).toNat)
  case atStart => exact ⟨0, Nat.zero_le _, rfl, hrow0.wide (Nat.le_refl _) (by simp), hb0⟩
  case round =>
    obtain ⟨k, hk, rfl, hrow, hbw⟩ := hrel
    have hsz := hbw.size
    clear hrow0 hb0
    by_cases hlt : k < n
    · have hkz : k < zs.length := by rw [hl.out]; exact hlt
      obtain ⟨ad, rfl, hab, hc⟩ := bvs_at (hr.below hbw) hkz
      obtain ⟨hx0, hx1⟩ := hb zs[k] (List.getElem_mem _)
      have HT := Lib.hid (show ivs ((n : Int) :: zs.take k) ++ [Value.int .i64 zs[k]] = ivs ((n : Int) :: zs.take (k + 1)) by rw [ivs_snoc_, List.take_succ_eq_append_getElem hkz]; rfl)
      obtain ⟨x, hx⟩ : ∃ x, x = zs[k] := ⟨_, rfl⟩
      rw [← hx] at hc hx0 hx1 HT
      obtain ⟨ys, hys⟩ : ∃ ys, ys = (n : Int) :: zs.take k := ⟨_, rfl⟩
      rw [← hys] at hrow HT
      have hyl : ys.length ≤ n + 1 := by rw [hys]; simp; omega
      have hbl : Below wr.heap.size wr (wr.alloc (Obj.cells #[Value.int .i64 x] 3)) := (Below.refl _ _).alloc (Nat.le_refl _) _
      have hrow2 := hrow.new hbl
      have hmade := Rd.made wr #[Value.int .i64 x] 3
      have L : (ivs ys).length + 1 ≤ maxLen ∧ ((ivs ys).length + 1) * 8 ≤ 140737488355328 := by rw [ivs_len]; unfold maxLen; omega
      have L1 := Lib.hid L
      clear L hx hys hb hr
      go_wp2_with (first
        | (at_builtin; refine wpList_app rfl (.tmp 15) (.tmp 18) 28 rfl 3 i0 _ 8 Try.underlying28 hi hz0 hz1 hz2 rfl rfl rfl hrow2 rfl hmade (by simp [Value.oneCell']) L1.out.1 L1.out.2 (by simp; omega) ?_; intro v1 w1 hrow1 ho1))
      go_roundw
      case rel => exact ⟨k + 1, by omega, by go_num, by rw [← HT.out]; exact hrow1, hbw.trans ((hbl.mono hsz).trans (ho1.below (Nat.le_refl _) (by simp; omega)))⟩
      case measure => simp [intOf]; omega
    · have e : k = n := by omega
      subst e
      have H1 := Lib.hid (show ((k : Int) :: zs.take k) = b2i zs by rw [List.take_of_length_le (by rw [hl.out]; omega)]; unfold b2i; rw [hl.out])
      go_wp2
      go_ret
      exact ⟨_, rfl, by rw [← H1.out]; exact hrow, hbw⟩
end Go.Proofs.Ytmemjapmkoenmaa
