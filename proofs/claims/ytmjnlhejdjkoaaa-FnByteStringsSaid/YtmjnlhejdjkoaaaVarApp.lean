/- Contracts of AppendUvarint, of its helpers and of its model: b with the groups of n behind it, in memory of its own. No conditions but that b has at most 2^46 elements. -/
import Derived.Test.YtmjnlhejdjkoaaaVarint
import Derived.Test.YtmjnlhejdjkoaaaAppend
namespace Go.Proofs.Ytmjnlhejdjkoaaa
open Go.ChangeShapes Go.WideShapes Go.ChangeAt Go.RowKit
theorem or128 (m : Int) : bits .or .i64 (m % 128) 128 = m % 128 + 128 := by
  obtain ⟨y, hy⟩ := Int.eq_ofNat_of_zero_le (show 0 ≤ m % 128 by omega)
  rw [hy]
  have h := or_nat y 128 (by omega) (by omega)
  have e : y ||| 128 = 128 + y := by
    have := Nat.shiftLeft_add_eq_or_of_lt (show y < 2 ^ 7 by omega) 1
    rw [Nat.or_comm]
    simpa using this.symm
  rw [show ((128 : Nat) : Int) = 128 from rfl] at h
  rw [h, e]; omega
theorem bvs_snoc (zs : List Int) (x : Int) : bvs zs ++ [Value.int .u8 x] = bvs (zs ++ [x]) := by simp [bvs]
theorem bvs_app (zs ys : List Int) : bvs zs ++ bvs ys = bvs (zs ++ ys) := by simp [bvs]
theorem bvs_one (zs : List Int) : ∀ u ∈ bvs zs, u.oneCell' = true := int_one
theorem uv_split (f : Nat) (m : Int) (h1 : m < pw (f + 1)) (h : 128 ≤ m) : ∃ f', f = f' + 1 ∧ uv f m = (m % 128 + 128) :: uv f' (m / 128) ∧ 0 ≤ m / 128 ∧ m / 128 < pw (f' + 1) := by
  cases f with
  | zero => have : pw (0 + 1) = 128 := by decide
            omega
  | succ f => 
    have := pw_succ (f + 1)
    exact ⟨f, rfl, by simp [uv, show ¬ m < 128 by omega], by omega, by omega⟩
/-- append([]byte{}, b...): the part that both share. -/
theorem bvs_empty : (#[] : Array Value).toList = bvs [] := rfl
set_option maxHeartbeats 1600000 in
theorem copyOfBytes_any {w : World} {A : Option Addr} {n c : Nat} {zs : List Int} (hl : Hid (zs.length = n)) (hn : n ≤ 70368744177664) (hr : Rd w w.heap.size A (bvs zs)) :
    Calls Try.prog 46 #[.slice A n c] w (Fresh 5 (bvs zs) w) := by
  obtain ⟨i0, hi, hz0, hz1, hz2⟩ := info_parts ByteS_info
  have hrow := Row.made (w := w) w.heap.size #[] 0 5 (Nat.le_refl _) rfl (Nat.zero_le _)
  have hb0 : Below w.heap.size w (w.alloc (Obj.cells #[] 5)) := (Below.refl _ _).alloc (Nat.le_refl _) _
  have hr2 := hr.below hb0
  have hlen : (bvs zs).length = n := by rw [bvs_len, hl.out]
  have HL := Lib.hid hlen
  clear hlen
  go_enter Try.func46, Try.ntmps46
  go_wp2_with (first | (at_builtin; refine wpList_app rfl (.tmp 3) (.tmp 4) 22 rfl 5 i0 _ 1 Try.underlying22 hi hz0 hz1 hz2 rfl rfl rfl hrow HL.out hr2 (bvs_one zs) (by simp; unfold maxLen; omega) (by simp; omega) (by simp) ?_; intro v1 w1 hrow1 ho1))
  go_ret
  exact ⟨v1, rfl, hrow1.wide (Nat.le_refl _) (Nat.le_refl _), hb0.trans (ho1.below (Nat.le_refl _) (by simp))⟩
/-- A row that lies from block lo on is returned; below lo nothing has turned. -/
def Grew (lo : Nat) (t : TypeId) (xs : List Value) (w : World) (e : Ending) (w' : World) : Prop :=
  ∃ v, e = .returned v ∧ Row w' lo w'.heap.size t v xs ∧ Below lo w w'
theorem app_len {zs done : List Int} {k : Nat} (h : zs.length ≤ 70368744177664) (hd : done.length ≤ k) (hk : k ≤ 100) : (bvs (zs ++ done)).length + 1 ≤ maxLen ∧ ((bvs (zs ++ done)).length + 1) * 1 ≤ 140737488355328 := by
  rw [bvs_len, List.length_append]; unfold maxLen; omega
set_option maxHeartbeats 1600000 in
theorem putUvarint_any {w : World} {lo : Nat} {v : Value} {zs : List Int} {x : Int} (hn : zs.length ≤ 70368744177664) (hlo : lo ≤ w.heap.size) (hrow : Row w lo w.heap.size 5 v (bvs zs)) :
    Calls Try.prog 45 #[v, .int .i64 x] w (Grew lo 5 (bvs (zs ++ uvr x)) w) := by
  obtain ⟨i0, hi, hz0, hz1, hz2⟩ := info_parts ByteS_info
  by_cases hin : 0 ≤ x ∧ x ≤ 1000000000000
  · have hu : uvr x = uv 5 x := if_pos hin
    have e1 := inr_t hin.1 hin.2
    obtain ⟨h0, h1⟩ := hin
    have hp : x < pw (5 + 1) := by have := pw6; omega
    rw [hu]
    clear hu
    go_enter Try.func45, Try.ntmps45
    go_wp2_with (go_at_call 47; refine (inRange_any _ _ _ _).mono ?_; rintro e w1 ⟨rfl, rfl⟩)
    go_loopw [0, 1] (fun b m wr => ∃ (f : Nat) (q : Int) (done : List Int), m = .int .i64 q ∧ 0 ≤ q ∧ q ≤ 1000000000000 ∧ q < pw (f + 1) ∧ done.length + f ≤ 5 ∧ Hid (done ++ uv f q = uv 5 x) ∧ Row wr lo wr.heap.size 5 b (bvs (zs ++ done)) ∧ Below lo w wr) (fun _ m _ => (intOf m).toNat)
    case atStart => exact ⟨5, x, [], rfl, h0, h1, hp, by simp, rfl, by simpa using hrow, Below.refl _ _⟩
    case round =>
      obtain ⟨f, q, done, rfl, hq0, hq1, hqp, hf, huv, hrow, hb⟩ := hrel
      obtain ⟨l1, l2⟩ := app_len (done := done) (k := 5) hn (by omega) (by omega)
      have hsz := hb.size
      by_cases hbig : 128 ≤ q
      · obtain ⟨f', rfl, hsp, hq2, hq3⟩ := uv_split f q hqp hbig
        have e127 := and127 q hq0 (by omega)
        have e128 := or128 q
        have H1 := Lib.hid (show (done ++ [q % 128 + 128]) ++ uv f' (q / 128) = uv 5 x by rw [← huv.out, hsp, List.append_assoc]; rfl)
        clear hsp hqp
        have hbl : Below wr.heap.size wr (wr.alloc (Obj.cells #[Value.int .u8 (q % 128 + 128)] 5)) := (Below.refl _ _).alloc (Nat.le_refl _) _
        have hrow2 := hrow.new hbl
        have hmade := Rd.made wr #[Value.int .u8 (q % 128 + 128)] 5
        go_wp2_with (first | (at_builtin; refine wpList_app rfl _ _ 22 rfl 5 i0 _ 1 Try.underlying22 hi hz0 hz1 hz2 rfl rfl rfl hrow2 rfl hmade (by simp [Value.oneCell']) l1 l2 (by simp; omega) ?_; intro v1 w1 hrow1 ho1))
        have hs1 := ho1.size
        go_roundw
        case rel => exact ⟨f', _, _, rfl, hq2, by omega, hq3, by simp; omega, H1, by rw [← List.append_assoc, ← bvs_snoc]; exact hrow1, hb.trans ((hbl.mono (by omega)).trans (ho1.below (Nat.le_refl _) (by simp; omega)))⟩
        case measure => simp [intOf]; omega
      · have e3 : uv f q = [q] := uv_small f q (by omega)
        have H1 := Lib.hid (show done ++ [q] = uv 5 x by rw [← huv.out, e3])
        clear e3
        have hbl : Below wr.heap.size wr (wr.alloc (Obj.cells #[Value.int .u8 q] 5)) := (Below.refl _ _).alloc (Nat.le_refl _) _
        have hrow2 := hrow.new hbl
        have hmade := Rd.made wr #[Value.int .u8 q] 5
        go_wp2_with (first | (at_builtin; refine wpList_app rfl _ _ 22 rfl 5 i0 _ 1 Try.underlying22 hi hz0 hz1 hz2 rfl rfl rfl hrow2 rfl hmade (by simp [Value.oneCell']) l1 l2 (by simp; omega) ?_; intro v1 w1 hrow1 ho1))
        go_ret
        exact ⟨v1, rfl, by rw [← H1.out, ← List.append_assoc, ← bvs_snoc]; exact hrow1, hb.trans ((hbl.mono (by omega)).trans (ho1.below (Nat.le_refl _) (by simp; omega)))⟩
  · have hu : uvr x = [] := if_neg hin
    have e1 := inr_f (n := x) (lo := 0) (hi := 1000000000000) (by omega)
    rw [hu, List.append_nil]
    clear hu hin
    go_enter Try.func45, Try.ntmps45
    go_wp2_with (go_at_call 47; refine (inRange_any _ _ _ _).mono ?_; rintro e w1 ⟨rfl, rfl⟩)
    go_ret
    exact ⟨v, rfl, hrow, Below.refl _ _⟩
theorem impAppendUvarint_any {w : World} {A : Option Addr} {n c : Nat} {zs : List Int} {x : Int} (hl : Hid (zs.length = n)) (hn : n ≤ 70368744177664) (hr : Rd w w.heap.size A (bvs zs)) :
    Calls Try.prog 14 #[.slice A n c, .int .i64 x] w (Fresh 5 (bvs (zs ++ uvr x)) w) := by
  have hn2 : zs.length ≤ 70368744177664 := by rw [hl.out]; exact hn
  go_enter Try.func14, Try.ntmps14
  go_wp2_with (first
    | (go_at_call 46; refine (copyOfBytes_any hl hn hr).mono ?_; rintro e w1 ⟨v1, rfl, hrow1, hb1⟩)
    | (go_at_call 45; refine (putUvarint_any hn2 hb1.size hrow1).mono ?_; rintro e w2 ⟨v2, rfl, hrow2, hb2⟩))
  go_ret
  exact ⟨v2, rfl, hrow2, hb1.trans hb2⟩
set_option maxHeartbeats 1600000 in
theorem specAppendUvarint_any {w : World} {A : Option Addr} {n c : Nat} {zs : List Int} {x : Int} (hl : Hid (zs.length = n)) (hn : n ≤ 70368744177664) (hr : Rd w w.heap.size A (bvs zs)) :
    Calls Try.prog 26 #[.slice A n c, .int .i64 x] w (Fresh 5 (bvs (zs ++ uvr x)) w) := by
  obtain ⟨i0, hi, hz0, hz1, hz2⟩ := info_parts ByteS_info
  have hn2 : zs.length ≤ 70368744177664 := by rw [hl.out]; exact hn
  have hrow0 := Row.made (w := w) w.heap.size #[] 0 5 (Nat.le_refl _) rfl (Nat.zero_le _)
  have hb0 : Below w.heap.size w (w.alloc (Obj.cells #[] 5)) := (Below.refl _ _).alloc (Nat.le_refl _) _
  have hr2 := hr.below hb0
  have hlen : (bvs zs).length = n := by rw [bvs_len, hl.out]
  have HL := Lib.hid hlen
  clear hlen
  by_cases hin : 0 ≤ x ∧ x ≤ 1000000000000
  · have hu : uvr x = uv 5 x := if_pos hin
    have e1 := inr_t hin.1 hin.2
    obtain ⟨h0, h1⟩ := hin
    have hp : x < pw (5 + 1) := by have := pw6; omega
    rw [hu]
    clear hu
    go_enter Try.func26, Try.ntmps26
    go_wp2_with (first
      | (go_at_call 53; refine (l1In_any _ _ _ _).mono ?_; rintro e w9 ⟨rfl, rfl⟩)
      | (at_builtin; refine wpList_app rfl (.tmp 6) (.tmp 7) 22 rfl 5 i0 _ 1 Try.underlying22 hi hz0 hz1 hz2 rfl rfl rfl hrow0 HL.out hr2 (bvs_one zs) (by simp; unfold maxLen; omega) (by simp; omega) (by simp) ?_; intro v1 w1 hrow1 ho1))
    have hs1 := ho1.size
    have hb1 := hb0.trans (ho1.below (Nat.le_refl _) (by simp))
    have hs2 := hb1.size
    rw [show #[].toList ++ bvs zs = bvs zs from rfl] at hrow1
    clear hb0 hr2 hr hrow0 ho1
    go_loopw [1, 5] (fun m b wr => ∃ (f : Nat) (q : Int) (done : List Int), m = .int .i64 q ∧ 0 ≤ q ∧ q ≤ 1000000000000 ∧ q < pw (f + 1) ∧ done.length + f ≤ 5 ∧ Hid (done ++ uv f q = uv 5 x) ∧ Row wr w.heap.size wr.heap.size 5 b (bvs (zs ++ done)) ∧ Below w.heap.size w wr) (fun m _ _ => (intOf m).toNat)
    case atStart => exact ⟨5, x, [], rfl, h0, h1, hp, by simp, rfl, by simpa using hrow1, hb1⟩
    case round =>
      obtain ⟨f, q, done, rfl, hq0, hq1, hqp, hf, huv, hrow, hb⟩ := hrel
      obtain ⟨l1, l2⟩ := app_len (done := done) (k := 5) hn2 (by omega) (by omega)
      have hsz := hb.size
      clear hrow1 hb1 hs1 hs2
      by_cases hbig : 128 ≤ q
      · obtain ⟨f', rfl, hsp, hq2, hq3⟩ := uv_split f q hqp hbig
        have e127 := and127 q hq0 (by omega)
        have e128 := or128 q
        have H1 := Lib.hid (show (done ++ [q % 128 + 128]) ++ uv f' (q / 128) = uv 5 x by rw [← huv.out, hsp, List.append_assoc]; rfl)
        clear hsp hqp
        have hbl : Below wr.heap.size wr (wr.alloc (Obj.cells #[Value.int .u8 (q % 128 + 128)] 5)) := (Below.refl _ _).alloc (Nat.le_refl _) _
        have hrow2 := hrow.new hbl
        have hmade := Rd.made wr #[Value.int .u8 (q % 128 + 128)] 5
        go_wp2_with (first | (at_builtin; refine wpList_app rfl (.tmp 15) (.tmp 20) 22 rfl 5 i0 _ 1 Try.underlying22 hi hz0 hz1 hz2 rfl rfl rfl hrow2 rfl hmade (by simp [Value.oneCell']) l1 l2 (by simp; omega) ?_; intro v1 w1 hrow1 ho1))
        have hs1 := ho1.size
        go_roundw
        case rel => exact ⟨f', _, _, rfl, hq2, by omega, hq3, by simp; omega, H1, by rw [← List.append_assoc, ← bvs_snoc]; exact hrow1, hb.trans ((hbl.mono (by omega)).trans (ho1.below (Nat.le_refl _) (by simp; omega)))⟩
        case measure => simp [intOf]; omega
      · have e3 : uv f q = [q] := uv_small f q (by omega)
        have H1 := Lib.hid (show done ++ [q] = uv 5 x by rw [← huv.out, e3])
        clear e3
        have hbl : Below wr.heap.size wr (wr.alloc (Obj.cells #[Value.int .u8 q] 5)) := (Below.refl _ _).alloc (Nat.le_refl _) _
        have hrow2 := hrow.new hbl
        have hmade := Rd.made wr #[Value.int .u8 q] 5
        go_wp2_with (first | (at_builtin; refine wpList_app rfl (.tmp 24) (.tmp 27) 22 rfl 5 i0 _ 1 Try.underlying22 hi hz0 hz1 hz2 rfl rfl rfl hrow2 rfl hmade (by simp [Value.oneCell']) l1 l2 (by simp; omega) ?_; intro v1 w1 hrow1 ho1))
        go_ret
        exact ⟨v1, rfl, by rw [← H1.out, ← List.append_assoc, ← bvs_snoc]; exact hrow1, hb.trans ((hbl.mono (by omega)).trans (ho1.below (Nat.le_refl _) (by simp; omega)))⟩
  · have hu : uvr x = [] := if_neg hin
    have e1 := inr_f (n := x) (lo := 0) (hi := 1000000000000) (by omega)
    rw [hu, List.append_nil]
    clear hu hin
    go_enter Try.func26, Try.ntmps26
    go_wp2_with (first
      | (go_at_call 53; refine (l1In_any _ _ _ _).mono ?_; rintro e w9 ⟨rfl, rfl⟩)
      | (at_builtin; refine wpList_app rfl (.tmp 6) (.tmp 7) 22 rfl 5 i0 _ 1 Try.underlying22 hi hz0 hz1 hz2 rfl rfl rfl hrow0 HL.out hr2 (bvs_one zs) (by simp; unfold maxLen; omega) (by simp; omega) (by simp) ?_; intro v1 w1 hrow1 ho1))
    go_ret
    exact ⟨v1, rfl, hrow1, hb0.trans (ho1.below (Nat.le_refl _) (by simp))⟩
end Go.Proofs.Ytmjnlhejdjkoaaa
