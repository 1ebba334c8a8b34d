/- Contracts of the code of chapter 11: has, sharedRows, tablesOf, IsAlways, CanHold, CountRows, AreAlike. Condition: the slices have at most 2^40 elements. -/
import Derived.Test.YtignchefkihdaaaDoorTabC
import Derived.Test.YtignchefkihdaaaDoorOnes64
import Derived.Test.YtignchefkihdaaaDoorAppFull
import Derived.Test.YtignchefkihdaaaDoorStoMath
namespace Go.Proofs.YtignchefkihdaaaDoor
open Go.ChangeShapes Go.WideShapes Go.ChangeAt Go.RowKit
set_option maxRecDepth 100000
/-- Tables as cells. -/
def uvs (l : List Nat) : List Value := l.map fun (z : Nat) => Value.int .u64 (z : Int)
theorem uvs_len (l : List Nat) : (uvs l).length = l.length := by simp [uvs]
theorem uvs_one {l : List Nat} : ∀ u ∈ uvs l, u.oneCell' = true := by
  intro u hu
  obtain ⟨n, _, rfl⟩ := List.mem_map.1 hu
  rfl
theorem uvs_at {w : World} {B : Nat} {A : Option Addr} {l : List Nat} (h : Rd w B A (uvs l)) {k : Nat} (hk : k < l.length) : ∃ ad, A = some ad ∧ ad.block < B ∧ w.cell? (ad.add k) = some (.int .u64 (l[k] : Nat)) :=
  h k _ (by simp [uvs, hk])
theorem TabT_info : (Tryd.prog.info? 51).map (fun i => (i.zero, i.size, i.bytes)) = some (some (.int .u64 0), 1, 8) := by kernel_rfl
theorem has_row (x m : Nat) (hx : x < 18446744073709551616) : (bits .and .u64 ((x : Int) / 2 ^ m) 1 == 1) = x.testBit m := by
  have e : ((x : Int) / 2 ^ m) = ((x / 2 ^ m : Nat) : Int) := by push_cast; rfl
  have hl : x / 2 ^ m < 18446744073709551616 := Nat.lt_of_le_of_lt (Nat.div_le_self _ _) hx
  rw [e, show (1 : Int) = ((1 : Nat) : Int) from rfl, u64_and_nat _ _ hl (by omega), Nat.and_one_is_mod, Nat.testBit_eq_decide_div_mod_eq]
  by_cases h : x / 2 ^ m % 2 = 1
  · rw [h]; simp
  · simp [h]
    omega
section
variable {w : World} {A A' : Option Addr} {n c n' c' : Nat} {X : List (List Int)} {f : List Int}
def andN (l : List Nat) : Nat := l.foldl (· &&& ·) 18446744073709551615
theorem andN_tab (X : List (List Int)) : andN (X.map tabN) = shrN X := by
  have key : ∀ (n : Nat) (X : List (List Int)), X.length = n → andN (X.map tabN) = shrN X := by
    intro n
    induction n with
    | zero => intro X h; rw [List.eq_nil_of_length_eq_zero h, shrN_nil]; rfl
    | succ n ih =>
      intro X h
      have hne : X ≠ [] := fun e => by subst e; simp at h
      have e := List.dropLast_concat_getLast hne
      rw [← e, shrN_snoc, List.map_append]
      unfold andN
      rw [List.foldl_append]
      show andN (X.dropLast.map tabN) &&& tabN (X.getLast hne) = _
      rw [ih _ (by rw [List.length_dropLast]; omega)]
  exact key _ X rfl
theorem andN_take {l : List Nat} {k : Nat} (hk : k < l.length) : andN (l.take (k + 1)) = andN (l.take k) &&& l[k] := by
  unfold andN
  rw [List.take_succ_eq_append_getElem hk, List.foldl_append]; rfl
theorem andN_le (l : List Nat) : andN l < 18446744073709551616 := by
  have key : ∀ (l : List Nat) (b : Nat), b < 18446744073709551616 → l.foldl (· &&& ·) b < 18446744073709551616 := by
    intro l
    induction l with
    | nil => intro b h; exact h
    | cons x l ih => intro b h; exact ih _ (Nat.lt_of_le_of_lt Nat.and_le_left h)
  exact key l _ (by decide)
theorem sharedRows_any {l : List Nat} (hl : Hid (l.length = n)) (hn : n ≤ 1099511627776) (hb : Hid (∀ z ∈ l, z < 18446744073709551616)) (hr : Rd w w.heap.size A (uvs l)) :
    Calls Tryd.prog 23 #[.slice A n c] w (fun e w' => e = .returned (.int .u64 (andN l : Nat)) ∧ w = w') := by
  go_enter Tryd.func23, Tryd.ntmps23
  go_wp2_with fail
  go_loop [3, 8] (fun s i => ∃ k : Nat, k ≤ n ∧ i = .int .i64 k ∧ s = .int .u64 (andN (l.take k) : Nat)) (fun _ i => n - (intOf i).toNat)
  case atStart => exact ⟨0, Nat.zero_le _, rfl, rfl⟩
  case round =>
    obtain ⟨k, hk, rfl, rfl⟩ := hrel
    by_cases hlt : k < n
    · have hkz : k < l.length := by rw [hl.out]; exact hlt
      obtain ⟨ad, rfl, hab, hc⟩ := uvs_at hr hkz
      have HA := Lib.hid (u64_and_nat (andN (l.take k)) l[k] (andN_le _) (hb.out _ (List.getElem_mem _)))
      have HT := Lib.hid (andN_take hkz)
      obtain ⟨x, hx⟩ : ∃ x, x = l[k] := ⟨_, rfl⟩
      rw [← hx] at hc HA HT
      have i0 : (0 : Int) ≤ (k : Int) := by omega
      clear hx
      go_wp2_with fail
      rw [HA.out]
      go_wp2_with fail
      go_round
      case rel => exact ⟨k + 1, by omega, by go_num, by rw [HT.out]⟩
      case measure => simp [intOf]; omega
    · have e : k = n := by omega
      subst e
      have HV := Lib.hid (show andN l = andN (l.take k) by rw [List.take_of_length_le (by rw [hl.out]; exact Nat.le_refl _)])
      go_wp2_with fail
      go_ret
      exact ⟨by rw [HV.out]; rfl, rfl⟩
theorem okR_take {k : Nat} (hk : k < X.length) (h : okR (X.take k) = true) (hx : isF X[k] = true) : okR (X.take (k + 1)) = true := by
  unfold okR at *
  rw [List.take_succ_eq_append_getElem hk, List.all_append, h]; simp [hx]
theorem okR_bad {k : Nat} (hk : k < X.length) (hx : isF X[k] = false) : okR X = false := by
  cases h : okR X with
  | false => rfl
  | true => rw [okR_mem.1 h _ (List.getElem_mem hk)] at hx; cases hx
set_option maxHeartbeats 2000000 in
theorem tablesOf_any (hl : Hid (X.length = n)) (hn : n ≤ 1099511627776) (hr : RdSS w w.heap.size A X) :
    Calls Tryd.prog 22 #[.slice A n c] w (fun e w' => ∃ v, e = .returned (.tuple #[v, .bool (okR X)]) ∧ (okR X = true → Row w' w.heap.size w'.heap.size 51 v (uvs (X.map tabN))) ∧ Below w.heap.size w w') := by
  obtain ⟨i0, hi, hz0, hz1, hz2⟩ := info_parts TabT_info
  have hrow0 := (Row.made (w := w) w.heap.size #[] 0 51 (Nat.le_refl _) rfl (Nat.zero_le _)).wide (hi' := (w.alloc (Obj.cells #[] 51)).heap.size) (Nat.le_refl _) (by simp)
  have k0 := alloc_new w (Obj.cells #[] 51)
  have HR := Lib.hid hr
  clear hr
  go_enter Tryd.func22, Tryd.ntmps22
  go_wp2_with fail
  go_loopw [4, 12] (fun v i wr => ∃ k : Nat, k ≤ n ∧ i = .int .i64 k ∧ Row wr w.heap.size wr.heap.size 51 v (uvs ((X.take k).map tabN)) ∧ Below w.heap.size w wr ∧ Hid (okR (X.take k) = true)) (fun _ i _ => n - (intOf i).toNat)
  case atStart => exact ⟨0, Nat.zero_le _, rfl, hrow0, k0, Lib.hid rfl⟩
  case round =>
    obtain ⟨k, hk, rfl, hrow, hbw, hok⟩ := hrel
    have hsz := hbw.size
    clear hrow0 k0
    by_cases hlt : k < n
    · have hkz : k < X.length := by rw [hl.out]; exact hlt
      obtain ⟨ad, Aj, cj, rfl, hab, hc, _, _, hrd⟩ := ((HR.out.below hbw).more hsz).at_ hkz
      have HNX := Lib.hid (fun (h : isF X[k] = true) => okR_take hkz hok.out h)
      have HNO := Lib.hid (fun (h : isF X[k] = false) => okR_bad hkz h)
      have HE := Lib.hid (show uvs ((X.take (k + 1)).map tabN) = uvs ((X.take k).map tabN) ++ [.int .u64 (tabN X[k] : Nat)] by rw [List.take_succ_eq_append_getElem hkz, List.map_append]; unfold uvs; rw [List.map_append]; rfl)
      have L1 := Lib.hid (show (uvs ((X.take k).map tabN)).length + 1 ≤ maxLen ∧ ((uvs ((X.take k).map tabN)).length + 1) * 8 ≤ 140737488355328 by rw [uvs_len, List.length_map, List.length_take]; unfold maxLen; omega)
      obtain ⟨x, hx⟩ : ∃ x, x = X[k] := ⟨_, rfl⟩
      rw [← hx] at hc hrd HNX HNO HE
      have i0' : (0 : Int) ≤ (k : Int) := by omega
      clear hx hok
      go_wp2_with fail
      refine (tableOf_any (f := x) (Lib.hid rfl) hrd).mono ?_
      rintro e w1 ⟨rfl, r⟩
      have q := hbw.trans (r.mono hsz)
      have hrow1 := hrow.new r
      obtain ⟨b, hb⟩ : ∃ b, b = isF x := ⟨_, rfl⟩
      rw [← hb] at HNX HNO ⊢
      clear hb hrow
      cases b with
      | true =>
        obtain ⟨T, hT⟩ : ∃ T : Nat, T = tabN x := ⟨_, rfl⟩
        rw [← hT] at HE ⊢
        have hrow2 := hrow1.new (alloc_new w1 (Obj.cells #[.int .u64 (T : Int)] 51))
        have hmade := Rd.made w1 #[.int .u64 (T : Int)] 51
        have hba := q.alloc (B := w.heap.size) q.size (Obj.cells #[.int .u64 (T : Int)] 51)
        have hq := q.size
        clear hT hrow1
        go_wp2_with (at_builtin; refine wpList_app rfl (.tmp 23) (.tmp 25) 47 rfl 51 i0 _ 8 Tryd.underlying47 hi hz0 hz1 hz2 rfl rfl rfl hrow2 rfl hmade (by simp [Value.oneCell']) L1.out.1 L1.out.2 (by simp; omega) ?_; intro v1 w3 row3 ho3)
        go_roundw
        case rel => exact ⟨k + 1, by omega, by go_num, by rw [HE.out]; exact row3.wide (Nat.le_refl _) (Nat.le_refl _), hba.trans (ho3.below (Nat.le_refl _) (by simp; omega)), Lib.hid (HNX.out (by trivial))⟩
        case measure => simp [intOf]; omega
      | false =>
        have HV := HNO.out (by trivial)
        have HV2 := Lib.hid HV
        clear HV
        go_wp2_with fail
        go_ret2
        exact ⟨.slice none 0 0, by rw [HV2.out]; rfl, fun h => (by rw [HV2.out] at h; cases h), q⟩
    · have e : k = n := by omega
      subst e
      have HTK := Lib.hid (show X.take k = X from List.take_of_length_le (by rw [hl.out]; exact Nat.le_refl _))
      have HRW := Lib.hid hrow
      clear hrow
      go_wp2_with fail
      go_ret2
      refine ⟨_, by rw [show okR X = true by have := hok.out; rw [HTK.out] at this; exact this]; rfl, fun _ => ?_, hbw⟩
      have := HRW.out
      rw [HTK.out] at this
      exact this
theorem impIsAlways_any (hl : Hid (f.length = n)) (hr : Rd w w.heap.size A (ivs f)) :
    Calls Tryd.prog 14 #[.slice A n c] w (Tells (alwR f) w) := by
  have HV := Lib.hid (show alwR f = ((tabN f : Int) == 18446744073709551615) by rw [← tabN_always, Bool.eq_iff_iff, decide_eq_true_iff, beq_iff_eq]; omega)
  go_enter Tryd.func14, Tryd.ntmps14
  go_wp2_with fail
  refine (tableOf_any (f := f) hl hr).mono ?_
  rintro e w1 ⟨rfl, hb⟩
  go_wp2_with fail
  go_ret
  exact ⟨ret_b HV.out.symm, hb⟩
theorem impCountRows_any (hl : Hid (f.length = n)) (hr : Rd w w.heap.size A (ivs f)) :
    Calls Tryd.prog 12 #[.slice A n c] w (fun e w' => e = .returned (.int .i64 (cntR f : Nat)) ∧ Below w.heap.size w w') := by
  have HV := Lib.hid (tabN_cnt f)
  go_enter Tryd.func12, Tryd.ntmps12
  go_wp2_with fail
  refine (tableOf_any (f := f) hl hr).mono ?_
  rintro e w1 ⟨rfl, hb⟩
  go_wp2_with fail
  refine (ones64_any (tabN_lt f)).mono ?_
  rintro e w2 ⟨rfl, rfl⟩
  rw [HV.out]
  go_wp2_with fail
  go_ret
  exact ⟨rfl, hb⟩
theorem tabs_lt : ∀ z ∈ X.map tabN, z < 18446744073709551616 := by
  intro z hz
  obtain ⟨x, _, rfl⟩ := List.mem_map.1 hz
  exact tabN_lt x
theorem impCanHold_any (hl : Hid (X.length = n)) (hn : n ≤ 1099511627776) (hr : RdSS w w.heap.size A X) :
    Calls Tryd.prog 9 #[.slice A n c] w (Tells (canR X) w) := by
  obtain ⟨b, hb⟩ : ∃ b, b = okR X := ⟨_, rfl⟩
  have HB := Lib.hid hb.symm
  clear hb
  go_enter Tryd.func9, Tryd.ntmps9
  go_wp2_with fail
  refine (tablesOf_any (X := X) hl hn hr).mono ?_
  rintro e w1 ⟨v, rfl, hrow, hb⟩
  rw [HB.out]
  cases b with
  | false =>
    have HV := Lib.hid (canR_no HB.out)
    clear hrow
    go_wp2_with fail
    go_ret
    exact ⟨ret_b HV.out.symm, hb⟩
  | true =>
    have HV := Lib.hid (show canR X = ((shrN X : Int) != 0) by rw [← shrN_can HB.out, Bool.eq_iff_iff, decide_eq_true_iff, bne_iff_ne]; omega)
    obtain ⟨Ab, cb, rfl, hrb, _, _⟩ := (hrow HB.out).rd (n := n) (by rw [uvs_len, List.length_map, hl.out])
    clear hrow
    go_wp2_with fail
    refine (sharedRows_any (l := X.map tabN) (Lib.hid (by rw [List.length_map, hl.out])) hn (Lib.hid tabs_lt) hrb).mono ?_
    rintro e w2 ⟨rfl, rfl⟩
    rw [andN_tab]
    go_wp2_with fail
    go_ret
    exact ⟨ret_b HV.out.symm, hb⟩
theorem rdSS_two {x y : List Int} {A1 A2 : Option Addr} {c1 c2 : Nat} (h1 : Rd w w.heap.size A1 (ivs x)) (h2 : Rd w w.heap.size A2 (ivs y)) (m1 : x.length ≤ c1) (m2 : y.length ≤ c2) (k1 : c1 ≤ maxLen) (k2 : c2 ≤ maxLen) :
    RdSS (w.alloc (Obj.cells #[.slice A1 x.length c1, .slice A2 y.length c2] 25)) (w.heap.size + 1) (some ⟨w.heap.size, 0, none⟩) [x, y] := by
  have hb := alloc_new w (Obj.cells #[.slice A1 x.length c1, .slice A2 y.length c2] 25)
  have hm := Rd.made w #[.slice A1 x.length c1, .slice A2 y.length c2] 25
  intro k z hz
  match k, hz with
  | 0, hz =>
    simp at hz
    subst hz
    obtain ⟨ad, e, hl, hc⟩ := hm 0 _ rfl
    exact ⟨ad, A1, c1, e, hl, hc, m1, k1, (h1.below hb).more (Nat.le_succ _)⟩
  | 1, hz =>
    simp at hz
    subst hz
    obtain ⟨ad, e, hl, hc⟩ := hm 1 _ rfl
    exact ⟨ad, A2, c2, e, hl, hc, m2, k2, (h2.below hb).more (Nat.le_succ _)⟩
  | k + 2, hz => simp at hz
set_option maxHeartbeats 2000000 in
theorem impAreAlike_any {a b : List Int} (hc : a.length ≤ c) (hcm : c ≤ maxLen) (hr : Rd w w.heap.size A (ivs a)) (hc' : b.length ≤ c') (hcm' : c' ≤ maxLen) (hr' : Rd w w.heap.size A' (ivs b)) :
    Calls Tryd.prog 16 #[.slice A a.length c, .slice A' b.length c'] w (Tells (alkR a b) w) := by
  have hb := alloc_new w (Obj.cells #[.slice A a.length c, .slice A' b.length c'] 25)
  have hr2 := rdSS_two hr hr' hc hc' hcm hcm'
  obtain ⟨W1, hW⟩ : ∃ v : World, v = w.alloc (Obj.cells #[.slice A a.length c, .slice A' b.length c'] 25) := ⟨_, rfl⟩
  have hsz : W1.heap.size = w.heap.size + 1 := by rw [hW]; simp
  rw [← hW] at hb hr2
  rw [← hsz] at hr2
  have HW := Lib.hid hW.symm
  have HR2 := Lib.hid hr2
  have hok : okR [a, b] = (isF a && isF b) := by simp [okR]
  obtain ⟨d, hd⟩ : ∃ d, d = (isF a && isF b) := ⟨_, rfl⟩
  rw [← hd] at hok
  have HD := Lib.hid hd.symm
  have HO := Lib.hid hok
  clear hW hr2 hsz hr hr' hok hd
  go_enter Tryd.func16, Tryd.ntmps16
  go_wp2_with fail
  rw [HW.out]
  refine (tablesOf_any (X := [a, b]) (n := 2) (Lib.hid rfl) (by omega) HR2.out).mono ?_
  rintro e w1 ⟨v, rfl, hrow, hb1⟩
  rw [HO.out]
  have q := hb.trans (hb1.mono hb.size)
  cases d with
  | false =>
    have HV := Lib.hid (alkR_off HD.out)
    clear hrow
    go_wp2_with fail
    go_quiet (fail)
    go_wp2_with fail
    go_ret
    exact ⟨ret_b HV.out.symm, below_drewN q _⟩
  | true =>
    have hab : isF a = true ∧ isF b = true := by simpa using HD.out
    have HV := Lib.hid (show alkR a b = ((tabN a : Int) == (tabN b : Int)) by rw [← tabN_alike hab.1 hab.2, Bool.eq_iff_iff, decide_eq_true_iff, beq_iff_eq]; omega)
    have hrw := hrow HO.out
    obtain ⟨g, cap, e1, _, _, hcell⟩ := hrw.at0 (by simp [uvs])
    have c1 := hcell 0 (.int .u64 (tabN a : Nat)) rfl
    have c2 := hcell 1 (.int .u64 (tabN b : Nat)) rfl
    simp only [uvs_len, List.length_map, List.length_cons, List.length_nil] at e1
    subst e1
    clear hrow hrw hcell hab
    go_wp2_with fail
    go_region
    go_wp2_with fail
    go_ret
    exact ⟨ret_b HV.out.symm, below_drewN q 1⟩
end
end Go.Proofs.YtignchefkihdaaaDoor
