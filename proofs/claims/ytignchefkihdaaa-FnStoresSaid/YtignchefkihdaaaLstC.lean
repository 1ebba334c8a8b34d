/- Contract of the code's LeastBack. Condition: the slices have at most 2^40 elements. -/
import Derived.Test.YtignchefkihdaaaFndC
namespace Go.Proofs.Ytignchefkihdaaa
open Go.ChangeShapes Go.WideShapes Go.ChangeAt Go.RowKit
set_option maxRecDepth 100000
/-- How many of the tables have no row m. -/
def missN (l : List Nat) (m : Nat) : Nat := (l.filter fun z => !(z.testBit m)).length
theorem missN_step {l : List Nat} {k m : Nat} (hk : k < l.length) : missN (l.take (k + 1)) m = missN (l.take k) m + if l[k].testBit m then 0 else 1 := by
  unfold missN
  rw [List.take_succ_eq_append_getElem hk, List.filter_append, List.length_append]
  cases h : l[k].testBit m <;> simp [h]
theorem missN_tab (X : List (List Int)) {m : Nat} (hm : m < 64) : missN (X.map tabN) m = badN X m := by
  unfold missN badN
  rw [List.filter_map, List.length_map]
  congr 1
  refine List.filter_congr fun x _ => ?_
  show (!(tabN x).testBit m) = _
  rw [tabN_bit x hm]
theorem missN_le (l : List Nat) (m : Nat) : missN l m ≤ l.length := List.length_filter_le _ _
section
variable {w : World} {A A' : Option Addr} {n c n' c' : Nat} {X : List (List Int)} {f : List Int}
theorem leastF_any {g m : Nat} {l : List Nat} (hg : w.cell? ⟨g, 0, none⟩ = some (.slice A n c)) (hm : m < 64) (hl : Hid (l.length = n)) (hn : n ≤ 1099511627776) (hb : Hid (∀ z ∈ l, z < 18446744073709551616)) (hr : Rd w w.heap.size A (uvs l)) :
    Calls Try.prog 79 #[.int .i64 m, .pointer (some ⟨g, 0, none⟩)] w (fun e w' => e = .returned (.int .i64 (missN l m : Nat)) ∧ w = w') := by
  go_enter Try.func79, Try.ntmps79
  go_wp2_with fail
  go_loop [4, 9] (fun s i => ∃ k : Nat, k ≤ n ∧ i = .int .i64 k ∧ s = .int .i64 (missN (l.take k) m : Nat)) (fun _ i => n - (intOf i).toNat)
  case atStart => exact ⟨0, Nat.zero_le _, rfl, rfl⟩
  case round =>
    obtain ⟨k, hk, rfl, rfl⟩ := hrel
    by_cases hlt : k < n
    · have hkz : k < l.length := by rw [hl.out]; exact hlt
      obtain ⟨ad, rfl, hab, hc⟩ := uvs_at hr hkz
      have hz := hb.out _ (List.getElem_mem hkz)
      have HS := Lib.hid (missN_step (m := m) hkz)
      have hle := missN_le (l.take k) m
      rw [List.length_take] at hle
      obtain ⟨z, hzz⟩ : ∃ z, z = l[k] := ⟨_, rfl⟩
      rw [← hzz] at hc hz HS
      obtain ⟨B, hB⟩ : ∃ B, B = missN (l.take k) m := ⟨_, rfl⟩
      rw [← hB] at HS hle ⊢
      obtain ⟨b, hbb⟩ : ∃ b, b = z.testBit m := ⟨_, rfl⟩
      have HB := Lib.hid hbb.symm
      rw [← hbb] at HS
      have i0 : (0 : Int) ≤ (k : Int) := by omega
      clear hzz hB hbb
      go_wp2_with fail
      refine (hasRow_any hz hm).mono ?_
      rintro e w1 ⟨rfl, rfl⟩
      rw [HB.out]
      cases b with
      | true =>
        have HF := Lib.hid (show missN (l.take (k + 1)) m = B by rw [HS.out]; rfl)
        go_wp2_with fail
        go_round
        case rel => exact ⟨k + 1, by omega, by go_num, by rw [HF.out]⟩
        case measure => simp [intOf]; omega
      | false =>
        have HF := Lib.hid (show missN (l.take (k + 1)) m = B + 1 by rw [HS.out]; rfl)
        go_wp2_with fail
        go_round
        case rel => exact ⟨k + 1, by omega, by go_num, by rw [HF.out]; go_num⟩
        case measure => simp [intOf]; omega
    · have e : k = n := by omega
      subst e
      have HTK := Lib.hid (show l.take k = l from List.take_of_length_le (by rw [hl.out]; exact Nat.le_refl _))
      rw [HTK.out]
      go_wp2_with fail
      go_ret
      exact ⟨rfl, rfl⟩
theorem ldI_succ (X : List (List Int)) (f : List Int) (m : Nat) : ldI X f (m + 1) = if valR f m && (decide (ldI X f m < 0) || decide ((badN X m : Int) < ldI X f m)) then (badN X m : Int) else ldI X f m := rfl
theorem ldI_lo (X : List (List Int)) (f : List Int) (m : Nat) : -1 ≤ ldI X f m ∧ ldI X f m ≤ X.length := by
  rw [ldI_eq]
  have := lsN_le X f m
  split <;> omega
set_option maxHeartbeats 4000000 in
theorem impLeastBack_any (hl : Hid (X.length = n)) (hn : n ≤ 1099511627776) (hs : Hid (∀ x ∈ X, x.length ≤ 1099511627776)) (hr : RdSS w w.heap.size A X) (hl' : Hid (f.length = n')) (hr' : Rd w w.heap.size A' (ivs f)) :
    Calls Try.prog 20 #[.slice A n c, .slice A' n' c'] w (fun e w' => e = .returned (.int .i64 (lstN X f)) ∧ Below w.heap.size w w') := by
  by_cases hst : storeB X = true
  case neg =>
    have HB := Lib.hid (show storeB X = false by simpa using hst)
    have HV := Lib.hid (show lstN X f = -1 from lst_off (by rw [HB.out]; rfl))
    clear hst
    go_enter Try.func20, Try.ntmps20
    go_wp2_with fail
    refine (impIsStore_any hl hn hs hr).mono ?_
    rintro e w1 ⟨rfl, r⟩
    rw [HB.out]
    go_wp2_with fail
    go_ret
    exact ⟨ret_i HV.out.symm, r⟩
  case pos =>
    have HB := Lib.hid hst
    have HOK := Lib.hid (can_ok (store_can hst))
    have HV := Lib.hid (ldI_lst f hst)
    have HR := Lib.hid hr
    have HR' := Lib.hid hr'
    clear hst hr hr'
    go_enter Try.func20, Try.ntmps20
    go_wp2_with fail
    refine (impIsStore_any hl hn hs HR.out).mono ?_
    rintro e w1 ⟨rfl, r⟩
    rw [HB.out]
    go_wp2_with fail
    refine (tablesOf_any hl hn ((HR.out.below r).more r.size)).mono ?_
    rintro e w2 ⟨v, rfl, hrow, r2⟩
    rw [HOK.out]
    have q2 := r.trans (r2.mono r.size)
    obtain ⟨Ab, cb, rfl, hrb, _, _⟩ := (hrow HOK.out).rd (n := n) (by rw [uvs_len, List.length_map, hl.out])
    have bx := Bx.made w2 93 #[.slice Ab n cb]
    have hb3 := alloc_new w2 (Obj.cells #[.slice Ab n cb] 93)
    obtain ⟨W3, hW⟩ : ∃ v : World, v = w2.alloc (Obj.cells #[.slice Ab n cb] 93) := ⟨_, rfl⟩
    rw [← hW] at bx hb3
    have HW := Lib.hid hW.symm
    have q3 := q2.trans (hb3.mono q2.size)
    have HTB := Lib.hid ((hrb.below hb3).more hb3.size)
    have HG := Lib.hid (bx.at_ (k := 0) (v := .slice Ab n cb) rfl)
    have HR3' := Lib.hid ((HR'.out.below q3).more q3.size)
    clear hW hrow hrb bx
    go_wp2_with fail
    rw [HW.out]
    refine (tableOf_any (f := f) hl' HR3'.out).mono ?_
    rintro e w4 ⟨rfl, r4⟩
    have q4 := q3.trans (r4.mono q3.size)
    have HTB4 := Lib.hid ((HTB.out.below r4).more r4.size)
    have HG4 := Lib.hid ((r4.cell (p := ⟨w2.heap.size, 0, none⟩) (cell_lt HG.out)).trans HG.out)
    have HTL := Lib.hid (tabN_lt f)
    have HTBIT := Lib.hid (fun m (hm : m < 64) => tabN_bit f (m := m) hm)
    obtain ⟨T, hT⟩ : ∃ T, T = tabN f := ⟨_, rfl⟩
    rw [← hT] at HTL HTBIT ⊢
    clear hT
    go_wp2_with fail
    go_loopw [8, 27] (fun s i wr => ∃ m : Nat, m ≤ 64 ∧ i = .int .i64 m ∧ s = .int .i64 (ldI X f m) ∧ wr = w4) (fun _ i _ => 64 - (intOf i).toNat)
    case atStart => exact ⟨0, by omega, rfl, rfl, rfl⟩
    case round =>
      obtain ⟨m, hm, rfl, rfl, rfl⟩ := hrel
      by_cases hlt : m < 64
      · have HST := Lib.hid (ldI_succ X f m)
        obtain ⟨hlo, hhi⟩ := ldI_lo X f m
        have hble := badN_le X m
        rw [hl.out] at hhi hble
        have HBN := Lib.hid (missN_tab X hlt)
        obtain ⟨v, hv⟩ : ∃ v, v = valR f m := ⟨_, rfl⟩
        have HVV := Lib.hid ((HTBIT.out m hlt).trans hv.symm)
        rw [← hv] at HST
        obtain ⟨L, hL⟩ : ∃ L, L = ldI X f m := ⟨_, rfl⟩
        rw [← hL] at HST hlo hhi ⊢
        obtain ⟨B, hB⟩ : ∃ B, B = badN X m := ⟨_, rfl⟩
        rw [← hB] at HST hble HBN
        clear hv hL hB
        go_wp2_with fail
        refine (leastF_any (l := X.map tabN) HG4.out hlt (Lib.hid (by rw [List.length_map, hl.out])) hn (Lib.hid tabs_lt) HTB4.out).mono ?_
        rintro e u1 ⟨rfl, rfl⟩
        rw [HBN.out]
        go_wp2_with fail
        refine (hasRow_any HTL.out hlt).mono ?_
        rintro e u1 ⟨rfl, rfl⟩
        rw [HVV.out]
        cases v with
        | false =>
          have HF := Lib.hid (show ldI X f (m + 1) = L by rw [HST.out]; rfl)
          go_wp2_with fail
          go_roundw
          case rel => exact ⟨m + 1, by omega, by go_num, by rw [HF.out], by trivial⟩
          case measure => simp [intOf]; omega
        | true =>
          by_cases h1 : L < 0
          · have HF := Lib.hid (show ldI X f (m + 1) = (B : Int) by rw [HST.out, decide_eq_true h1]; rfl)
            go_wp2_with fail
            go_roundw
            case rel => exact ⟨m + 1, by omega, by go_num, by rw [HF.out], by trivial⟩
            case measure => simp [intOf]; omega
          · by_cases h2 : (B : Int) < L
            · have HF := Lib.hid (show ldI X f (m + 1) = (B : Int) by rw [HST.out, decide_eq_false h1, decide_eq_true h2]; rfl)
              go_wp2_with fail
              go_roundw
              case rel => exact ⟨m + 1, by omega, by go_num, by rw [HF.out], by trivial⟩
              case measure => simp [intOf]; omega
            · have HF := Lib.hid (show ldI X f (m + 1) = L by rw [HST.out, decide_eq_false h1, decide_eq_false h2]; rfl)
              go_wp2_with fail
              go_roundw
              case rel => exact ⟨m + 1, by omega, by go_num, by rw [HF.out], by trivial⟩
              case measure => simp [intOf]; omega
      · have e : m = 64 := by omega
        subst e
        rw [HV.out]
        go_wp2_with fail
        go_ret
        exact ⟨rfl, q4⟩
end
end Go.Proofs.Ytignchefkihdaaa
