/- Contracts of ParseInt and of its model: each returns the number whose decimal numeral the text is, if there is one up to the largest value. Condition: the library table of powers of ten holds what its initialiser lays. -/
import Derived.Test.YtdmggojdanmohaaDoorFmt
import Derived.Test.YtdmggojdanmohaaDoorInts
import Derived.BigGuard
namespace Go.Proofs.YtdmggojdanmohaaDoor
open Go.ChangeShapes Go.WideShapes Go.ChangeAt Go.RowKit Go.Proofs
def isDig (c : UInt8) : Bool := decide (48 ≤ (c.toNat : Int)) && decide ((c.toNat : Int) ≤ 57)
def val (l : List UInt8) : Nat := l.foldl (fun n c => 10 * n + (c.toNat - 48)) 0
theorem val_snoc (l : List UInt8) (c : UInt8) : val (l ++ [c]) = 10 * val l + (c.toNat - 48) := by simp [val]
theorem foldl_ge (l : List UInt8) : ∀ n, n ≤ l.foldl (fun n c => 10 * n + (c.toNat - 48)) n := by
  induction l with
  | nil => intro n; exact Nat.le_refl _
  | cons c l ih => intro n; exact Nat.le_trans (show n ≤ 10 * n + (c.toNat - 48) by omega) (ih _)
theorem val_take_le (l : List UInt8) (k : Nat) : val (l.take k) ≤ val l := by
  conv => rhs; rw [← List.take_append_drop k l]
  unfold val
  rw [List.foldl_append]
  exact foldl_ge _ _
theorem foldl_lt (l : List UInt8) : ∀ n, l.all isDig = true → l.foldl (fun n c => 10 * n + (c.toNat - 48)) n < (n + 1) * 10 ^ l.length := by
  induction l with
  | nil => intro n _; simp
  | cons c l ih =>
    intro n h
    simp only [List.all_cons, Bool.and_eq_true] at h
    have h2 := h.1
    simp [isDig] at h2
    refine Nat.lt_of_lt_of_le (ih (10 * n + (c.toNat - 48)) h.2) ?_
    rw [List.length_cons, Nat.pow_succ, Nat.mul_comm (10 ^ l.length) 10, ← Nat.mul_assoc]
    exact Nat.mul_le_mul_right _ (by omega)
theorem val_lt (l : List UInt8) (h : l.all isDig = true) : val l < 10 ^ l.length := by
  have := foldl_lt l 0 h
  simpa [val] using this
def pvb (l : List UInt8) : Bool := l.all isDig && decide (val l ≤ 1000000000000) && decide (Lib.itoa (val l) = l)
def pvn (l : List UInt8) : Int := if pvb l then val l else 0
theorem take_snoc (s : ByteArray) (k : Nat) (h : k < s.size) : s.data.toList.take (k + 1) = s.data.toList.take k ++ [s[k]] := by
  rw [List.take_succ_eq_append_getElem (by simpa using h)]; rfl
theorem append_no (a : Addr) (c : UInt8) (w : World) (h : isDig c = false) :
    Calls Tryd.prog 20 #[.pointer (some a), .int .u8 c.toNat] w fun e w' => e = .returned (.bool false) ∧ w = w' := by
  have hc : (c.toNat : Int) < 48 ∨ 57 < (c.toNat : Int) := by simp [isDig] at h; omega
  by_cases h1 : (c.toNat : Int) < 48
  · go_enter Tryd.func20, Tryd.ntmps20
    go_wp2
    go_ret
    exact ⟨rfl, rfl⟩
  · have h2 : 57 < (c.toNat : Int) := by omega
    clear hc
    go_enter Tryd.func20, Tryd.ntmps20
    go_wp2
    go_ret
    exact ⟨rfl, rfl⟩
theorem append_far (a : Addr) (c : UInt8) (m : Nat) (w : World) (h : isDig c = true) (hm : m ≤ 1000000000000) (hc : w.cell? a = some (.int .i64 m)) (hx : 1000000000000 < 10 * m + (c.toNat - 48)) :
    Calls Tryd.prog 20 #[.pointer (some a), .int .u8 c.toNat] w fun e w' => e = .returned (.bool false) ∧ w = w' := by
  have hd : 48 ≤ (c.toNat : Int) ∧ (c.toNat : Int) ≤ 57 := by simp [isDig] at h; omega
  obtain ⟨h1, h2⟩ := hd
  have h3 : 1000000000000 < (m : Int) * 10 + ((c.toNat : Int) - 48) := by omega
  go_enter Tryd.func20, Tryd.ntmps20
  go_wp2
  go_ret
  exact ⟨rfl, rfl⟩
theorem append_yes (a : Addr) (c : UInt8) (m : Nat) (w : World) (h : isDig c = true) (hm : m ≤ 1000000000000) (hc : w.cell? a = some (.int .i64 m)) (hf : w.frozen? a = false) (hx : 10 * m + (c.toNat - 48) ≤ 1000000000000) :
    Calls Tryd.prog 20 #[.pointer (some a), .int .u8 c.toNat] w fun e w' => e = .returned (.bool true) ∧ w.setCell a (.int .i64 ((10 * m + (c.toNat - 48) : Nat) : Int)) = w' := by
  have hd : 48 ≤ (c.toNat : Int) ∧ (c.toNat : Int) ≤ 57 := by simp [isDig] at h; omega
  obtain ⟨h1, h2⟩ := hd
  have h3 : (m : Int) * 10 + ((c.toNat : Int) - 48) ≤ 1000000000000 := by omega
  have e : ((10 * m + (c.toNat - 48) : Nat) : Int) = (m : Int) * 10 + ((c.toNat : Int) - 48) := by omega
  rw [e]
  clear e
  go_enter Tryd.func20, Tryd.ntmps20
  go_wp2
  go_ret
  exact ⟨rfl, rfl⟩
theorem toList_data (s : ByteArray) : s.toList = s.data.toList := ByteArray.toList_eq s
theorem all_take {l : List UInt8} {k : Nat} (h : l.all isDig = true) : (l.take k).all isDig = true := by
  rw [List.all_eq_true] at h ⊢
  exact fun x hx => h x (List.mem_of_mem_take hx)
theorem pv_no_dig {s : ByteArray} {k : Nat} (hk : k < s.size) (h : isDig s[k] = false) : pvb s.data.toList = false := by
  have : s.data.toList.all isDig = false := by
    rw [List.all_eq_false]
    exact ⟨s[k], by simp [ByteArray.getElem_eq_getElem_data], by simp [h]⟩
  simp [pvb, this]
theorem pv_far {l : List UInt8} {k : Nat} (h : 1000000000000 < val (l.take k)) : pvb l = false := by
  have := val_take_le l k
  have h2 : ¬ val l ≤ 1000000000000 := by omega
  simp [pvb, h2]
theorem pvn_f {l : List UInt8} (h : pvb l = false) : pvn l = 0 := by simp [pvn, h]
theorem pvn_t {l : List UInt8} (h : pvb l = true) : pvn l = val l := by simp [pvn, h]
def PRel (s : ByteArray) (B : Nat) (w0 w : World) (k : Nat) : Prop :=
  k ≤ s.size ∧ (s.data.toList.take k).all isDig = true ∧ val (s.data.toList.take k) ≤ 1000000000000 ∧ Below B w0 w ∧ B < w.heap.size ∧ w.cell? ⟨B, 0, none⟩ = some (.int .i64 (val (s.data.toList.take k) : Nat)) ∧ w.frozen? ⟨B, 0, none⟩ = false
theorem ret_pv {a b : Int} {c d : Bool} (h1 : a = b) (h2 : c = d) : Ending.returned (.tuple #[.int .i64 a, .bool c]) = .returned (.tuple #[.int .i64 b, .bool d]) := by rw [h1, h2]
theorem impl_parse_any (s : ByteArray) (hs : s.size ≤ maxLen) (w : World) (htab : Lib.TabIs Tryd.prog w "internal/strconv.uint64pow10" .u64 Lib.pow10Tab) :
    Calls Tryd.prog 8 #[.string s] w fun e w' => e = .returned (.tuple #[.int .i64 (pvn s.data.toList), .bool (pvb s.data.toList)]) ∧ Below w.heap.size w w' := by
  unfold maxLen at hs
  go_enter Tryd.func8, Tryd.ntmps8
  go_wp2
  go_loopw [5] (fun i wr => ∃ k : Nat, i = .int .i64 k ∧ PRel s w.heap.size w wr k) (fun i _ => s.size - (intOf i).toNat)
  case atStart => exact ⟨0, rfl, Nat.zero_le _, rfl, by simp [val], (Below.refl _ _).alloc (Nat.le_refl _) _, by simp, by simp [val], by simp⟩
  case round =>
    obtain ⟨k, rfl, hk, hall, hval, hb, hsz, hcell, hfr⟩ := hrel
    by_cases hlt : k < s.size
    · by_cases hd : isDig s[k] = true
      · by_cases hx : 10 * val (s.data.toList.take k) + (s[k].toNat - 48) ≤ 1000000000000
        · go_wp2_with (go_at_call 20; refine (append_yes _ _ _ _ hd hval hcell hfr hx).mono ?_; rintro e w1 ⟨rfl, rfl⟩)
          have hr : PRel s w.heap.size w (wr.setCell ⟨w.heap.size, 0, none⟩ (.int .i64 ((10 * val (s.data.toList.take k) + (s[k].toNat - 48) : Nat) : Int))) (k + 1) := by
            refine ⟨hlt, ?_, ?_, hb.setCell (Nat.le_refl _) _, by simpa using hsz, ?_, by simpa using hfr⟩
            · rw [take_snoc s k hlt, List.all_append, hall]; simpa using hd
            · rw [take_snoc s k hlt, val_snoc]; exact hx
            · rw [take_snoc s k hlt, val_snoc]; exact World.cell?_setCell_same _ _ _ hcell
          exact ⟨⟨k + 1, by go_num, hr⟩, by simp [intOf]; omega⟩
        · go_wp2_with (go_at_call 20; refine (append_far _ _ _ _ hd hval hcell (by omega)).mono ?_; rintro e w1 ⟨rfl, rfl⟩)
          go_ret2
          have hp : pvb s.data.toList = false := pv_far (k := k + 1) (by rw [take_snoc s k hlt, val_snoc]; omega)
          exact ⟨ret_pv (pvn_f hp).symm hp.symm, hb⟩
      · have hd' : isDig s[k] = false := by simpa using hd
        go_wp2_with (go_at_call 20; refine (append_no _ _ _ hd').mono ?_; rintro e w1 ⟨rfl, rfl⟩)
        go_ret2
        have hp : pvb s.data.toList = false := pv_no_dig hlt hd'
        exact ⟨ret_pv (pvn_f hp).symm hp.symm, hb⟩
    · obtain rfl : k = s.size := by omega
      have ht := tab_below hb htab
      have hfull : s.data.toList.take s.size = s.data.toList := List.take_of_length_le (by simp)
      rw [hfull] at hall hval hcell
      clear hfull
      by_cases hq : Lib.itoa (val s.data.toList) = s.data.toList
      · have hq1 : (Lib.itoa (val s.data.toList) == s.toList) = true := by rw [toList_data]; simpa using hq
        have hp : pvb s.data.toList = true := by simp [pvb, hall, hval, hq]
        have HP := Lib.hid hp
        clear hp hq
        go_wp2_with (go_at_call 10; refine (impl_fmt_any _ (by omega) (by omega) _ ht).mono ?_; rintro e w2 ⟨rfl, hb2⟩; have hc2 := (hb2.cell (p := ⟨w.heap.size, 0, none⟩) hsz).trans hcell)
        go_ret2
        exact ⟨ret_pv (pvn_t HP.out).symm HP.out.symm, below_all hb hb.size hb2⟩
      · have hq1 : (Lib.itoa (val s.data.toList) == s.toList) = false := by rw [toList_data]; simpa using hq
        have hp : pvb s.data.toList = false := by simp [pvb, hq]
        have HP := Lib.hid hp
        clear hp hq
        go_wp2_with (go_at_call 10; refine (impl_fmt_any _ (by omega) (by omega) _ ht).mono ?_; rintro e w2 ⟨rfl, hb2⟩; have hc2 := (hb2.cell (p := ⟨w.heap.size, 0, none⟩) hsz).trans hcell)
        go_ret2
        exact ⟨ret_pv (pvn_f HP.out).symm HP.out.symm, below_all hb hb.size hb2⟩
theorem nd_le : ∀ (k u : Nat), 1 ≤ k → u < 10 ^ k → Lib.nDigits u ≤ k
  | 0, _, h, _ => by omega
  | k + 1, u, _, h => by
    rw [Lib.nDigits]
    split
    · omega
    · by_cases hk : k = 0
      · subst hk; omega
      · have := nd_le k (u / 10) (by omega) (by rw [Nat.pow_succ] at h; omega)
        omega
theorem sz_data (s : ByteArray) : s.data.toList.length = s.size := by simp
theorem pv_len {l : List UInt8} (h : l.length < 1 ∨ 13 < l.length) : pvb l = false := by
  by_cases hp : pvb l = true
  · simp only [pvb, Bool.and_eq_true, decide_eq_true_eq] at hp
    obtain ⟨⟨_, h2⟩, h3⟩ := hp
    exfalso
    have e : Lib.itoa ((val l : Nat) : Int) = Lib.decDigits (val l) := Lib.itoa_nonneg _
    rw [e] at h3
    have hl := congrArg List.length h3
    rw [Lib.decDigits_length] at hl
    by_cases h0 : val l = 0
    · rw [h0, Lib.nDigits] at hl
      simp at hl
      omega
    · have h1 : Lib.nDigits (val l) ≤ 13 := nd_le 13 _ (by omega) (by omega)
      have h2 : 1 ≤ Lib.nDigits (val l) := by rw [Lib.nDigits]; split <;> omega
      omega
  · simpa using hp
theorem spec_parse_any (s : ByteArray) (hs : s.size ≤ maxLen) (w : World) :
    Calls Tryd.prog 15 #[.string s] w fun e w' => e = .returned (.tuple #[.int .i64 (pvn s.data.toList), .bool (pvb s.data.toList)]) ∧ Below w.heap.size w w' := by
  unfold maxLen at hs
  by_cases hlen : 1 ≤ s.size ∧ s.size ≤ 13
  · obtain ⟨hl1, hl2⟩ := hlen
    have e1 : inr (s.size : Int) 1 13 = true := inr_t (by omega) (by omega)
    go_enter Tryd.func15, Tryd.ntmps15
    go_wp2_with (go_at_call 24; refine (l1In_any _ _ _ _).mono ?_; rintro e w' ⟨rfl, rfl⟩)
    clear e1
    go_loop [4, 5] (fun n i => ∃ k : Nat, i = .int .i64 k ∧ k ≤ s.size ∧ (s.data.toList.take k).all isDig = true ∧ n = .int .i64 (val (s.data.toList.take k) : Nat)) (fun _ i => s.size - (intOf i).toNat)
    case atStart => exact ⟨0, rfl, Nat.zero_le _, rfl, by simp [val]⟩
    case round =>
      obtain ⟨k, rfl, hk, hall, rfl⟩ := hrel
      by_cases hlt : k < s.size
      · have hb10 : val (s.data.toList.take k) < 10 ^ 12 := by
          refine Nat.lt_of_lt_of_le (val_lt _ hall) (Nat.pow_le_pow_right (by omega) ?_)
          have : (s.data.toList.take k).length ≤ k := List.length_take_le _ _
          omega
        have hb10 : (val (s.data.toList.take k) : Int) < 1000000000000 := by omega
        by_cases hd : isDig s[k] = true
        · have hdd : 48 ≤ (s[k].toNat : Int) ∧ (s[k].toNat : Int) ≤ 57 := by simp [isDig] at hd; omega
          have e2 : inr (s[k].toNat : Int) 48 57 = true := inr_t hdd.1 hdd.2
          go_wp2_with (go_at_call 24; refine (l1In_any _ _ _ _).mono ?_; rintro e w' ⟨rfl, rfl⟩)
          refine ⟨⟨k + 1, by go_num, hlt, ?_, ?_⟩, by simp [intOf]; omega⟩
          · rw [take_snoc s k hlt, List.all_append, hall]; simpa using hd
          · rw [take_snoc s k hlt, val_snoc]
            exact congrArg (Value.int .i64) (by omega)
        · have hd' : isDig s[k] = false := by simpa using hd
          have e2 : inr (s[k].toNat : Int) 48 57 = false := inr_f (by simp [isDig] at hd'; omega)
          have hd2 := Lib.hid hd'
          have hz0 : 0 ≤ (s[k].toNat : Int) := by omega
          have hz1 : (s[k].toNat : Int) ≤ 255 := by have := s[k].toNat_lt; omega
          clear hd hd' hb10
          go_wp2_with (go_at_call 24; refine (l1In_any _ _ _ _).mono ?_; rintro e w' ⟨rfl, rfl⟩)
          go_ret2
          have hp : pvb s.data.toList = false := pv_no_dig hlt hd2.out
          exact ⟨ret_pv (pvn_f hp).symm hp.symm, Below.refl _ _⟩
      · obtain rfl : k = s.size := by omega
        have hfull : s.data.toList.take s.size = s.data.toList := List.take_of_length_le (by simp)
        rw [hfull] at hall ⊢
        clear hfull
        by_cases hx : val s.data.toList ≤ 1000000000000
        · by_cases hq : Lib.itoa (val s.data.toList) = s.data.toList
          · have hq1 : (Lib.itoa (val s.data.toList) == s.toList) = true := by rw [toList_data]; simpa using hq
            have hp : pvb s.data.toList = true := by simp [pvb, hall, hx, hq]
            have HP := Lib.hid hp
            clear hp hq
            have hx1 : decide (1000000000000 < ((val s.data.toList : Nat) : Int)) = false := by simp; omega
            go_wp2_with (go_at_call 14; refine (spec_fmt_any _ (by omega) (by omega) _).mono ?_; rintro e w2 ⟨rfl, hb2⟩)
            go_ret2
            exact ⟨ret_pv (pvn_t HP.out).symm HP.out.symm, hb2⟩
          · have hq1 : (Lib.itoa (val s.data.toList) == s.toList) = false := by rw [toList_data]; simpa using hq
            have hp : pvb s.data.toList = false := by simp [pvb, hq]
            have HP := Lib.hid hp
            clear hp hq
            have hx1 : decide (1000000000000 < ((val s.data.toList : Nat) : Int)) = false := by simp; omega
            go_wp2_with (go_at_call 14; refine (spec_fmt_any _ (by omega) (by omega) _).mono ?_; rintro e w2 ⟨rfl, hb2⟩)
            go_ret2
            exact ⟨ret_pv (pvn_f HP.out).symm HP.out.symm, hb2⟩
        · have hx1 : decide (1000000000000 < ((val s.data.toList : Nat) : Int)) = true := by simp; omega
          have hp : pvb s.data.toList = false := by simp [pvb, hx]
          have HP := Lib.hid hp
          clear hp
          go_wp2
          go_ret2
          exact ⟨ret_pv (pvn_f HP.out).symm HP.out.symm, Below.refl _ _⟩
  · have e1 : inr (s.size : Int) 1 13 = false := inr_f (by omega)
    have hp : pvb s.data.toList = false := pv_len (by rw [sz_data]; omega)
    have HP := Lib.hid hp
    clear hp
    go_enter Tryd.func15, Tryd.ntmps15
    go_wp2_with (go_at_call 24; refine (l1In_any _ _ _ _).mono ?_; rintro e w' ⟨rfl, rfl⟩)
    go_ret2
    exact ⟨ret_pv (pvn_f HP.out).symm HP.out.symm, Below.refl _ _⟩
end Go.Proofs.YtdmggojdanmohaaDoor
