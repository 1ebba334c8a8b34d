/- Contracts of the code's leadOf, isPreferredToAll, PairWinner, and of the model PairWinner. Condition: the slices have at most 2^40 elements. -/
import Derived.Test.YtjjgdeojbpcjjaaRkR
import Derived.Test.YtjjgdeojbpcjjaaRow3
namespace Go.Proofs.Ytjjgdeojbpcjjaa
open Go.ChangeShapes Go.WideShapes Go.ChangeAt Go.RowKit
set_option maxRecDepth 100000
theorem fl_cells {w : World} {B n : Nat} {A : Option Addr} {F : Nat → Int} (h : Rd w B A (fl F (n * 8))) {k : Nat} (hk : k < n) :
    ∃ (ad p : Addr) (f : Nat → Int), (∀ c, f c = F (k * 8 + c)) ∧ A = some ad ∧ ad.add (k * 8) = p ∧ p.block < B ∧ w.cell? p = some (.int .i64 (f 0)) ∧ w.cell? ⟨p.block, p.off + 1, none⟩ = some (.int .i64 (f 1)) ∧ w.cell? ⟨p.block, p.off + 2, none⟩ = some (.int .i64 (f 2)) ∧ w.cell? ⟨p.block, p.off + 3, none⟩ = some (.int .i64 (f 3)) ∧ w.cell? ⟨p.block, p.off + 4, none⟩ = some (.int .i64 (f 4)) ∧ w.cell? ⟨p.block, p.off + 5, none⟩ = some (.int .i64 (f 5)) ∧ w.cell? ⟨p.block, p.off + 6, none⟩ = some (.int .i64 (f 6)) ∧ w.cell? ⟨p.block, p.off + 7, none⟩ = some (.int .i64 (f 7)) := by
  have g : ∀ j, j < 8 → ∃ ad, A = some ad ∧ ad.block < B ∧ w.cell? (ad.add (k * 8 + j)) = some (.int .i64 (F (k * 8 + j))) := fun j hj => h _ _ (fl_get F (n * 8) (by omega))
  obtain ⟨ad, rfl, hb, h0⟩ := g 0 (by omega)
  obtain ⟨a1, e1, _, h1⟩ := g 1 (by omega)
  injection e1 with e1
  subst e1
  rw [add_part ad (k * 8) 0] at h1
  obtain ⟨a2, e2, _, h2⟩ := g 2 (by omega)
  injection e2 with e2
  subst e2
  rw [add_part ad (k * 8) 1] at h2
  obtain ⟨a3, e3, _, h3⟩ := g 3 (by omega)
  injection e3 with e3
  subst e3
  rw [add_part ad (k * 8) 2] at h3
  obtain ⟨a4, e4, _, h4⟩ := g 4 (by omega)
  injection e4 with e4
  subst e4
  rw [add_part ad (k * 8) 3] at h4
  obtain ⟨a5, e5, _, h5⟩ := g 5 (by omega)
  injection e5 with e5
  subst e5
  rw [add_part ad (k * 8) 4] at h5
  obtain ⟨a6, e6, _, h6⟩ := g 6 (by omega)
  injection e6 with e6
  subst e6
  rw [add_part ad (k * 8) 5] at h6
  obtain ⟨a7, e7, _, h7⟩ := g 7 (by omega)
  injection e7 with e7
  subst e7
  rw [add_part ad (k * 8) 6] at h7
  exact ⟨ad, _, fun c => F (k * 8 + c), fun c => rfl, rfl, rfl, by rw [add_blk]; exact hb, h0, h1, h2, h3, h4, h5, h6, h7⟩
theorem cmpI_in (x y : Int) : -1 ≤ cmpI x y ∧ cmpI x y ≤ 1 := by unfold cmpI; split <;> (try split) <;> omega
theorem lead_in (L : List (List Int)) (k : Nat) (hk : k ≤ L.length) (a b : Int) : -(k : Int) ≤ leadI (L.take k) a b ∧ leadI (L.take k) a b ≤ (k : Int) := by
  induction k with
  | zero => simp [leadI]
  | succ k ih =>
    rw [lead_snoc L k (by omega)]
    have := ih (by omega)
    have := cmpI_in (atI L[k] b) (atI L[k] a)
    omega
set_option maxHeartbeats 4000000 in
theorem leadOf_any {w : World} {A : Option Addr} {n c : Nat} {N : Int} {F : Nat → Int} {a b : Nat} {L : List (List Int)} (hl : Hid (L.length = n)) (hn : n ≤ 20) (hN : N ≤ 8) (ha : (a : Int) < N) (hb : (b : Int) < N) (hg : Hid (GoodR L N F)) (hr : Rd w w.heap.size A (fl F (n * 8))) :
    Calls Try.prog 127 #[.slice A n c, .int .i64 a, .int .i64 b] w (fun e w' => e = .returned (.int .i64 (leadI L a b)) ∧ Below w.heap.size w w') := by
  have ha8 : a < 8 := by omega
  have hb8 : b < 8 := by omega
  go_enter Try.func127, Try.ntmps127
  go_wp2_with fail
  go_loopw [7, 12] (fun m i wr => ∃ (k : Nat) (z : Int), k ≤ n ∧ i = .int .i64 k ∧ m = .int .i64 z ∧ Hid (z = leadI (L.take k) a b) ∧ Below w.heap.size w wr) (fun _ i _ => n - (intOf i).toNat)
  case atStart => exact ⟨0, 0, Nat.zero_le _, rfl, rfl, Lib.hid rfl, Below.refl _ _⟩
  case round =>
    obtain ⟨k, z, hk, rfl, rfl, hz, hbw⟩ := hrel
    by_cases hlt : k < n
    · have hkz : k < L.length := by rw [hl.out]; exact hlt
      obtain ⟨ad, p, f, hf, rfl, hp, hab, c0, c1, c2, c3, c4, c5, c6, c7⟩ := fl_cells ((hr.below hbw).more hbw.size) hlt
      have i0 : (0 : Int) ≤ (k : Int) := by omega
      have i1 : (k : Int) < (n : Int) := by omega
      have HGA := Lib.hid (hg.out k hkz a ha)
      have HGB := Lib.hid (hg.out k hkz b hb)
      have HS := Lib.hid (lead_snoc L k hkz a b)
      have hzi := lead_in L k (by omega) a b
      rw [← hz.out] at hzi
      have hci := cmpI_in (atI L[k] b) (atI L[k] a)
      obtain ⟨q, hq⟩ : ∃ q, cmpI (atI L[k] b) (atI L[k] a) = q := ⟨_, rfl⟩
      have HQ := Lib.hid (show cmpI (f b) (f a) = q by rw [hf, hf, HGA.out, HGB.out, hq])
      have HZ := Lib.hid (show z + q = leadI (L.take (k + 1)) a b by rw [HS.out, hq, hz.out])
      rw [hq] at hci
      have ww : IntKind.i64.wrap (z + q) = z + q := IntWalk.i64_in _ (by omega)
      obtain ⟨W1, hW⟩ : ∃ W1, wr.alloc (Obj.cells (r8 f) 84) = W1 := ⟨_, rfl⟩
      have bx := Bx.made wr 84 (r8 f)
      have hb1 : Below wr.heap.size wr (wr.alloc (Obj.cells (r8 f) 84)) := (Below.refl _ _).alloc (Nat.le_refl _) _
      rw [hW] at bx hb1
      have b0 : W1.cell? ⟨wr.heap.size, 0, none⟩ = some (.int .i64 (f 0)) := by rw [cell_of_row _ _ _ _ _ _ bx]; rfl
      have b1 : W1.cell? ⟨wr.heap.size, 1, none⟩ = some (.int .i64 (f 1)) := by rw [cell_of_row _ _ _ _ _ _ bx]; rfl
      have b2 : W1.cell? ⟨wr.heap.size, 2, none⟩ = some (.int .i64 (f 2)) := by rw [cell_of_row _ _ _ _ _ _ bx]; rfl
      have b3 : W1.cell? ⟨wr.heap.size, 3, none⟩ = some (.int .i64 (f 3)) := by rw [cell_of_row _ _ _ _ _ _ bx]; rfl
      have b4 : W1.cell? ⟨wr.heap.size, 4, none⟩ = some (.int .i64 (f 4)) := by rw [cell_of_row _ _ _ _ _ _ bx]; rfl
      have b5 : W1.cell? ⟨wr.heap.size, 5, none⟩ = some (.int .i64 (f 5)) := by rw [cell_of_row _ _ _ _ _ _ bx]; rfl
      have b6 : W1.cell? ⟨wr.heap.size, 6, none⟩ = some (.int .i64 (f 6)) := by rw [cell_of_row _ _ _ _ _ _ bx]; rfl
      have b7 : W1.cell? ⟨wr.heap.size, 7, none⟩ = some (.int .i64 (f 7)) := by rw [cell_of_row _ _ _ _ _ _ bx]; rfl
      have HW := Lib.hid hW
      have hb2 := hbw.trans (hb1.mono hbw.size)
      clear hW hq bx hf
      go_wp2_with fail
      rw [HW.out]
      try (go_wp2_with fail)
      refine (rcompare_any (f := f) hb8 ha8).mono ?_
      rintro e w2 ⟨rfl, hb3⟩
      rw [HQ.out]
      have hb4 := hb2.trans (hb3.mono hb2.size)
      go_wp2_with fail
      go_roundw
      case rel => exact ⟨k + 1, z + q, by omega, by go_num, by go_num, HZ, hb4⟩
      case measure => simp [intOf]; omega
    · have e : k = n := by omega
      subst e
      have HV := Lib.hid (show z = leadI L a b by have := hz.out; rwa [List.take_of_length_le (by rw [hl.out]; exact Nat.le_refl _)] at this)
      go_wp2_with fail
      go_ret
      exact ⟨ret_i HV.out, hbw⟩
/-- The code's word for it, up to k. -/
def ledB (L : List (List Int)) (a : Nat) (k : Nat) : Bool := (List.range k).all fun b => a == b || decide (0 < leadI L a b)
theorem led_succ (L : List (List Int)) (a k : Nat) : ledB L a (k + 1) = (ledB L a k && (a == k || decide (0 < leadI L a k))) := by
  unfold ledB
  rw [List.range_succ, List.all_append]; simp
theorem led_no {L : List (List Int)} {a n : Nat} {k : Nat} (hk : k < n) (h : (a == k || decide (0 < leadI L a k)) = false) : ledB L a n = false := by
  unfold ledB
  rw [List.all_eq_false]
  exact ⟨k, List.mem_range.2 hk, by simpa using h⟩
theorem led_beat {L : List (List Int)} {n : Nat} (h : ∀ l ∈ L, rkB l n = true) {a : Nat} (ha : a < n) : ledB L a n = beatB L n a := by
  unfold ledB beatB
  rw [Bool.eq_iff_iff, List.all_eq_true, List.all_eq_true]
  have key : ∀ b, b ∈ List.range n → ((a == b || decide (0 < leadI L a b)) = (a == b || decide (prfN L b a < prfN L a b))) := fun b hb => by
    have hb := List.mem_range.1 hb
    rw [lead_prf h (a := a) (b := b) (by omega) (by omega)]
    congr 1
    exact decide_eq_decide.2 (by omega)
  exact ⟨fun q b hb => by rw [← key b hb]; exact q b hb, fun q b hb => by rw [key b hb]; exact q b hb⟩
set_option maxHeartbeats 4000000 in
theorem preferredAll_any {w : World} {A : Option Addr} {n c m : Nat} {F : Nat → Int} {a : Nat} {L : List (List Int)} (hl : Hid (L.length = n)) (hn : n ≤ 20) (hm : m ≤ 8) (ha : a < m) (hg : Hid (GoodR L m F)) (hr : Rd w w.heap.size A (fl F (n * 8))) :
    Calls Try.prog 69 #[.slice A n c, .int .i64 a, .int .i64 m] w (Tells (ledB L a m) w) := by
  go_enter Try.func69, Try.ntmps69
  go_wp2_with fail
  go_loopw [9] (fun i wr => ∃ k : Nat, k ≤ m ∧ i = .int .i64 k ∧ Hid (ledB L a k = true) ∧ Below w.heap.size w wr) (fun i _ => m - (intOf i).toNat)
  case atStart => exact ⟨0, Nat.zero_le _, rfl, Lib.hid rfl, Below.refl _ _⟩
  case round =>
    obtain ⟨k, hk, rfl, hle, hbw⟩ := hrel
    have hsz := hbw.size
    by_cases hlt : k < m
    · have hrr := (hr.below hbw).more hsz
      have i0 : (0 : Int) ≤ (k : Int) := by omega
      have i1 : (k : Int) < (m : Int) := by omega
      have HSU := Lib.hid (led_succ L a k)
      by_cases hka : k = a
      · subst hka
        have HP := Lib.hid (show ledB L k (k + 1) = true by rw [HSU.out, hle.out]; simp)
        have e1 : ((k : Int) != (k : Int)) = false := by simp
        go_wp2_with fail
        go_roundw
        case rel => exact ⟨k + 1, by omega, by go_num, HP, hbw⟩
        case measure => simp [intOf]; omega
      · have e1 : ((k : Int) != (a : Int)) = true := by simp; omega
        have hkb : (a == k) = false := by simpa using fun h => hka h.symm
        obtain ⟨z, hz⟩ : ∃ z, leadI L a k = z := ⟨_, rfl⟩
        have HZ := Lib.hid hz
        by_cases hpos : 0 < z
        · have HP := Lib.hid (show ledB L a (k + 1) = true by rw [HSU.out, hle.out, hkb, hz, decide_eq_true hpos]; rfl)
          clear hz
          go_wp2_with fail
          refine (leadOf_any hl hn (by omega) (by omega) (by omega) hg hrr).mono ?_
          rintro e w2 ⟨rfl, hb3⟩
          rw [HZ.out]
          have hb4 := hbw.trans (hb3.mono hsz)
          go_wp2_with fail
          go_roundw
          case rel => exact ⟨k + 1, by omega, by go_num, HP, hb4⟩
          case measure => simp [intOf]; omega
        · have HV := Lib.hid (led_no hlt (by rw [hkb, hz, decide_eq_false hpos]; rfl))
          clear hz
          go_wp2_with fail
          refine (leadOf_any hl hn (by omega) (by omega) (by omega) hg hrr).mono ?_
          rintro e w2 ⟨rfl, hb3⟩
          rw [HZ.out]
          have hb4 := hbw.trans (hb3.mono hsz)
          go_wp2_with fail
          go_ret
          exact ⟨ret_b HV.out.symm, hb4⟩
    · have e : k = m := by omega
      subst e
      go_wp2_with fail
      go_ret
      exact ⟨ret_b hle.out.symm, hbw⟩
/-- None of the first k wins. -/
def NoW (L : List (List Int)) (n k : Nat) : Prop := ∀ a, a < k → beatB L n a = false
theorem NoW.succ {L : List (List Int)} {n k : Nat} (h : NoW L n k) (h2 : beatB L n k = false) : NoW L n (k + 1) := fun a ha => by
  by_cases e : a = k
  · rw [e]; exact h2
  · exact h a (by omega)
theorem pw_some {L : List (List Int)} {n k : Nat} (hB : arB L n = true) (h : NoW L n k) (hk : k < n) (h2 : beatB L n k = true) : pwN L n = k := by
  unfold pwN
  rw [if_pos hB, Int.toNat_natCast]
  rw [List.find?_range_eq_some.2 ⟨h2, List.mem_range.2 hk, fun j hj => by rw [h j hj]; rfl⟩]
theorem pw_none {L : List (List Int)} {n : Nat} (h : NoW L n n) : pwN L n = -1 := by
  unfold pwN
  split
  · rw [Int.toNat_natCast]
    rw [List.find?_eq_none.2 (fun a ha => by rw [h a (List.mem_range.1 ha)]; simp)]
  · rfl
theorem pw_bad {L : List (List Int)} {N : Int} (h : arB L N = false) : pwN L N = -1 := by unfold pwN; rw [h]; rfl
set_option maxHeartbeats 4000000 in
theorem impPairWinner_any {w : World} {A : Option Addr} {n c : Nat} {N : Int} {L : List (List Int)} (hl : Hid (L.length = n)) (hn : n ≤ 1099511627776) (hs : Hid (∀ x ∈ L, x.length ≤ 1099511627776)) (hr : RdSS w w.heap.size A L) :
    Calls Try.prog 18 #[.slice A n c, .int .i64 N] w (fun e w' => e = .returned (.int .i64 (pwN L N)) ∧ Below w.heap.size w w') := by
  cases hB : arB L N with
  | false =>
    have HV := Lib.hid (pw_bad hB)
    have HB := Lib.hid hB
    clear hB
    go_enter Try.func18, Try.ntmps18
    go_wp2_with fail
    refine (impAreRankings_any hl hn hs hr).mono ?_
    rintro e u ⟨rfl, rfl⟩
    rw [HB.out]
    go_wp2_with fail
    go_ret
    exact ⟨ret_i HV.out.symm, Below.refl _ _⟩
  | true =>
    obtain ⟨⟨n1, n2⟩, n3, n4⟩ := ar_parts hB
    obtain ⟨m, rfl⟩ : ∃ m : Nat, N = (m : Int) := ⟨N.toNat, by omega⟩
    have HB := Lib.hid hB
    have HRK := Lib.hid n4
    have hn20 : n ≤ 20 := by rw [← hl.out]; exact n3
    have hm8 : m ≤ 8 := by omega
    clear hB n4 n3
    go_enter Try.func18, Try.ntmps18
    go_wp2_with fail
    refine (impAreRankings_any hl hn hs hr).mono ?_
    rintro e u ⟨rfl, rfl⟩
    rw [HB.out]
    go_wp2_with fail
    refine (rankingsOf_any hl hn20 HRK hr).mono ?_
    rintro e w1 ⟨F, rfl, hrd, hgood, hb1, hsz1⟩
    have HG := Lib.hid hgood
    have hrd2 := hrd.more hsz1
    clear hgood hrd
    go_wp2_with fail
    go_loopw [14] (fun i wr => ∃ k : Nat, k ≤ m ∧ i = .int .i64 k ∧ Hid (NoW L m k) ∧ Below w1.heap.size w1 wr) (fun i _ => m - (intOf i).toNat)
    case atStart => exact ⟨0, Nat.zero_le _, rfl, Lib.hid (fun a ha => absurd ha (by omega)), Below.refl _ _⟩
    case round =>
      obtain ⟨k, hk, rfl, hno, hbw⟩ := hrel
      have hsz := hbw.size
      by_cases hlt : k < m
      · have hrr := (hrd2.below hbw).more hsz
        have i0 : (0 : Int) ≤ (k : Int) := by omega
        have i1 : (k : Int) < (m : Int) := by omega
        have HLB := Lib.hid (led_beat HRK.out hlt)
        obtain ⟨b, hb⟩ : ∃ b, beatB L m k = b := ⟨_, rfl⟩
        have HBB := Lib.hid hb
        have HLL := Lib.hid (show ledB L k m = b by rw [HLB.out, hb])
        clear hb
        go_wp2_with fail
        refine (preferredAll_any hl hn20 hm8 hlt HG hrr).mono ?_
        rintro e w2 ⟨rfl, hb3⟩
        rw [HLL.out]
        have hb4 := hbw.trans (hb3.mono hsz)
        cases b with
        | true =>
          have HV := Lib.hid (pw_some HB.out hno.out hlt HBB.out)
          go_wp2_with fail
          go_ret
          exact ⟨ret_i HV.out.symm, hb1.trans (hb4.mono hb1.size)⟩
        | false =>
          have HP := Lib.hid (hno.out.succ HBB.out)
          go_wp2_with fail
          go_roundw
          case rel => exact ⟨k + 1, by omega, by go_num, HP, hb4⟩
          case measure => simp [intOf]; omega
      · have e : k = m := by omega
        subst e
        have HV := Lib.hid (pw_none hno.out)
        go_wp2_with fail
        go_ret
        exact ⟨ret_i HV.out.symm, hb1.trans (hbw.mono hb1.size)⟩
/-- The model's word, up to k. -/
def btB (L : List (List Int)) (a k : Nat) : Bool := (List.range k).all fun b => a == b || decide (prfN L b a < prfN L a b)
theorem bt_succ (L : List (List Int)) (a k : Nat) : btB L a (k + 1) = (btB L a k && (a == k || decide (prfN L k a < prfN L a k))) := by
  unfold btB
  rw [List.range_succ, List.all_append]; simp
set_option maxHeartbeats 4000000 in
theorem specPairWinner_any {w : World} {A : Option Addr} {n c : Nat} {N : Int} {L : List (List Int)} (hl : Hid (L.length = n)) (hn : n ≤ 1099511627776) (hs : Hid (∀ x ∈ L, x.length ≤ 1099511627776)) (hr : RdSS w w.heap.size A L) :
    Calls Try.prog 16 #[.slice A n c, .int .i64 N] w (fun e w' => e = .returned (.int .i64 (pwN L N)) ∧ Below w.heap.size w w') := by
  cases hB : arB L N with
  | false =>
    have HV := Lib.hid (pw_bad hB)
    have HB := Lib.hid hB
    clear hB
    go_enter Try.func16, Try.ntmps16
    go_wp2_with fail
    go_loopw [5] (fun i wr => i = .int .i64 0 ∧ wr = w) (fun _ _ => 0)
    case atStart => exact ⟨rfl, rfl⟩
    case round =>
      obtain ⟨rfl, rfl⟩ := hrel
      by_cases h0 : 0 < N
      · go_wp2_with fail
        refine (specAreRankings_any hl hn hs hr).mono ?_
        rintro e u ⟨rfl, hb2⟩
        rw [HB.out]
        go_wp2_with fail
        go_ret
        exact ⟨ret_i HV.out.symm, hb2⟩
      · have h0' : ¬ (0 : Int) < N := h0
        go_wp2_with fail
        go_ret
        exact ⟨ret_i HV.out.symm, Below.refl _ _⟩
  | true =>
    obtain ⟨⟨n1, n2⟩, n3, n4⟩ := ar_parts hB
    obtain ⟨m, rfl⟩ : ∃ m : Nat, N = (m : Int) := ⟨N.toNat, by omega⟩
    have HB := Lib.hid hB
    have hn20 : n ≤ 20 := by rw [← hl.out]; exact n3
    have hm8 : m ≤ 8 := by omega
    clear hB n4 n3
    go_enter Try.func16, Try.ntmps16
    go_wp2_with fail
    go_loopw [5] (fun i wr => ∃ k : Nat, k ≤ m ∧ i = .int .i64 k ∧ Hid (NoW L m k) ∧ Below w.heap.size w wr) (fun i _ => m - (intOf i).toNat)
    case atStart => exact ⟨0, Nat.zero_le _, rfl, Lib.hid (fun a ha => absurd ha (by omega)), Below.refl _ _⟩
    case round =>
      obtain ⟨k, hk, rfl, hno, hbw⟩ := hrel
      have hsz := hbw.size
      by_cases hlt : k < m
      · have hrr := (hr.below hbw).more hsz
        have i0 : (0 : Int) ≤ (k : Int) := by omega
        have i1 : (k : Int) < (m : Int) := by omega
        obtain ⟨wo, hwo⟩ : ∃ u, u = wr := ⟨_, rfl⟩
        subst hwo
        go_wp2_with fail
        refine (specAreRankings_any hl hn hs hrr).mono ?_
        rintro e w3 ⟨rfl, hb3⟩
        rw [HB.out]
        have hb4 := hbw.trans (hb3.mono hsz)
        go_wp2_with fail
        go_loopw [6, 7] (fun al i wq => ∃ j : Nat, j ≤ m ∧ i = .int .i64 j ∧ al = .bool (btB L k j) ∧ Below w.heap.size w wq) (fun _ i _ => m - (intOf i).toNat)
        case atStart => exact ⟨0, Nat.zero_le _, rfl, rfl, hb4⟩
        case round =>
          obtain ⟨j, hj, rfl, rfl, hbq⟩ := hrel
          by_cases hlj : j < m
          · have hrq := (hr.below hbq).more hbq.size
            have j0 : (0 : Int) ≤ (j : Int) := by omega
            have j1 : (j : Int) < (m : Int) := by omega
            have HSU := Lib.hid (bt_succ L k j)
            obtain ⟨b, hb⟩ : ∃ b, btB L k j = b := ⟨_, rfl⟩
            rw [hb] at HSU
            rw [hb]
            clear hb
            cases b with
            | false =>
              have HP := Lib.hid (show btB L k (j + 1) = false by rw [HSU.out]; rfl)
              go_wp2_with fail
              go_roundw
              case rel => exact ⟨j + 1, by omega, by go_num, by rw [HP.out], hbq⟩
              case measure => simp [intOf]; omega
            | true =>
              by_cases hkj : k = j
              · subst hkj
                have HP := Lib.hid (show btB L k (k + 1) = true by rw [HSU.out]; simp)
                have e1 : ((k : Int) == (k : Int)) = true := by simp
                go_wp2_with fail
                go_roundw
                case rel => exact ⟨k + 1, by omega, by go_num, by rw [HP.out], hbq⟩
                case measure => simp [intOf]; omega
              · have e1 : ((k : Int) == (j : Int)) = false := by simp; omega
                have hkb : (k == j) = false := by simpa using hkj
                obtain ⟨p, hp⟩ : ∃ p, prfN L k j = p := ⟨_, rfl⟩
                obtain ⟨q, hq⟩ : ∃ q, prfN L j k = q := ⟨_, rfl⟩
                have HP1 := Lib.hid hp
                have HQ1 := Lib.hid hq
                have hp20 : p ≤ n := by rw [← hp, ← hl.out]; exact prf_le L k j
                have hq20 : q ≤ n := by rw [← hq, ← hl.out]; exact prf_le L j k
                have HP := Lib.hid (show btB L k (j + 1) = decide (q < p) by rw [HSU.out, hkb, hp, hq]; simp)
                clear hp hq
                by_cases hqp : q < p
                · have i9 : (q : Int) < (p : Int) := by omega
                  have HPP := Lib.hid (show btB L k (j + 1) = true by rw [HP.out, decide_eq_true hqp])
                  go_wp2_with fail
                  refine (specPrefer_any hl hn hs hrq).mono ?_
                  rintro e u ⟨rfl, rfl⟩
                  rw [HP1.out]
                  go_wp2_with fail
                  refine (specPrefer_any hl hn hs hrq).mono ?_
                  rintro e u ⟨rfl, rfl⟩
                  rw [HQ1.out]
                  go_wp2_with fail
                  go_roundw
                  case rel => exact ⟨j + 1, by omega, by go_num, by rw [HPP.out], hbq⟩
                  case measure => simp [intOf]; omega
                · have i9 : ¬ (q : Int) < (p : Int) := by omega
                  have HPP := Lib.hid (show btB L k (j + 1) = false by rw [HP.out, decide_eq_false hqp])
                  go_wp2_with fail
                  refine (specPrefer_any hl hn hs hrq).mono ?_
                  rintro e u ⟨rfl, rfl⟩
                  rw [HP1.out]
                  go_wp2_with fail
                  refine (specPrefer_any hl hn hs hrq).mono ?_
                  rintro e u ⟨rfl, rfl⟩
                  rw [HQ1.out]
                  go_wp2_with fail
                  go_roundw
                  case rel => exact ⟨j + 1, by omega, by go_num, by rw [HPP.out], hbq⟩
                  case measure => simp [intOf]; omega
          · have e : j = m := by omega
            subst e
            obtain ⟨b, hb⟩ : ∃ b, btB L k j = b := ⟨_, rfl⟩
            have HBB := Lib.hid (show beatB L j k = b from hb)
            rw [hb]
            clear hb
            cases b with
            | true =>
              have HV := Lib.hid (pw_some HB.out hno.out hlt HBB.out)
              go_wp2_with fail
              go_ret
              exact ⟨ret_i HV.out.symm, hbq⟩
            | false =>
              have HP := Lib.hid (hno.out.succ HBB.out)
              go_wp2_with fail
              go_roundw
              case rel => exact ⟨k + 1, by omega, by go_num, HP, hbq⟩
              case measure => simp [intOf]; omega
      · have e : k = m := by omega
        subst e
        have HV := Lib.hid (pw_none hno.out)
        go_wp2_with fail
        go_ret
        exact ⟨ret_i HV.out.symm, hbw⟩
end Go.Proofs.Ytjjgdeojbpcjjaa
