/- Contracts of the code's attackersOf, AttackersOf, answersTo, AnswersTo. Conditions: rows below 2^16; the slices have at most 2^40 elements. -/
import Derived.Test.YtncndlojceiejaaMg9
import Derived.Test.YtncndlojceiejaaGameMath
namespace Go.Proofs.Ytncndlojceiejaa
open Go.ChangeShapes Go.WideShapes Go.ChangeAt Go.RowKit
set_option maxRecDepth 100000
/-- The bits of those below k who attack a claim. -/
def atB (f : Nat → Nat) (c : Int) : Nat → Nat
  | 0 => 0
  | k + 1 => if (inr c 0 9 && (f k).testBit c.toNat) then atB f c k ||| 2 ^ k else atB f c k
theorem atB_yes {f : Nat → Nat} {c : Int} {k : Nat} (h : (inr c 0 9 && (f k).testBit c.toNat) = true) : atB f c (k + 1) = atB f c k ||| 2 ^ k := by simp only [atB, h]; rfl
theorem atB_no {f : Nat → Nat} {c : Int} {k : Nat} (h : (inr c 0 9 && (f k).testBit c.toNat) = false) : atB f c (k + 1) = atB f c k := by simp only [atB, h]; rfl
theorem atB_lt (f : Nat → Nat) (c : Int) : ∀ k, k ≤ 10 → atB f c k < 1024
  | 0, _ => by simp [atB]
  | k + 1, h => by
    have ih := atB_lt f c k (by omega)
    unfold atB
    split
    · exact Nat.or_lt_two_pow (n := 10) ih (Nat.pow_lt_pow_right (by omega) (by omega))
    · exact ih
theorem atB_bit (f : Nat → Nat) (c : Int) (j : Nat) : ∀ k, (atB f c k).testBit j = true ↔ j < k ∧ (inr c 0 9 && (f j).testBit c.toNat) = true
  | 0 => by simp [atB]
  | k + 1 => by
    have ih := atB_bit f c j k
    by_cases h : (inr c 0 9 && (f k).testBit c.toNat) = true
    · rw [atB_yes h, Nat.testBit_or, Bool.or_eq_true, ih, Nat.testBit_two_pow]
      constructor
      · rintro (⟨h1, h2⟩ | h1)
        · exact ⟨by omega, h2⟩
        · obtain rfl : k = j := by simpa using h1
          exact ⟨by omega, h⟩
      · rintro ⟨h1, h2⟩
        by_cases e : j = k
        · exact .inr (by simp [e])
        · exact .inl ⟨by omega, h2⟩
    · have h' : (inr c 0 9 && (f k).testBit c.toNat) = false := by simpa using h
      rw [atB_no h', ih]
      constructor
      · rintro ⟨h1, h2⟩
        exact ⟨by omega, h2⟩
      · rintro ⟨h1, h2⟩
        by_cases e : j = k
        · subst e; exact absurd h2 h
        · exact ⟨by omega, h2⟩
theorem atB_mem (N : Int) (X : List (List Int)) (c : Int) (j : Nat) : (atB (rf N X) c 10).testBit j = true ↔ (j : Int) ∈ atk N X c := by
  rw [atB_bit]
  by_cases h : gB N X = true
  · obtain ⟨n, rfl, hn, hp, _⟩ := gB_ok h
    rw [atk_mem h hp, Bool.and_eq_true]
    constructor
    · rintro ⟨_, h1, h2⟩
      have h1' : 0 ≤ c ∧ c ≤ 9 := by simpa [inr] using h1
      obtain ⟨k, rfl⟩ := Int.eq_ofNat_of_zero_le h1'.1
      exact (rf_mem h hp j k).1 h2
    · intro hx
      obtain ⟨p, q, rfl, h1, h2⟩ := hp _ hx |> fun ⟨p, q, e, h1, h2⟩ => (⟨q, p, by injection e with _ e; injection e with e _, h2, by injection e with e _; omega⟩ : ∃ q p : Nat, c = q ∧ q < n ∧ j < n)
      exact ⟨by omega, inr_t (by omega) (by omega), (rf_mem h hp j p).2 hx⟩
  · have h' : gB N X = false := by simpa using h
    rw [rf_none h']
    simp [atk, h']
theorem atB_code (N : Int) (X : List (List Int)) (c : Int) : lsT (atB (rf N X) c 10) 10 = atk N X c := by
  refine sorted_ext lt_irr lt_tr (lsT_asc _ _) (atk_asc N X c) (fun z => ?_)
  rw [lsT_mem]
  constructor
  · rintro ⟨j, _, hj, rfl⟩
    exact (atB_mem N X c j).1 hj
  · intro hz
    obtain ⟨n, p, _, hn, rfl, hp⟩ := atk_claim hz
    exact ⟨p, by omega, (atB_mem N X c p).2 hz, rfl⟩
theorem ansB_code (N : Int) (X : List (List Int)) (U : List Int) (c : Int) : lsT (anB (atB (rf N X) c 10) (bS U)) 10 = ansL N X U c := by
  have h1 := Nat.lt_trans (atB_lt (rf N X) c 10 (Nat.le_refl _)) (show 1024 < 65536 by decide)
  have h2 := Nat.lt_trans (bS_lt U) (show 2 ^ 10 < 65536 by decide)
  refine sorted_ext lt_irr lt_tr (lsT_asc _ _) (by unfold ansL; exact (atk_asc N X c).filter _) (fun z => ?_)
  rw [lsT_mem, ansL_mem]
  constructor
  · rintro ⟨j, hj, ht, rfl⟩
    rw [anB_bit h2 h1, Bool.and_eq_true] at ht
    refine ⟨(atB_mem N X c j).1 ht.1, fun hu => ?_⟩
    have := (bS_mem U j).2 ⟨hj, hu⟩
    rw [this] at ht
    exact absurd ht.2 (by simp)
  · rintro ⟨hz, hu⟩
    obtain ⟨n, p, _, hn, rfl, hp⟩ := atk_claim hz
    refine ⟨p, by omega, ?_, rfl⟩
    rw [anB_bit h2 h1, Bool.and_eq_true]
    refine ⟨(atB_mem N X c p).2 hz, ?_⟩
    cases hb : (bS U).testBit p with
    | false => rfl
    | true => exact absurd ((bS_mem U p).1 hb).2 hu
theorem bit_add {x : Nat} (hx : x < 65536) {k : Nat} (hk : k < 10) : bits .or .u16 (x : Int) (IntKind.u16.wrap (2 ^ k)) = ((x ||| 2 ^ k : Nat) : Int) := or_bit hx hk
set_option maxHeartbeats 2000000 in
theorem atkBits_any {w : World} {n : Int} {f : Nat → Nat} {c : Int} (hf : ∀ a, f a < 65536) :
    Calls Try.prog 48 #[.agg (arC n f), .int .i64 c] w (fun e w' => e = .returned (.int .u16 (atB f c 10 : Nat)) ∧ Below w.heap.size w w') := by
  have hb1 : Below w.heap.size w (w.alloc (Obj.cells (arC n f) 60)) := (Below.refl _ _).alloc (Nat.le_refl _) _
  have bx := Bx.made w 60 (arC n f)
  obtain ⟨c0, c1, c2, c3, c4, c5, c6, c7, c8, c9, c10⟩ := bx.eleven
  obtain ⟨W1, hW⟩ : ∃ u : World, u = w.alloc (Obj.cells (arC n f) 60) := ⟨_, rfl⟩
  rw [← hW] at hb1 c0 c1 c2 c3 c4 c5 c6 c7 c8 c9 c10
  have hW' := hW.symm
  clear hW bx
  go_enter Try.func48, Try.ntmps48
  go_wp2_with fail
  go_loopw [5, 10] (fun b i wr => ∃ k : Nat, k ≤ 10 ∧ i = .int .i64 k ∧ b = .int .u16 (atB f c k : Nat) ∧ wr = W1) (fun _ i _ => 10 - (intOf i).toNat)
  case atStart => exact ⟨0, Nat.zero_le _, rfl, rfl, rfl⟩
  case round =>
    obtain ⟨k, hk, rfl, rfl, rfl⟩ := hrel
    have hxk := Nat.lt_trans (atB_lt f c k hk) (show 1024 < 65536 by decide)
    by_cases hlt : k < 10
    · have hv := arV_at f hlt
      have hfk := hf k
      have i0 : (0 : Int) ≤ (k : Int) := by omega
      have i1 : (k : Int) < 10 := by omega
      have hidx := idxAR wr hlt hv
      unfold arV at hidx
      clear hv
      by_cases hb : (inr c 0 9 && (f k).testBit c.toNat) = true
      · have HB := Lib.hid hb
        have HT := Lib.hid (atB_yes hb)
        obtain ⟨y, hy⟩ : ∃ y, y = atB f c k := ⟨_, rfl⟩
        rw [← hy] at hxk HT ⊢
        have HO := Lib.hid (bit_add hxk hlt)
        clear hy hb
        go_wp2_with (go_at_call 47; refine (has_any hfk).mono ?_; rintro e w1 ⟨he, rfl⟩; rw [HB.out] at he; subst he)
        rw [HO.out]
        go_roundw
        case rel => exact ⟨k + 1, by omega, by go_num, by rw [HT.out], trivial⟩
        case measure => simp [intOf]; omega
      · have hb' : (inr c 0 9 && (f k).testBit c.toNat) = false := by simpa using hb
        have HB := Lib.hid hb'
        have HT := Lib.hid (atB_no hb')
        obtain ⟨y, hy⟩ : ∃ y, y = atB f c k := ⟨_, rfl⟩
        rw [← hy] at hxk HT ⊢
        clear hy hb hb'
        go_wp2_with (go_at_call 47; refine (has_any hfk).mono ?_; rintro e w1 ⟨he, rfl⟩; rw [HB.out] at he; subst he)
        go_roundw
        case rel => exact ⟨k + 1, by omega, by go_num, by rw [HT.out], trivial⟩
        case measure => simp [intOf]; omega
    · have e : k = 10 := by omega
      subst e
      go_wp2
      go_ret
      exact ⟨rfl, hb1⟩
set_option maxHeartbeats 4000000 in
theorem impAttackersOf_any {w : World} {A : Option Addr} {n c : Nat} {N a : Int} {X : List (List Int)} (hl : Hid (X.length = n)) (hn : n ≤ 1099511627776) (hr : RdSS w w.heap.size A X) :
    Calls Try.prog 19 #[.agg #[.int .i64 N, .slice A n c], .int .i64 a] w (Fresh 3 (ivs (atk N X a)) w) := by
  have hb1 : Below w.heap.size w (w.alloc (Obj.cells #[Value.int IntKind.i64 N, Value.slice A n c] 26)) := (Below.refl _ _).alloc (Nat.le_refl _) _
  have HR := Lib.hid hr
  clear hr
  go_enter Try.func19, Try.ntmps19
  go_wp2_with fail
  obtain ⟨W1, hW⟩ : ∃ u : World, u = w.alloc (Obj.cells #[Value.int IntKind.i64 N, Value.slice A n c] 26) := ⟨_, rfl⟩
  rw [← hW] at hb1 ⊢
  clear hW
  refine (rowsOf_any hl hn ((HR.out.below hb1).more hb1.size)).mono ?_
  rintro e w2 ⟨rfl, hb2⟩
  have hb3 := hb1.trans (hb2.mono hb1.size)
  have HQ := Lib.hid (atB_code N X a)
  have hfl := rf_lt N X
  generalize rf N X = f at hfl HQ ⊢
  generalize rn N X = m
  go_wp2_with fail
  refine (atkBits_any (n := m) hfl).mono ?_
  rintro e w3 ⟨rfl, hb4⟩
  have hb5 := hb3.trans (hb4.mono hb3.size)
  have hx := Nat.lt_trans (atB_lt f a 10 (Nat.le_refl _)) (show 1024 < 65536 by decide)
  go_wp2_with fail
  refine (list_any hx).mono ?_
  rintro e w4 ⟨v, rfl, hrow, hb6⟩
  go_wp2_with fail
  go_ret
  exact ⟨v, rfl, by rw [← HQ.out]; exact hrow.wide hb5.size (Nat.le_refl _), hb5.trans (hb6.mono hb5.size)⟩
theorem Bx.et_new {w w' : World} {g h : Nat} {t t' : TypeId} {n : Int} {f : Nat → Nat} {u v : Value} (b : Bx w g t (arC n f)) (b' : Bx w h t' #[u, v]) (hb : Below w.heap.size w w') :
    Below w.heap.size w w' ∧ w'.cell? ⟨h, 0, none⟩ = some u ∧ w'.cell? ⟨h, 1, none⟩ = some v ∧ w'.cell? ⟨g, 0, none⟩ = some (.int .i64 n) ∧ w'.cell? ⟨g, 1, none⟩ = some (.int .u16 (f 0 : Nat)) ∧ w'.cell? ⟨g, 2, none⟩ = some (.int .u16 (f 1 : Nat)) ∧ w'.cell? ⟨g, 3, none⟩ = some (.int .u16 (f 2 : Nat)) ∧ w'.cell? ⟨g, 4, none⟩ = some (.int .u16 (f 3 : Nat)) ∧ w'.cell? ⟨g, 5, none⟩ = some (.int .u16 (f 4 : Nat)) ∧ w'.cell? ⟨g, 6, none⟩ = some (.int .u16 (f 5 : Nat)) ∧ w'.cell? ⟨g, 7, none⟩ = some (.int .u16 (f 6 : Nat)) ∧ w'.cell? ⟨g, 8, none⟩ = some (.int .u16 (f 7 : Nat)) ∧ w'.cell? ⟨g, 9, none⟩ = some (.int .u16 (f 8 : Nat)) ∧ w'.cell? ⟨g, 10, none⟩ = some (.int .u16 (f 9 : Nat)) :=
  ⟨hb, (b'.new hb).two.1, (b'.new hb).two.2, (b.new hb).eleven⟩
end Go.Proofs.Ytncndlojceiejaa
