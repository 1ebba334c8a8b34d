/- Contracts of FormatInt and of its model: each returns the decimal numeral of its argument and leaves all that was there as it was. Condition: the library table of powers of ten holds what its initialiser lays. -/
import Derived.Test.YtdmggojdanmohaaDoorShelf
import Derived.WalkKit
import Derived.WalkLawsBesides
import Derived.WalkSpells
import Derived.ProofKit
import Derived.OpenShut
import Derived.LoopN
import Derived.LoopTactic
import Derived.Lib.Hide
import Derived.IntWalk
import Derived.Lib.ItoaNum
import Derived.Test.YtdmggojdanmohaaDoorBase
namespace Go.Proofs.YtdmggojdanmohaaDoor
open Go.ChangeShapes Go.WideShapes Go.ChangeAt Go.RowKit Go.Proofs
def pre (m : Nat) : List UInt8 := if m = 0 then [] else Lib.decDigits m
theorem pre_step (m : Nat) (h : 0 < m) : pre m = pre (m / 10) ++ [UInt8.ofNat (48 + m % 10)] := by
  unfold pre
  rw [if_neg (by omega)]
  by_cases h9 : m < 10
  · rw [if_pos (by omega), Lib.decDigits, dif_pos h9, Nat.mod_eq_of_lt h9]; rfl
  · rw [if_neg (by omega)]
    conv => lhs; rw [Lib.decDigits, dif_neg h9]
theorem conv1 (W : World) (d : Nat) (h : d < 10) : (convert 22 9 (.slice (some ⟨W.heap.size, 0, none⟩) 1 1)).run Tryd.prog (W.alloc (.cells #[.int .u8 (48 + (d : Int))] 5)) = .ok (.string ⟨#[UInt8.ofNat (48 + d)]⟩) (W.alloc (.cells #[.int .u8 (48 + (d : Int))] 5)) :=
  run_convert_bytes_back (P := Tryd.prog) (W.alloc (.cells #[.int .u8 (48 + (d : Int))] 5)) 22 9 5 ⟨W.heap.size, 0, none⟩ 1 [UInt8.ofNat (48 + d)] Tryd.underlying22 Tryd.underlying5 Tryd.underlying9 (fun j hj => by
    obtain rfl : j = 0 := by simpa using hj
    have e : ((UInt8.ofNat (48 + d)).toNat : Int) = 48 + (d : Int) := by rw [UInt8.toNat_ofNat', Nat.mod_eq_of_lt (by omega)]; omega
    simp only [List.getElem_cons_zero, e]
    exact World.cell?_alloc_new _ _ _ _ |>.trans rfl)
theorem dd_len (n : Nat) (h1 : n ≤ 9223372036854775808) : (Lib.decDigits n).length ≤ 20 := by
  rw [Lib.decDigits_length]
  by_cases h : n = 0
  · subst h; rw [Lib.nDigits]; simp
  · have := Lib.numDigits_eq n (by omega) (by omega); split at this <;> omega
theorem len_le {m n : Nat} {l : List UInt8} (h1 : n ≤ 9223372036854775808) (hl : pre m ++ l = Lib.decDigits n) : l.length ≤ 20 := by
  have := dd_len n h1
  rw [← hl, List.length_append] at this
  omega
theorem step_eq {m n : Nat} {l : List UInt8} (hz : 0 < m) (hl : pre m ++ l = Lib.decDigits n) : pre (m / 10) ++ (UInt8.ofNat (48 + m % 10) :: l) = Lib.decDigits n := by
  rw [← hl, pre_step m hz, List.append_assoc]; rfl
theorem cat_eq (d : Nat) (l : List UInt8) : Value.string (⟨#[48 + UInt8.ofNat d]⟩ ++ ⟨l.toArray⟩) = Value.string ⟨((UInt8.ofNat (48 + d)) :: l).toArray⟩ := by
  have e : (48 : UInt8) + UInt8.ofNat d = UInt8.ofNat (48 + d) := by rw [UInt8.ofNat_add]; rfl
  rw [e]; congr 1
theorem cat_neg (l : List UInt8) : Value.string (⟨#[45]⟩ ++ ⟨l.toArray⟩) = Value.string ⟨(45 :: l).toArray⟩ := by
  congr 1
theorem spec_fmt_pos (n : Nat) (h0 : 0 < n) (h1 : n ≤ 9223372036854775807) (w : World) :
    Calls Tryd.prog 14 #[.int .i64 n] w fun e w' => e = .returned (.string ⟨(Lib.decDigits n).toArray⟩) ∧ Below w.heap.size w w' := by
  have hn : ((n : Int) == 0) = false := by simp; omega
  have hn0 : ¬ (n : Int) < 0 := by omega
  go_enter Tryd.func14, Tryd.ntmps14
  go_wp2
  go_loopw [3, 4] (fun s x wr => ∃ (m : Nat) (l : List UInt8), m ≤ n ∧ pre m ++ l = Lib.decDigits n ∧ s = .string ⟨l.toArray⟩ ∧ x = .int .i64 m ∧ Below w.heap.size w wr) (fun _ x _ => (intOf x).toNat)
  case atStart => exact ⟨n, [], Nat.le_refl _, by simp [pre]; omega, rfl, rfl, Below.refl _ _⟩
  case round =>
    obtain ⟨m, l, hm, hl, rfl, rfl, hb⟩ := hrel
    have hll := len_le (by omega) hl
    by_cases hz : 0 < m
    · have hz1 : ((m : Int) != 0) = true := by simp; omega
      have hbd : 0 ≤ (m : Int) ∧ (m : Int) ≤ 9223372036854775807 := by omega
      have hc := conv1 wr (m % 10) (by omega)
      rw [show ((m % 10 : Nat) : Int) = (m : Int) % 10 by omega] at hc
      have HL := Lib.hid (step_eq hz hl)
      clear hl
      go_wp2
      exact ⟨⟨m / 10, _, by omega, HL.out, cat_eq _ _, by go_num, hb.alloc hb.size _⟩, by simp [intOf]; omega⟩
    · have hz1 : ((m : Int) != 0) = false := by simp; omega
      obtain rfl : m = 0 := by omega
      have HL := Lib.hid hl
      clear hl
      go_wp2
      go_ret
      exact ⟨ret_s (by rw [← HL.out]; rfl), hb⟩
theorem spec_fmt_neg (n : Nat) (h0 : 0 < n) (h1 : n ≤ 9223372036854775808) (w : World) :
    Calls Tryd.prog 14 #[.int .i64 (-(n : Int))] w fun e w' => e = .returned (.string ⟨(45 :: Lib.decDigits n).toArray⟩) ∧ Below w.heap.size w w' := by
  have hn : (-(n : Int) == 0) = false := by simp; omega
  have hn0 : -(n : Int) < 0 := by omega
  go_enter Tryd.func14, Tryd.ntmps14
  go_wp2
  go_loopw [3, 4] (fun s x wr => ∃ (m : Nat) (l : List UInt8), m ≤ n ∧ pre m ++ l = Lib.decDigits n ∧ s = .string ⟨l.toArray⟩ ∧ x = .int .i64 (-(m : Int)) ∧ Below w.heap.size w wr) (fun _ x _ => (- intOf x).toNat)
  case atStart => exact ⟨n, [], Nat.le_refl _, by simp [pre]; omega, rfl, rfl, Below.refl _ _⟩
  case round =>
    obtain ⟨m, l, hm, hl, rfl, rfl, hb⟩ := hrel
    have hll := len_le (by omega) hl
    by_cases hz : 0 < m
    · have hz1 : (-(m : Int) != 0) = true := by simp; omega
      have HL := Lib.hid (step_eq hz hl)
      clear hl
      by_cases hd : 0 < (m : Int) % 10
      · have hc := conv1 wr (m % 10) (by omega)
        rw [show ((m % 10 : Nat) : Int) = (m : Int) % 10 by omega] at hc
        go_wp2
        exact ⟨⟨m / 10, _, by omega, HL.out, cat_eq _ _, by go_num, hb.alloc hb.size _⟩, by simp [intOf]; omega⟩
      · have hc := conv1 wr 0 (by omega)
        have e0 : m % 10 = 0 := by omega
        rw [show (48 + ((0 : Nat) : Int)) = 48 + -((m : Int) % 10) by omega] at hc
        rw [e0] at HL
        clear e0
        go_wp2
        exact ⟨⟨m / 10, _, by omega, HL.out, by congr 1, by go_num, hb.alloc hb.size _⟩, by simp [intOf]; omega⟩
    · have hz1 : (-(m : Int) != 0) = false := by simp; omega
      obtain rfl : m = 0 := by omega
      have HL := Lib.hid hl
      clear hl
      go_wp2
      go_ret
      exact ⟨ret_s (by rw [← HL.out]; rfl), hb⟩
theorem spec_fmt_any (n : Int) (h0 : -9223372036854775808 ≤ n) (h1 : n ≤ 9223372036854775807) (w : World) :
    Calls Tryd.prog 14 #[.int .i64 n] w fun e w' => e = .returned (.string ⟨(Lib.itoa n).toArray⟩) ∧ Below w.heap.size w w' := by
  rcases Int.lt_trichotomy n 0 with h | h | h
  · obtain ⟨m, rfl⟩ : ∃ m : Nat, n = -(m : Int) := ⟨n.natAbs, by omega⟩
    rw [Lib.itoa_neg m (by omega)]
    exact spec_fmt_neg m (by omega) (by omega) w
  · subst h
    go_enter Tryd.func14, Tryd.ntmps14
    go_wp2
    go_ret
    exact ⟨ret_s (by rw [Lib.itoa]; simp [Lib.decDigits]), Below.refl _ _⟩
  · obtain ⟨m, rfl⟩ : ∃ m : Nat, n = (m : Int) := ⟨n.toNat, by omega⟩
    rw [Lib.itoa_nonneg]
    exact spec_fmt_pos m (by omega) (by omega) w
theorem below_grow {w w' : World} (h : ∃ k os, w' = Sort.grow (w.drewN k) os) : Below w.heap.size w w' := by
  obtain ⟨k, os, rfl⟩ := h
  refine ⟨rfl, rfl, rfl, by simp [Sort.grow, World.drewN], fun i hi => ?_⟩
  simp only [Sort.grow]
  rw [Array.getElem?_append_left (by exact hi)]
  rfl
theorem tab_below {P : Program} {w w' : World} {name : String} {k : IntKind} {zs : List Int} (hb : Below w.heap.size w w') (h : Lib.TabIs P w name k zs) : Lib.TabIs P w' name k zs := by
  unfold Lib.TabIs World.var? at *
  cases hg : P.globalNamed name with
  | none => simp [hg] at h
  | some g =>
    simp only [hg, Option.bind_some] at h ⊢
    have hlt : g < w.heap.size := by
      rcases Nat.lt_or_ge g w.heap.size with h' | h'
      · exact h'
      · rw [Array.getElem?_eq_none h'] at h; simp at h
    rw [hb.block g hlt]
    exact h
theorem impl_fmt_any (n : Int) (h0 : -9223372036854775808 ≤ n) (h1 : n ≤ 9223372036854775807) (w : World) (htab : Lib.TabIs Tryd.prog w "internal/strconv.uint64pow10" .u64 Lib.pow10Tab) :
    Calls Tryd.prog 10 #[.int .i64 n] w fun e w' => e = .returned (.string ⟨(Lib.itoa n).toArray⟩) ∧ Below w.heap.size w w' := by
  go_enter Tryd.func10, Tryd.ntmps10
  go_wp2_with (go_at_call 22; refine (Tryd.strconv_Itoa n h0 h1 w htab).mono ?_; rintro e w' ⟨rfl, hw⟩; have hb := below_grow hw; clear hw)
  go_ret
  exact ⟨rfl, hb⟩
end Go.Proofs.YtdmggojdanmohaaDoor
