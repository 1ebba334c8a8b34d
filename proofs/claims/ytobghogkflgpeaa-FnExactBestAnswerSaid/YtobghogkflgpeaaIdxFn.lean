/- Contracts of slices.IndexFunc and slices.ContainsFunc over integers, for the two functions of the game, which may turn the world. Condition: the slice has at most 2^40 elements. -/
import Derived.Test.YtobghogkflgpeaaMg0
import Derived.Test.YtobghogkflgpeaaMg1
namespace Go.Proofs.Ytobghogkflgpeaa
open Go.ChangeShapes Go.WideShapes Go.ChangeAt Go.RowKit
set_option maxRecDepth 100000
set_option maxHeartbeats 2000000 in
theorem indexH_any {w : World} {B : Nat} {A : Option Addr} {n c : Nat} {zs : List Int} {p1 p2 : Value} {p : Int → Bool} {I : World → Prop} (hl : Hid (zs.length = n)) (hn : n ≤ 1099511627776) (hr : ∀ w', I w' → Rd w' B A (ivs zs)) (hI : I w)
    (hcall : ∀ z ∈ zs, ∀ w', I w' → Calls Try.prog 74 #[.int .i64 z, p1, p2] w' (fun e w'' => e = .returned (.bool (p z)) ∧ I w'')) :
    Calls Try.prog 88 #[.slice A n c, .func (.func 74) #[] #[p1, p2]] w (fun e w' => (∃ r, e = .returned (.int .i64 r) ∧ decide (0 ≤ r) = zs.any p) ∧ I w') := by
  have HI := Lib.hid hI
  have HR := Lib.hid hr
  have HC := Lib.hid hcall
  clear hI hr hcall
  go_enter Try.func88, Try.ntmps88
  go_wp2_with fail
  go_loopw [8] (fun i wr => ∃ k : Nat, k ≤ n ∧ i = .int .i64 k ∧ Hid (I wr) ∧ Hid ((zs.take k).any p = false)) (fun i _ => n - (intOf i).toNat)
  case atStart => exact ⟨0, Nat.zero_le _, rfl, HI, Lib.hid rfl⟩
  case round =>
    obtain ⟨k, hk, rfl, hi, hno⟩ := hrel
    by_cases hlt : k < n
    · have hkz : k < zs.length := by rw [hl.out]; exact hlt
      obtain ⟨ad, rfl, hab, hc⟩ := ivs_at (HR.out _ hi.out) hkz
      have HK := Lib.hid (HC.out zs[k] (List.getElem_mem hkz))
      have HT := Lib.hid (show (zs.take (k + 1)).any p = ((zs.take k).any p || p zs[k]) by rw [List.take_succ_eq_append_getElem hkz, List.any_append]; simp)
      have HY := Lib.hid (fun h : p zs[k] = true => show zs.any p = true from List.any_eq_true.2 ⟨_, List.getElem_mem hkz, h⟩)
      have i0 : (0 : Int) ≤ (k : Int) := by omega
      obtain ⟨x, hx⟩ : ∃ x, x = zs[k] := ⟨_, rfl⟩
      rw [← hx] at hc HK HT HY
      obtain ⟨b, hb⟩ : ∃ b, b = p x := ⟨_, rfl⟩
      rw [← hb] at HK HT HY
      clear hx hb
      go_wp2_with fail
      refine (HK.out _ hi.out).mono ?_
      rintro e w2 ⟨rfl, hi2⟩
      have HI2 := Lib.hid hi2
      clear hi2
      cases b with
      | true =>
        have HYY := Lib.hid (HY.out rfl)
        go_wp2_with fail
        go_ret
        exact ⟨⟨k, rfl, by rw [HYY.out]; exact decide_eq_true i0⟩, HI2.out⟩
      | false =>
        have HN := Lib.hid (show (zs.take (k + 1)).any p = false by rw [HT.out, hno.out]; rfl)
        go_wp2_with fail
        go_roundw
        case rel => exact ⟨k + 1, by omega, by go_num, HI2, HN⟩
        case measure => simp [intOf]; omega
    · have e : k = n := by omega
      subst e
      have HF := Lib.hid (show zs.any p = false by have := hno.out; rwa [List.take_of_length_le (by rw [hl.out]; exact Nat.le_refl _)] at this)
      go_wp2_with fail
      go_ret
      exact ⟨⟨-1, rfl, by rw [HF.out]; rfl⟩, hi.out⟩
theorem containsH_any {w : World} {B : Nat} {A : Option Addr} {n c : Nat} {zs : List Int} {p1 p2 : Value} {p : Int → Bool} {I : World → Prop} (hl : Hid (zs.length = n)) (hn : n ≤ 1099511627776) (hr : ∀ w', I w' → Rd w' B A (ivs zs)) (hI : I w)
    (hcall : ∀ z ∈ zs, ∀ w', I w' → Calls Try.prog 74 #[.int .i64 z, p1, p2] w' (fun e w'' => e = .returned (.bool (p z)) ∧ I w'')) :
    Calls Try.prog 73 #[.slice A n c, .func (.func 74) #[] #[p1, p2]] w (fun e w' => e = .returned (.bool (zs.any p)) ∧ I w') := by
  have HI := Lib.hid hI
  have HR := Lib.hid hr
  have HC := Lib.hid hcall
  clear hI hr hcall
  go_enter Try.func73, Try.ntmps73
  go_wp2_with fail
  refine (indexH_any hl hn HR.out HI.out HC.out).mono ?_
  rintro e w1 ⟨⟨r, rfl, hr2⟩, hi⟩
  have HR2 := Lib.hid hr2
  have HI2 := Lib.hid hi
  clear hr2 hi
  go_wp2_with fail
  go_ret
  exact ⟨ret_b HR2.out, HI2.out⟩
set_option maxHeartbeats 2000000 in
theorem indexC_any {w : World} {B : Nat} {A : Option Addr} {n c : Nat} {zs : List Int} {p1 p2 : Value} {p : Int → Bool} {I : World → Prop} (hl : Hid (zs.length = n)) (hn : n ≤ 1099511627776) (hr : ∀ w', I w' → Rd w' B A (ivs zs)) (hI : I w)
    (hcall : ∀ z ∈ zs, ∀ w', I w' → Calls Try.prog 89 #[.int .i64 z, p1, p2] w' (fun e w'' => e = .returned (.bool (p z)) ∧ I w'')) :
    Calls Try.prog 88 #[.slice A n c, .func (.func 89) #[] #[p1, p2]] w (fun e w' => (∃ r, e = .returned (.int .i64 r) ∧ decide (0 ≤ r) = zs.any p) ∧ I w') := by
  have HI := Lib.hid hI
  have HR := Lib.hid hr
  have HC := Lib.hid hcall
  clear hI hr hcall
  go_enter Try.func88, Try.ntmps88
  go_wp2_with fail
  go_loopw [8] (fun i wr => ∃ k : Nat, k ≤ n ∧ i = .int .i64 k ∧ Hid (I wr) ∧ Hid ((zs.take k).any p = false)) (fun i _ => n - (intOf i).toNat)
  case atStart => exact ⟨0, Nat.zero_le _, rfl, HI, Lib.hid rfl⟩
  case round =>
    obtain ⟨k, hk, rfl, hi, hno⟩ := hrel
    by_cases hlt : k < n
    · have hkz : k < zs.length := by rw [hl.out]; exact hlt
      obtain ⟨ad, rfl, hab, hc⟩ := ivs_at (HR.out _ hi.out) hkz
      have HK := Lib.hid (HC.out zs[k] (List.getElem_mem hkz))
      have HT := Lib.hid (show (zs.take (k + 1)).any p = ((zs.take k).any p || p zs[k]) by rw [List.take_succ_eq_append_getElem hkz, List.any_append]; simp)
      have HY := Lib.hid (fun h : p zs[k] = true => show zs.any p = true from List.any_eq_true.2 ⟨_, List.getElem_mem hkz, h⟩)
      have i0 : (0 : Int) ≤ (k : Int) := by omega
      obtain ⟨x, hx⟩ : ∃ x, x = zs[k] := ⟨_, rfl⟩
      rw [← hx] at hc HK HT HY
      obtain ⟨b, hb⟩ : ∃ b, b = p x := ⟨_, rfl⟩
      rw [← hb] at HK HT HY
      clear hx hb
      go_wp2_with fail
      refine (HK.out _ hi.out).mono ?_
      rintro e w2 ⟨rfl, hi2⟩
      have HI2 := Lib.hid hi2
      clear hi2
      cases b with
      | true =>
        have HYY := Lib.hid (HY.out rfl)
        go_wp2_with fail
        go_ret
        exact ⟨⟨k, rfl, by rw [HYY.out]; exact decide_eq_true i0⟩, HI2.out⟩
      | false =>
        have HN := Lib.hid (show (zs.take (k + 1)).any p = false by rw [HT.out, hno.out]; rfl)
        go_wp2_with fail
        go_roundw
        case rel => exact ⟨k + 1, by omega, by go_num, HI2, HN⟩
        case measure => simp [intOf]; omega
    · have e : k = n := by omega
      subst e
      have HF := Lib.hid (show zs.any p = false by have := hno.out; rwa [List.take_of_length_le (by rw [hl.out]; exact Nat.le_refl _)] at this)
      go_wp2_with fail
      go_ret
      exact ⟨⟨-1, rfl, by rw [HF.out]; rfl⟩, hi.out⟩
theorem containsC_any {w : World} {B : Nat} {A : Option Addr} {n c : Nat} {zs : List Int} {p1 p2 : Value} {p : Int → Bool} {I : World → Prop} (hl : Hid (zs.length = n)) (hn : n ≤ 1099511627776) (hr : ∀ w', I w' → Rd w' B A (ivs zs)) (hI : I w)
    (hcall : ∀ z ∈ zs, ∀ w', I w' → Calls Try.prog 89 #[.int .i64 z, p1, p2] w' (fun e w'' => e = .returned (.bool (p z)) ∧ I w'')) :
    Calls Try.prog 73 #[.slice A n c, .func (.func 89) #[] #[p1, p2]] w (fun e w' => e = .returned (.bool (zs.any p)) ∧ I w') := by
  have HI := Lib.hid hI
  have HR := Lib.hid hr
  have HC := Lib.hid hcall
  clear hI hr hcall
  go_enter Try.func73, Try.ntmps73
  go_wp2_with fail
  refine (indexC_any hl hn HR.out HI.out HC.out).mono ?_
  rintro e w1 ⟨⟨r, rfl, hr2⟩, hi⟩
  have HR2 := Lib.hid hr2
  have HI2 := Lib.hid hi
  clear hr2 hi
  go_wp2_with fail
  go_ret
  exact ⟨ret_b HR2.out, HI2.out⟩
end Go.Proofs.Ytobghogkflgpeaa
