/- Contracts of slices.Index and slices.Contains of integers, and of the code's isInEach. Condition: the slices have at most 2^40 elements. -/
import Derived.Test.YtejncjjkcmhmbaaGrow
import Derived.Test.YtejncjjkcmhmbaaMg2
import Derived.Test.YtejncjjkcmhmbaaMg4
namespace Go.Proofs.Ytejncjjkcmhmbaa
open Go.ChangeShapes Go.WideShapes Go.ChangeAt Go.RowKit
set_option maxRecDepth 100000
theorem index_any {w : World} {B : Nat} {A : Option Addr} {n c : Nat} {a : Int} {S : List Int} (hl : Hid (S.length = n)) (hn : n ≤ 1099511627776) (hr : Rd w B A (ivs S)) :
    Calls Try.prog 138 #[.slice A n c, .int .i64 a] w (fun e w' => (∃ r, e = .returned (.int .i64 r) ∧ decide (0 ≤ r) = S.contains a) ∧ w = w') := by
  go_enter Try.func138, Try.ntmps138
  go_wp2_with fail
  go_loopw [8] (fun i wr => ∃ k : Nat, k ≤ n ∧ i = .int .i64 k ∧ wr = w ∧ Hid ((S.take k).contains a = false)) (fun i _ => n - (intOf i).toNat)
  case atStart => exact ⟨0, Nat.zero_le _, rfl, rfl, Lib.hid rfl⟩
  case round =>
    obtain ⟨k, hk, rfl, rfl, hno⟩ := hrel
    by_cases hlt : k < n
    · have hkz : k < S.length := by rw [hl.out]; exact hlt
      obtain ⟨ad, rfl, hab, hc⟩ := ivs_at hr hkz
      have i0 : (0 : Int) ≤ (k : Int) := by omega
      by_cases h1 : S[k] = a
      · have HY := Lib.hid (show S.contains a = true by rw [List.contains_iff_mem]; exact h1 ▸ List.getElem_mem hkz)
        rw [h1] at hc
        clear h1
        go_wp2_with fail
        go_ret
        exact ⟨⟨k, rfl, by rw [HY.out]; exact decide_eq_true i0⟩, rfl⟩
      · have HN := Lib.hid (show (S.take (k + 1)).contains a = false by
          rw [List.take_succ_eq_append_getElem hkz]
          have := hno.out
          simp only [List.contains_eq_mem, decide_eq_false_iff_not, List.mem_append, List.mem_singleton, not_or] at this ⊢
          exact ⟨this, fun e => h1 e.symm⟩)
        obtain ⟨z, hz⟩ : ∃ z, z = S[k] := ⟨_, rfl⟩
        rw [← hz] at hc h1
        have h1' : (a == z) = false := by simpa using (show ¬ a = z from fun e => h1 e.symm)
        clear hz
        go_wp2_with fail
        go_roundw
        case rel => exact ⟨k + 1, by omega, by go_num, trivial, HN⟩
        case measure => simp [intOf]; omega
    · have e : k = n := by omega
      subst e
      have HF := Lib.hid (show S.contains a = false by have := hno.out; rwa [List.take_of_length_le (by rw [hl.out]; exact Nat.le_refl _)] at this)
      go_wp2_with fail
      go_ret
      exact ⟨⟨-1, rfl, by rw [HF.out]; rfl⟩, rfl⟩
theorem contains_any' {w : World} {B : Nat} {A : Option Addr} {n c : Nat} {a : Int} {S : List Int} (hl : Hid (S.length = n)) (hn : n ≤ 1099511627776) (hr : Rd w B A (ivs S)) :
    Calls Try.prog 96 #[.slice A n c, .int .i64 a] w (fun e w' => e = .returned (.bool (S.contains a)) ∧ w = w') := by
  go_enter Try.func96, Try.ntmps96
  go_wp2_with fail
  refine (index_any hl hn hr).mono ?_
  rintro e w1 ⟨⟨r, rfl, hr2⟩, rfl⟩
  have HR := Lib.hid hr2
  clear hr2
  go_wp2_with fail
  go_ret
  exact ⟨ret_b HR.out, rfl⟩
theorem inEach1_any {w : World} {B g : Nat} {A : Option Addr} {n c : Nat} {a : Int} {S : List Int} (hl : Hid (S.length = n)) (hn : n ≤ 1099511627776) (hr : Rd w B A (ivs S)) (hc : w.cell? ⟨g, 0, none⟩ = some (.int .i64 a)) :
    Calls Try.prog 137 #[.slice A n c, .pointer (some ⟨g, 0, none⟩)] w (fun e w' => e = .returned (.bool (!(S.contains a))) ∧ w = w') := by
  go_enter Try.func137, Try.ntmps137
  go_wp2_with fail
  refine (contains_any' hl hn hr).mono ?_
  rintro e w1 ⟨rfl, rfl⟩
  go_wp2_with fail
  go_ret
  exact ⟨ret_b (by simp), rfl⟩
/-- Whether each list has a number. -/
def eachB (X : List (List Int)) (a : Int) : Bool := X.all fun t => t.contains a
set_option maxHeartbeats 1000000 in
theorem indexFunc_any {w : World} {B g : Nat} {A : Option Addr} {n c : Nat} {a : Int} {X : List (List Int)} (hl : Hid (X.length = n)) (hn : n ≤ 1099511627776) (hs : Hid (∀ x ∈ X, x.length ≤ 1099511627776)) (hr : RdSS w B A X) (hc : w.cell? ⟨g, 0, none⟩ = some (.int .i64 a)) :
    Calls Try.prog 139 #[.slice A n c, .func (.func 137) #[] #[.pointer (some ⟨g, 0, none⟩)]] w (fun e w' => (∃ r, e = .returned (.int .i64 r) ∧ decide (0 ≤ r) = !(eachB X a)) ∧ w = w') := by
  go_enter Try.func139, Try.ntmps139
  go_wp2_with fail
  go_loopw [8] (fun i wr => ∃ k : Nat, k ≤ n ∧ i = .int .i64 k ∧ wr = w ∧ Hid (eachB (X.take k) a = true)) (fun i _ => n - (intOf i).toNat)
  case atStart => exact ⟨0, Nat.zero_le _, rfl, rfl, Lib.hid rfl⟩
  case round =>
    obtain ⟨k, hk, rfl, rfl, hno⟩ := hrel
    by_cases hlt : k < n
    · have hkz : k < X.length := by rw [hl.out]; exact hlt
      obtain ⟨ad, Aj, cj, rfl, hab, hcx, _, _, hrd⟩ := hr.at_ hkz
      have hxl := hs.out X[k] (List.getElem_mem hkz)
      have HT := Lib.hid (List.take_succ_eq_append_getElem hkz)
      have HM := Lib.hid (List.getElem_mem hkz)
      obtain ⟨x, hx⟩ : ∃ x, x = X[k] := ⟨_, rfl⟩
      rw [← hx] at hcx hrd hxl HT HM
      have i0 : (0 : Int) ≤ (k : Int) := by omega
      obtain ⟨q, hq⟩ : ∃ q, q = x.length := ⟨_, rfl⟩
      have HQ := Lib.hid hq.symm
      rw [← hq] at hcx hxl
      clear hx hq
      by_cases h1 : x.contains a = true
      · have HC := Lib.hid h1
        have HN := Lib.hid (show eachB (X.take (k + 1)) a = true by
          have := hno.out
          unfold eachB at this ⊢
          rw [HT.out, List.all_append, this, List.all_cons, h1]; rfl)
        clear h1
        go_wp2_with (go_at_call 137; refine (inEach1_any HQ hxl hrd hc).mono ?_; rintro e w1 ⟨he, rfl⟩; rw [HC.out] at he; subst he)
        go_roundw
        case rel => exact ⟨k + 1, by omega, by go_num, trivial, HN⟩
        case measure => simp [intOf]; omega
      · have HC := Lib.hid (show x.contains a = false by simpa using h1)
        have HN := Lib.hid (show eachB X a = false by unfold eachB; rw [List.all_eq_false]; exact ⟨x, HM.out, by rw [HC.out]; simp⟩)
        clear h1
        go_wp2_with (go_at_call 137; refine (inEach1_any HQ hxl hrd hc).mono ?_; rintro e w1 ⟨he, rfl⟩; rw [HC.out] at he; subst he)
        go_ret
        exact ⟨⟨k, rfl, by rw [HN.out]; exact decide_eq_true i0⟩, rfl⟩
    · have e : k = n := by omega
      subst e
      have HF := Lib.hid (show eachB X a = true by have := hno.out; rwa [List.take_of_length_le (by rw [hl.out]; exact Nat.le_refl _)] at this)
      go_wp2_with fail
      go_ret
      exact ⟨⟨-1, rfl, by rw [HF.out]; rfl⟩, rfl⟩
theorem containsFunc_any {w : World} {B g : Nat} {A : Option Addr} {n c : Nat} {a : Int} {X : List (List Int)} (hl : Hid (X.length = n)) (hn : n ≤ 1099511627776) (hs : Hid (∀ x ∈ X, x.length ≤ 1099511627776)) (hr : RdSS w B A X) (hc : w.cell? ⟨g, 0, none⟩ = some (.int .i64 a)) :
    Calls Try.prog 97 #[.slice A n c, .func (.func 137) #[] #[.pointer (some ⟨g, 0, none⟩)]] w (fun e w' => e = .returned (.bool (!(eachB X a))) ∧ w = w') := by
  go_enter Try.func97, Try.ntmps97
  go_wp2_with fail
  refine (indexFunc_any hl hn hs hr hc).mono ?_
  rintro e w1 ⟨⟨r, rfl, hr2⟩, rfl⟩
  have HR := Lib.hid hr2
  clear hr2
  go_wp2_with fail
  go_ret
  exact ⟨ret_b HR.out, rfl⟩
theorem isInEach_any {w : World} {A : Option Addr} {n c : Nat} {a : Int} {X : List (List Int)} (hl : Hid (X.length = n)) (hn : n ≤ 1099511627776) (hs : Hid (∀ x ∈ X, x.length ≤ 1099511627776)) (hr : RdSS w w.heap.size A X) :
    Calls Try.prog 95 #[.slice A n c, .int .i64 a] w (fun e w' => e = .returned (.bool (eachB X a)) ∧ Below w.heap.size w w') := by
  have b0 := Bx.made w 3 #[Value.int .i64 a]
  have hb1 := alloc_new w (Obj.cells #[Value.int .i64 a] 3)
  obtain ⟨W1, hW⟩ : ∃ u : World, u = w.alloc (Obj.cells #[Value.int .i64 a] 3) := ⟨_, rfl⟩
  rw [← hW] at b0 hb1
  have hW' := hW.symm
  have HR := Lib.hid (hr.below hb1)
  have c0 := b0.at_ (k := 0) (v := .int .i64 a) rfl
  have HC := Lib.hid c0
  clear hW hr
  go_enter Try.func95, Try.ntmps95
  go_wp2_with fail
  refine (containsFunc_any hl hn hs HR.out HC.out).mono ?_
  rintro e w1 ⟨rfl, rfl⟩
  go_wp2_with fail
  go_ret
  exact ⟨ret_b (by simp), hb1⟩
end Go.Proofs.Ytejncjjkcmhmbaa
