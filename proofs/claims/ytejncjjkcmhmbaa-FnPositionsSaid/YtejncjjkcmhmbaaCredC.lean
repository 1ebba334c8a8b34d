/- Contracts of the code's IsCredible and IsCertain. Condition: the slices have at most 2^40 elements. -/
import Derived.Test.YtejncjjkcmhmbaaPrefC
import Derived.Test.YtejncjjkcmhmbaaInAllD
import Derived.Test.YtejncjjkcmhmbaaInAllM
namespace Go.Proofs.Ytejncjjkcmhmbaa
open Go.ChangeShapes Go.WideShapes Go.ChangeAt Go.RowKit
set_option maxRecDepth 100000
theorem two_blocksV (w : World) (c1 c2 : Array Value) (t1 t2 : TypeId) : ∃ W1 : World, (w.alloc (Obj.cells c1 t1)).alloc (Obj.cells c2 t2) = W1 ∧ Bx W1 w.heap.size t1 c1 ∧ Bx W1 (w.heap.size + 1) t2 c2 ∧ Below w.heap.size w W1 ∧ W1.heap.size = w.heap.size + 2 := by
  have a1 := (Bx.made w t1 c1).new (alloc_new _ (Obj.cells c2 t2))
  have a2 := Bx.made (w.alloc (Obj.cells c1 t1)) t2 c2
  exact ⟨_, rfl, a1, by simpa using a2, ((Below.refl _ _).alloc (Nat.le_refl _) _).alloc (by simp) _, by simp⟩
/-- Whether one of the lists has a number. -/
def anyB (X : List (List Int)) (a : Int) : Bool := X.any fun t => t.contains a
theorem cred1_any {w : World} {B g : Nat} {A : Option Addr} {n c : Nat} {a : Int} {S : List Int} (hl : Hid (S.length = n)) (hn : n ≤ 1099511627776) (hr : Rd w B A (ivs S)) (hc : w.cell? ⟨g, 0, none⟩ = some (.int .i64 a)) :
    Calls Try.prog 98 #[.slice A n c, .pointer (some ⟨g, 0, none⟩)] w (fun e w' => e = .returned (.bool (S.contains a)) ∧ w = w') := by
  go_enter Try.func98, Try.ntmps98
  go_wp2_with fail
  refine (contains_any' hl hn hr).mono ?_
  rintro e w1 ⟨rfl, rfl⟩
  go_wp2_with fail
  go_ret
  exact ⟨ret_b (by simp), rfl⟩
set_option maxHeartbeats 1000000 in
theorem indexFuncC_any {w : World} {B g : Nat} {A : Option Addr} {n c : Nat} {a : Int} {X : List (List Int)} (hl : Hid (X.length = n)) (hn : n ≤ 1099511627776) (hs : Hid (∀ x ∈ X, x.length ≤ 1099511627776)) (hr : RdSS w B A X) (hc : w.cell? ⟨g, 0, none⟩ = some (.int .i64 a)) :
    Calls Try.prog 139 #[.slice A n c, .func (.func 98) #[] #[.pointer (some ⟨g, 0, none⟩)]] w (fun e w' => (∃ r, e = .returned (.int .i64 r) ∧ decide (0 ≤ r) = anyB X a) ∧ w = w') := by
  go_enter Try.func139, Try.ntmps139
  go_wp2_with fail
  go_loopw [8] (fun i wr => ∃ k : Nat, k ≤ n ∧ i = .int .i64 k ∧ wr = w ∧ Hid (anyB (X.take k) a = false)) (fun i _ => n - (intOf i).toNat)
  case atStart => exact ⟨0, Nat.zero_le _, rfl, rfl, Lib.hid rfl⟩
  case round =>
    obtain ⟨k, hk, rfl, rfl, hno⟩ := hrel
    by_cases hlt : k < n
    · have hkz : k < X.length := by rw [hl.out]; exact hlt
      obtain ⟨ad, Aj, cj, rfl, hab, hcx, _, _, hrd⟩ := hr.at_ hkz
      have hxl := hs.out X[k] (List.getElem_mem hkz)
      have HT := Lib.hid (List.take_succ_eq_append_getElem hkz)
      have HM := Lib.hid (List.getElem_mem hkz)
      obtain ⟨x, hx⟩ : ∃ x, x = X[k] := ⟨_, rfl⟩
      rw [← hx] at hcx hrd hxl HT HM
      have i0 : (0 : Int) ≤ (k : Int) := by omega
      obtain ⟨q, hq⟩ : ∃ q, q = x.length := ⟨_, rfl⟩
      have HQ := Lib.hid hq.symm
      rw [← hq] at hcx hxl
      clear hx hq
      by_cases h1 : x.contains a = true
      · have HC := Lib.hid h1
        have HN := Lib.hid (show anyB X a = true from List.any_eq_true.2 ⟨x, HM.out, h1⟩)
        clear h1
        go_wp2_with (go_at_call 98; refine (cred1_any HQ hxl hrd hc).mono ?_; rintro e w1 ⟨he, rfl⟩; rw [HC.out] at he; subst he)
        go_ret
        exact ⟨⟨k, rfl, by rw [HN.out]; exact decide_eq_true i0⟩, rfl⟩
      · have HC := Lib.hid (show x.contains a = false by simpa using h1)
        have HN := Lib.hid (show anyB (X.take (k + 1)) a = false by
          have := hno.out
          unfold anyB at this ⊢
          rw [HT.out, List.any_append, this, List.any_cons, HC.out]; rfl)
        clear h1
        go_wp2_with (go_at_call 98; refine (cred1_any HQ hxl hrd hc).mono ?_; rintro e w1 ⟨he, rfl⟩; rw [HC.out] at he; subst he)
        go_roundw
        case rel => exact ⟨k + 1, by omega, by go_num, trivial, HN⟩
        case measure => simp [intOf]; omega
    · have e : k = n := by omega
      subst e
      have HF := Lib.hid (show anyB X a = false by have := hno.out; rwa [List.take_of_length_le (by rw [hl.out]; exact Nat.le_refl _)] at this)
      go_wp2_with fail
      go_ret
      exact ⟨⟨-1, rfl, by rw [HF.out]; rfl⟩, rfl⟩
theorem containsFuncC_any {w : World} {B g : Nat} {A : Option Addr} {n c : Nat} {a : Int} {X : List (List Int)} (hl : Hid (X.length = n)) (hn : n ≤ 1099511627776) (hs : Hid (∀ x ∈ X, x.length ≤ 1099511627776)) (hr : RdSS w B A X) (hc : w.cell? ⟨g, 0, none⟩ = some (.int .i64 a)) :
    Calls Try.prog 97 #[.slice A n c, .func (.func 98) #[] #[.pointer (some ⟨g, 0, none⟩)]] w (fun e w' => e = .returned (.bool (anyB X a)) ∧ w = w') := by
  go_enter Try.func97, Try.ntmps97
  go_wp2_with fail
  refine (indexFuncC_any hl hn hs hr hc).mono ?_
  rintro e w1 ⟨⟨r, rfl, hr2⟩, rfl⟩
  have HR := Lib.hid hr2
  clear hr2
  go_wp2_with fail
  go_ret
  exact ⟨ret_b HR.out, rfl⟩
theorem prefL_len (N : Int) (X : List (List Int)) : (prefL N X).length ≤ 1024 := Nat.le_trans (List.length_filter_le _ _) (allC_len N X)
theorem prefL_row {N : Int} {X : List (List Int)} : ∀ s ∈ prefL N X, s.length ≤ 10 := fun s hs => allC_row s (List.mem_filter.1 hs).1
theorem stabL_len (N : Int) (X : List (List Int)) : (stabL N X).length ≤ 1024 := Nat.le_trans (List.length_filter_le _ _) (allC_len N X)
theorem stabL_row {N : Int} {X : List (List Int)} : ∀ s ∈ stabL N X, s.length ≤ 10 := fun s hs => allC_row s (List.mem_filter.1 hs).1
theorem credB_eq (N : Int) (X : List (List Int)) (a : Int) : anyB (prefL N X) a = credB N X a := rfl
set_option maxHeartbeats 2000000 in
theorem impIsCredible_any {w : World} {A : Option Addr} {n c : Nat} {N a : Int} {X : List (List Int)} (hl : Hid (X.length = n)) (hn : n ≤ 1099511627776) (hr : RdSS w w.heap.size A X) :
    Calls Try.prog 40 #[.agg #[.int .i64 N, .slice A n c], .int .i64 a] w (Tells (credB N X a) w) := by
  have hmf : ∀ (fn : Fn) (first cap : Array Value) (w : World), (Instr.makeFunc fn first cap).run Try.prog w = .ok (.func fn first cap) w := fun _ _ _ _ => rfl
  obtain ⟨W1, hW, bx0, bx1, hb1, hs1⟩ := two_blocksV w #[Value.int IntKind.i64 N, Value.slice A n c] #[Value.int .i64 a] 27 3
  have HR := Lib.hid ((hr.below hb1).more hb1.size)
  obtain ⟨C0, C1⟩ := bx0.two
  clear hr
  go_enter Try.func40, Try.ntmps40
  go_wp2_with fail
  refine (impPreferred_any hl hn HR.out).mono ?_
  rintro e w2 ⟨v, rfl, hov, hb2⟩
  obtain ⟨A2, c2, rfl, hrd2, _, _⟩ := hov.rd (n := (prefL N X).length) rfl
  have hb20 := hb1.trans (hb2.mono hb1.size)
  have ca := (bx1.new hb2).at_ (k := 0) (v := .int .i64 a) rfl
  have HO := Lib.hid hrd2
  clear C0 C1 hov hrd2 hW
  go_wp2_with fail
  refine (containsFuncC_any (X := prefL N X) (Lib.hid rfl) (by have := prefL_len N X; omega) (Lib.hid (fun x hx => by have := prefL_row x hx; omega)) HO.out ca).mono ?_
  rintro e w3 ⟨rfl, rfl⟩
  go_wp2_with fail
  go_ret
  exact ⟨rfl, hb20⟩
set_option maxHeartbeats 2000000 in
theorem impIsCertain_any {w : World} {A : Option Addr} {n c : Nat} {N a : Int} {X : List (List Int)} (hl : Hid (X.length = n)) (hn : n ≤ 1099511627776) (hr : RdSS w w.heap.size A X) :
    Calls Try.prog 39 #[.agg #[.int .i64 N, .slice A n c], .int .i64 a] w (Tells (certB N X a) w) := by
  obtain ⟨W1, hW, bx1, hb1⟩ := one_graph w #[Value.int IntKind.i64 N, Value.slice A n c] 27
  have HR := Lib.hid ((hr.below hb1).more hb1.size)
  have hW' := hW.symm
  obtain ⟨C0, C1⟩ := bx1.two
  clear hr hW
  go_enter Try.func39, Try.ntmps39
  go_wp2_with fail
  refine (impPreferred_any hl hn HR.out).mono ?_
  rintro e w2 ⟨v, rfl, hov, hb2⟩
  obtain ⟨A2, c2, rfl, hrd2, hc2, _⟩ := hov.rd (n := (prefL N X).length) rfl
  have hb20 := hb1.trans (hb2.mono hb1.size)
  have HO := Lib.hid hrd2
  clear C0 C1 hov hrd2 hW'
  go_wp2_with fail
  refine (impInAll_any (X := prefL N X) (Lib.hid rfl) (by have := prefL_len N X; omega) hc2 (Lib.hid (fun x hx => by have := prefL_row x hx; omega)) HO.out).mono ?_
  rintro e w3 ⟨v3, rfl, hrow3, hb3⟩
  obtain ⟨A3, c3, rfl, hrd3, _, _⟩ := hrow3.rd (n := (inAllL (prefL N X)).length) (ivs_len _)
  have hb30 := hb20.trans (hb3.mono hb20.size)
  have hl3 : (inAllL (prefL N X)).length ≤ 1099511627776 := by
    have h1 := inAllL_len (prefL N X)
    have h2 := psum_ten (X := prefL N X) prefL_row
    have h3 := prefL_len N X
    omega
  have HO3 := Lib.hid hrd3
  clear hrow3 hrd3
  go_wp2_with fail
  refine (contains_any' (S := inAllL (prefL N X)) (Lib.hid rfl) hl3 HO3.out).mono ?_
  rintro e w4 ⟨rfl, rfl⟩
  go_wp2_with fail
  go_ret
  exact ⟨ret_b (by unfold certB; rw [inAllL_eq]; simp), hb30⟩
end Go.Proofs.Ytejncjjkcmhmbaa
