/- Contracts of slices.IndexFunc and slices.DeleteFunc over a list of lists that the call owns, for the code's Quarrels. Condition: the slices have at most 2^40 elements. -/
import Derived.Test.YtignchefkihdaaaDelC
import Derived.Test.YtignchefkihdaaaCopyL
import Derived.Test.YtignchefkihdaaaFndC
namespace Go.Proofs.Ytignchefkihdaaa
open Go.ChangeShapes Go.WideShapes Go.ChangeAt Go.RowKit
set_option maxRecDepth 100000
/-- The formulas that quarrel with f are those that cannot hold with it. -/
def okQ (f x : List Int) : Bool := canR [x, f]
section
variable {w : World} {A A' : Option Addr} {n c n' c' : Nat} {X : List (List Int)} {f : List Int}
theorem quaF_any {g : Nat} {x : List Int} (hg : w.cell? ⟨g, 0, none⟩ = some (.slice A' f.length c')) (hc : x.length ≤ c) (hcm : c ≤ maxLen) (hr : Rd w w.heap.size A (ivs x)) (hc' : f.length ≤ c') (hcm' : c' ≤ maxLen) (hr' : Rd w w.heap.size A' (ivs f)) :
    Calls Try.prog 86 #[.slice A x.length c, .pointer (some ⟨g, 0, none⟩)] w (Tells (okQ f x) w) := by
  have hb := alloc_new w (Obj.cells #[.slice A x.length c, .slice A' f.length c'] 25)
  have hr2 := rdSS_two hr hr' hc hc' hcm hcm'
  obtain ⟨W1, hW⟩ : ∃ v : World, v = w.alloc (Obj.cells #[.slice A x.length c, .slice A' f.length c'] 25) := ⟨_, rfl⟩
  have hsz : W1.heap.size = w.heap.size + 1 := by rw [hW]; simp
  rw [← hW] at hb hr2
  rw [← hsz] at hr2
  have HW := Lib.hid hW.symm
  have HR2 := Lib.hid hr2
  clear hW hr2 hsz hr hr'
  go_enter Try.func86, Try.ntmps86
  go_wp2_with fail
  rw [HW.out]
  refine (impCanHold_any (X := [x, f]) (n := 2) (Lib.hid rfl) (by omega) HR2.out).mono ?_
  rintro e w1 ⟨rfl, r⟩
  go_wp2_with fail
  go_ret
  exact ⟨rfl, hb.trans (r.mono hb.size)⟩
def fstP (p : List Int → Bool) (X : List (List Int)) : Int := if X.findIdx p < X.length then (X.findIdx p : Int) else -1
theorem fstP_at {p : List Int → Bool} {k : Nat} (hk : k < X.length) (h : p X[k] = true) (hno : ∀ j (_ : j < k) (hx : j < X.length), p X[j] = false) : fstP p X = (k : Int) := by
  have e : X.findIdx p = k := (List.findIdx_eq hk).2 ⟨h, fun j hj => hno j hj (by omega)⟩
  unfold fstP
  rw [e, if_pos hk]
theorem fstP_no {p : List Int → Bool} (hno : ∀ j (hx : j < X.length), p X[j] = false) : fstP p X = -1 := by
  unfold fstP
  rw [if_neg]
  intro h
  have := List.findIdx_getElem (w := h)
  rw [hno _ h] at this
  cases this
theorem fstP_cases (p : List Int → Bool) (X : List (List Int)) : (fstP p X = -1 ∧ ∀ x ∈ X, p x = false) ∨ ∃ k, ∃ h : k < X.length, fstP p X = (k : Int) ∧ p X[k] = true ∧ ∀ j (hj : j < k), p X[j] = false := by
  by_cases h : X.findIdx p < X.length
  · right
    exact ⟨X.findIdx p, h, by unfold fstP; rw [if_pos h], List.findIdx_getElem, fun j hj => List.not_of_lt_findIdx hj⟩
  · left
    refine ⟨by unfold fstP; rw [if_neg h], fun x hx => ?_⟩
    cases hp : p x with
    | false => rfl
    | true => exact absurd (List.findIdx_lt_length.2 ⟨x, hx, hp⟩) h
theorem indexQ_any {g : Nat} (hg : w.cell? ⟨g, 0, none⟩ = some (.slice A' f.length c')) (hl : Hid (X.length = n)) (hn : n ≤ 1099511627776) (hr : RdSS w w.heap.size A X) (hc' : f.length ≤ c') (hcm' : c' ≤ maxLen) (hr' : Rd w w.heap.size A' (ivs f)) :
    Calls Try.prog 133 #[.slice A n c, .func (.func 86) #[] #[.pointer (some ⟨g, 0, none⟩)]] w (fun e w' => e = .returned (.int .i64 (fstP (okQ f) X)) ∧ Below w.heap.size w w') := by
  have HR := Lib.hid hr
  have HR' := Lib.hid hr'
  have HG := Lib.hid hg
  clear hr hr' hg
  go_enter Try.func133, Try.ntmps133
  go_wp2_with fail
  go_loopw [8] (fun i wr => ∃ k : Nat, k ≤ n ∧ i = .int .i64 k ∧ Below w.heap.size w wr ∧ Hid (∀ j (_ : j < k) (hx : j < X.length), okQ f X[j] = false)) (fun i _ => n - (intOf i).toNat)
  case atStart => exact ⟨0, Nat.zero_le _, rfl, Below.refl _ _, Lib.hid (fun j hj => absurd hj (Nat.not_lt_zero _))⟩
  case round =>
    obtain ⟨k, hk, rfl, hbw, hno⟩ := hrel
    have hsz := hbw.size
    by_cases hlt : k < n
    · have hkz : k < X.length := by rw [hl.out]; exact hlt
      obtain ⟨ad, Aj, cj, rfl, hab, hc, hcj, hcm, hrd⟩ := ((HR.out.below hbw).more hsz).at_ hkz
      have HYS := Lib.hid (fun (h : okQ f X[k] = true) => fstP_at hkz h hno.out)
      have HNX := Lib.hid (show okQ f X[k] = false → ∀ j (_ : j < k + 1) (hx : j < X.length), okQ f X[j] = false from fun h j hj hx => by
        by_cases e : j = k
        · subst e; exact h
        · exact hno.out j (by omega) hx)
      obtain ⟨x, hx⟩ : ∃ x, x = X[k] := ⟨_, rfl⟩
      rw [← hx] at hc hcj hrd HNX HYS
      have i0 : (0 : Int) ≤ (k : Int) := by omega
      obtain ⟨b, hb⟩ : ∃ b, b = okQ f x := ⟨_, rfl⟩
      have HB := Lib.hid hb.symm
      rw [← hb] at HNX HYS
      have HG2 := Lib.hid ((hbw.cell (p := ⟨g, 0, none⟩) (cell_lt HG.out)).trans HG.out)
      clear hx hno hb
      go_wp2_with fail
      refine (quaF_any (x := x) (f := f) HG2.out hcj hcm hrd hc' hcm' ((HR'.out.below hbw).more hsz)).mono ?_
      rintro e w1 ⟨he, r⟩
      rw [HB.out] at he
      subst he
      have q := hbw.trans (r.mono hsz)
      cases b with
      | true =>
        go_wp2_with fail
        go_ret
        exact ⟨ret_i (HYS.out (by trivial)).symm, q⟩
      | false =>
        go_wp2_with fail
        go_roundw
        case rel => exact ⟨k + 1, by omega, by go_num, q, Lib.hid (HNX.out (by trivial))⟩
        case measure => simp [intOf]; omega
    · have e : k = n := by omega
      subst e
      have HV := Lib.hid (show fstP (okQ f) X = -1 from fstP_no fun j hj => hno.out j (by rw [← hl.out]; exact hj) hj)
      go_wp2_with fail
      go_ret
      exact ⟨ret_i HV.out.symm, hbw⟩
end
end Go.Proofs.Ytignchefkihdaaa
