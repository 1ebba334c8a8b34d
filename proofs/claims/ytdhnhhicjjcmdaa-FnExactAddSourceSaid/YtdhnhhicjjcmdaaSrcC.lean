/- Contracts of the code of chapter 26: AreSources, RootOf, BalanceOf, RepeatsOf, IsTwisted. Condition: the slice has at most 2^40 elements. -/
import Derived.Test.YtdhnhhicjjcmdaaForC
import Derived.Test.YtdhnhhicjjcmdaaFrjI
import Derived.BigQuiet
import Derived.Deep.Quiet
namespace Go.Proofs.Ytdhnhhicjjcmdaa
open Go.ChangeShapes Go.WideShapes Go.ChangeAt Go.RowKit
set_option maxRecDepth 100000
def rooI (X : List Src) (id : Int) : Int := if srcB X then (match fndS X id with | some k => (X.getD (rootS X k) (0, 0, 0, false)).1 | none => 0) else 0
theorem roo_no {X : List Src} {id : Int} (h : srcB X = false) : rooI X id = 0 := by unfold rooI; rw [h]; rfl
theorem roo_none {X : List Src} {id : Int} (h : fndS X id = none) : rooI X id = 0 := by unfold rooI; rw [h]; split <;> rfl
theorem roo_some {X : List Src} {id : Int} {k : Nat} (h : srcB X = true) (hk : fndS X id = some k) : rooI X id = (X.getD (rootS X k) (0, 0, 0, false)).1 := by unfold rooI; rw [h, hk]; rfl
def balK (X : List Src) (k : Nat) : Int := if (X.getD k (0, 0, 0, false)).2.1 = 0 then (if (X.getD k (0, 0, 0, false)).2.2.2 then (X.getD k (0, 0, 0, false)).2.2.1 else -(X.getD k (0, 0, 0, false)).2.2.1) else 0
def balP (X : List Src) : Nat → Int
  | 0 => 0
  | k + 1 => balP X k + balK X k
def balI (X : List Src) : Int := if srcB X then balP X X.length else 0
theorem bal_no {X : List Src} (h : srcB X = false) : balI X = 0 := by unfold balI; rw [h]; rfl
theorem bal_ok {X : List Src} (h : srcB X = true) : balI X = balP X X.length := if_pos h
theorem src_w {X : List Src} (h : srcB X = true) {k : Nat} (hk : k < X.length) : 1 ≤ X[k].2.2.1 ∧ X[k].2.2.1 ≤ 10 := by
  have := (src_parts h).2.2 k hk
  unfold srcAt at this
  rw [getS hk, Bool.and_eq_true] at this
  have := this.1
  unfold inr at this
  simpa using this
theorem bal_in {X : List Src} (h : srcB X = true) : ∀ k, k ≤ X.length → -10 * (k : Int) ≤ balP X k ∧ balP X k ≤ 10 * (k : Int)
  | 0, _ => by simp [balP]
  | k + 1, hk => by
    have h1 := bal_in h k (by omega)
    have h2 := src_w h (k := k) (by omega)
    unfold balP balK
    rw [getS (by omega)]
    split
    · split <;> omega
    · omega
def rptK (X : List Src) (id : Int) (k : Nat) : Bool := (parS X k).isSome && ((X.getD (rootS X k) (0, 0, 0, false)).1 == id)
def rptP (X : List Src) (id : Int) : Nat → List Int
  | 0 => []
  | k + 1 => if rptK X id k then rptP X id k ++ [(X.getD k (0, 0, 0, false)).1] else rptP X id k
def rptL (X : List Src) (id : Int) : List Int := if srcB X then rptP X id X.length else []
theorem rpt_len (X : List Src) (id : Int) : ∀ k, (rptP X id k).length ≤ k
  | 0 => by simp [rptP]
  | k + 1 => by
    have := rpt_len X id k
    unfold rptP
    split
    · rw [List.length_append, List.length_singleton]; omega
    · omega
def twiB (X : List Src) (id : Int) : Bool := if srcB X then (match fndS X id with | some k => (X.getD k (0, 0, 0, false)).2.2.2 != (X.getD (rootS X k) (0, 0, 0, false)).2.2.2 | none => false) else false
theorem twi_no {X : List Src} {id : Int} (h : srcB X = false) : twiB X id = false := by unfold twiB; rw [h]; rfl
theorem twi_none {X : List Src} {id : Int} (h : fndS X id = none) : twiB X id = false := by unfold twiB; rw [h]; split <;> rfl
theorem twi_some {X : List Src} {id : Int} {k : Nat} (h : srcB X = true) (hk : fndS X id = some k) : twiB X id = ((X.getD k (0, 0, 0, false)).2.2.2 != (X.getD (rootS X k) (0, 0, 0, false)).2.2.2) := by unfold twiB; rw [h, hk]; rfl
section
variable {w : World} {A : Option Addr} {n c : Nat} {X : List Src}
set_option maxHeartbeats 1000000 in
theorem impAreSources_any (hl : Hid (X.length = n)) (hn : n ≤ 1099511627776) (hr : Rd w w.heap.size A (flE srcE X)) :
    Calls Try.prog 14 #[.slice A n c] w (Tells (srcB X) w) := by
  go_enter Try.func14, Try.ntmps14
  go_wp2_with fail
  refine (forestOf_any hl hn hr).mono ?_
  rintro e w1 ⟨hb, ⟨hB, rfl⟩ | ⟨hB, v, bs, rfl, _, _, _, _⟩⟩
  · have HB := Lib.hid hB
    clear hB
    go_wp2_with fail
    go_ret
    exact ⟨ret_b HB.out.symm, hb⟩
  · have HB := Lib.hid hB
    clear hB
    go_wp2_with fail
    go_ret
    exact ⟨ret_b HB.out.symm, hb⟩
set_option maxHeartbeats 1000000 in
theorem impRootOf_any {id : Int} (hl : Hid (X.length = n)) (hn : n ≤ 1099511627776) (hr : Rd w w.heap.size A (flE srcE X)) :
    Calls Try.prog 17 #[.slice A n c, .int .i64 id] w (fun e w' => e = .returned (.int .i64 (rooI X id)) ∧ Below w.heap.size w w') := by
  go_enter Try.func17, Try.ntmps17
  go_wp2_with fail
  refine (forestOf_any hl hn hr).mono ?_
  rintro e w1 ⟨hb, ⟨hB, rfl⟩ | ⟨hB, v, bs, rfl, hbl, hrow, hf, hinc⟩⟩
  · have HV := Lib.hid (roo_no (id := id) hB)
    clear hB
    go_wp2_with fail
    refine (find_any (n := 0) (bs := []) (X := X) (lo := 0) (Lib.hid rfl) (by omega) (by omega) Rd.nil FR.nil).mono ?_
    rintro e u ⟨rfl, rfl⟩
    rw [show ptrV ((fndS (X.take 0) id).bind fun j => ([] : List Nat)[j]?) = .pointer none by cases fndS (X.take 0) id <;> simp [ptrV]]
    go_wp2_with fail
    go_ret
    exact ⟨ret_i HV.out.symm, hb⟩
  · have HBL := Lib.hid (show bs.length = n from hbl.trans hl.out)
    obtain ⟨Av, cv, rfl, hrd, _, _⟩ := hrow.rd (n := n) (by rw [pts_len]; exact HBL.out)
    have HRD := Lib.hid hrd
    have HF := Lib.hid hf
    have HI := Lib.hid hinc
    have HBT := Lib.hid hB
    have hbX : bs.length ≤ X.length := by omega
    have HT := Lib.hid (show X.take n = X from List.take_of_length_le (by rw [hl.out]; exact Nat.le_refl _))
    clear hB hrow hrd hf hinc
    cases hk : fndS X id with
    | none =>
      have HV := Lib.hid (roo_none hk)
      have HK := Lib.hid hk
      clear hk
      go_wp2_with fail
      refine (find_any (X := X) HBL hn (by rw [hl.out]; exact Nat.le_refl _) HRD.out HF.out).mono ?_
      rintro e u ⟨rfl, rfl⟩
      rw [HT.out, HK.out, show ptrV ((none : Option Nat).bind fun j => bs[j]?) = .pointer none from rfl]
      go_wp2_with fail
      go_ret
      exact ⟨ret_i HV.out.symm, hb⟩
    | some k =>
      obtain ⟨hkx, _⟩ := fnd_lt hk
      have hkb : k < bs.length := by omega
      have HV := Lib.hid (roo_some HBT.out hk)
      have HK := Lib.hid hk
      obtain ⟨b, hbb⟩ : ∃ b, bs[k]? = some b := ⟨_, List.getElem?_eq_getElem hkb⟩
      have HBB := Lib.hid hbb
      clear hk hbb
      go_wp2_with fail
      refine (find_any (X := X) HBL hn (by rw [hl.out]; exact Nat.le_refl _) HRD.out HF.out).mono ?_
      rintro e u ⟨rfl, rfl⟩
      rw [HT.out, HK.out, show ptrV ((some k).bind fun j => bs[j]?) = .pointer (some ⟨b, 0, none⟩) by simp [ptrV, HBB.out]]
      go_wp2_with fail
      refine (root_any hbX HBB HF.out HI.out).mono ?_
      rintro e u ⟨b', rfl, hb', rfl⟩
      have hrx : rootS X k < X.length := Nat.lt_of_le_of_lt (root_le X k) hkx
      obtain ⟨_, _, bx⟩ := HF.out (rootS X k) b' X[rootS X k] hb' (List.getElem?_eq_getElem hrx)
      obtain ⟨b0, _, _, _, _⟩ := bx.k5
      have HV2 := Lib.hid (show rooI X id = X[rootS X k].1 from HV.out.trans (by rw [getS hrx]))
      obtain ⟨y, hy⟩ : ∃ y, y = X[rootS X k].1 := ⟨_, rfl⟩
      rw [← hy] at b0 HV2
      clear bx hy
      go_wp2_with fail
      go_ret
      exact ⟨ret_i HV2.out.symm, hb⟩
end
end Go.Proofs.Ytdhnhhicjjcmdaa
