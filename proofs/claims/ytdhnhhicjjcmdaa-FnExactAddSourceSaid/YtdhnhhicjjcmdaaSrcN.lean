/- Contracts of the models RootOf, BalanceOf, RepeatsOf, IsTwisted (chapter 26). Condition: the slice has at most 2^40 elements. -/
import Derived.Test.YtdhnhhicjjcmdaaSrcM
import Derived.Test.YtdhnhhicjjcmdaaSrcC
import Derived.Test.YtdhnhhicjjcmdaaInts
namespace Go.Proofs.Ytdhnhhicjjcmdaa
open Go.ChangeShapes Go.WideShapes Go.ChangeAt Go.RowKit
set_option maxRecDepth 100000
theorem fnd_take {X : List Src} {k : Nat} {id : Int} {j : Nat} (h : fndS (X.take k) id = some j) : fndS X id = some j := by
  obtain ⟨hj, he⟩ := fnd_lt h
  unfold fndS at *
  rw [List.findIdx?_eq_some_iff_getElem] at h ⊢
  obtain ⟨h1, h2, h3⟩ := h
  rw [List.length_take] at h1
  exact ⟨by omega, by simpa using h2, fun i hi => by simpa using h3 i hi⟩
theorem fnd_self {X : List Src} (h : srcB X = true) {k : Nat} (hk : k < X.length) : fndS X X[k].1 = some k := by
  refine fnd_some hk (fun x hx => ?_) rfl
  obtain ⟨i, hi, rfl⟩ := List.getElem_of_mem hx
  rw [List.length_take] at hi
  have := asc_lt (src_parts h).2.1 i k (by simpa using hk) (by omega)
  simp at this
  simp
  omega
theorem rpt_eq {X : List Src} (h : srcB X = true) {k : Nat} (hk : k < X.length) (id : Int) : rptK X id k = (X[k].1 != id && rooI X X[k].1 == id) := by
  rw [roo_some h (fnd_self h hk)]
  unfold rptK
  cases hp : parS X k with
  | none =>
    rw [root_none hp, getS hk]
    by_cases e : X[k].1 = id <;> simp [e]
  | some j =>
    have h1 := par_lt hp
    have h2 : rootS X k ≤ j := by rw [root_some hp]; exact root_le X j
    have h3 : rootS X k < X.length := by omega
    rw [getS h3]
    have := asc_lt (src_parts h).2.1 (rootS X k) k (by simpa using hk) (by omega)
    simp at this
    by_cases e : X[rootS X k].1 = id
    · have : (X[k].1 != id) = true := by simp; omega
      rw [this]; simp
    · have : (X[rootS X k].1 == id) = false := by simpa using e
      rw [this]; simp
theorem alloc_n (w : World) (o : Obj) : Below w.heap.size w (w.alloc o) := (Below.refl _ _).alloc (Nat.le_refl _) _
section
variable {w : World} {A : Option Addr} {n c : Nat} {X : List Src}
set_option maxHeartbeats 2000000 in
theorem specRootOf_any {id : Int} (hl : Hid (X.length = n)) (hn : n ≤ 1099511627776) (hnc : n ≤ c) (hr : Rd w w.heap.size A (flE srcE X)) :
    Calls Try.prog 16 #[.slice A n c, .int .i64 id] w (fun e w' => e = .returned (.int .i64 (rooI X id)) ∧ Below w.heap.size w w') := by
  cases hk : fndS X id with
  | none =>
    have HV := Lib.hid (roo_none hk)
    have HF := Lib.hid (show fndR (fndS X id) = -1 by rw [hk]; rfl)
    clear hk
    go_enter Try.func16, Try.ntmps16
    go_wp2_with fail
    refine (l26Find_any hl hn hr).mono ?_
    rintro e u ⟨rfl, rfl⟩
    rw [HF.out]
    go_wp2_with fail
    go_ret
    exact ⟨ret_i HV.out.symm, Below.refl _ _⟩
  | some k =>
    have hkx := (fnd_lt hk).1
    have HF := Lib.hid (show fndR (fndS X id) = (k : Int) by rw [hk]; rfl)
    have j0 : ¬ (k : Int) < 0 := by omega
    cases hB : srcB X with
    | false =>
      have HB := Lib.hid hB
      have HV := Lib.hid (roo_no (id := id) hB)
      clear hB hk
      go_enter Try.func16, Try.ntmps16
      go_wp2_with fail
      refine (l26Find_any hl hn hr).mono ?_
      rintro e u ⟨rfl, rfl⟩
      rw [HF.out]
      go_wp2_with fail
      refine (specAreSources_any hl hn hnc hr).mono ?_
      rintro e w1 ⟨rfl, b1⟩
      rw [HB.out]
      go_wp2_with fail
      go_ret
      exact ⟨ret_i HV.out.symm, b1⟩
    | true =>
      have HB := Lib.hid hB
      have HV := Lib.hid (roo_some hB hk)
      clear hB hk
      go_enter Try.func16, Try.ntmps16
      go_wp2_with fail
      refine (l26Find_any hl hn hr).mono ?_
      rintro e u ⟨rfl, rfl⟩
      rw [HF.out]
      go_wp2_with fail
      refine (specAreSources_any hl hn hnc hr).mono ?_
      rintro e w1 ⟨rfl, b1⟩
      rw [HB.out]
      go_wp2_with fail
      go_loopw [5] (fun i wr => ∃ j : Nat, i = .int .i64 j ∧ Hid (j < X.length ∧ rootS X j = rootS X k) ∧ Below w.heap.size w wr) (fun i _ => (intOf i).toNat)
      case atStart => exact ⟨k, rfl, Lib.hid ⟨hkx, rfl⟩, b1⟩
      case round =>
        obtain ⟨j, rfl, hj, hb⟩ := hrel
        clear b1 j0 hkx
        obtain ⟨ad, p, rfl, hp, hab, h0, h1, h2, h3⟩ := src_cells ((hr.below hb).more hb.size) hj.out.1
        have i0 : (0 : Int) ≤ (j : Int) := by omega
        have i1 : (j : Int) < (n : Int) := by have := hj.out.1; have := hl.out; omega
        have HZ := Lib.hid (par_zero HB.out hj.out.1)
        have HD := Lib.hid (getS hj.out.1)
        have HPJ := Lib.hid (show fndS (X.take j) (X[j]'hj.out.1).2.1 = parS X j by unfold parS; rw [getS hj.out.1])
        obtain ⟨x, hx⟩ : ∃ x, x = X[j]'hj.out.1 := ⟨_, rfl⟩
        rw [← hx] at h0 h1 h2 h3 HZ HD HPJ
        clear hx
        by_cases hz : x.2.1 = 0
        · have HV2 := Lib.hid (show rooI X id = x.1 by rw [HV.out, ← hj.out.2, root_none (HZ.out.2 hz), HD.out])
          have e0 : (x.2.1 != 0) = false := by simpa using hz
          clear hz
          go_wp2_with fail
          go_ret
          exact ⟨ret_i HV2.out.symm, hb⟩
        · have e0 : (x.2.1 != 0) = true := by simpa using hz
          cases hp9 : parS X j with
          | none => exact absurd (HZ.out.1 hp9) hz
          | some i =>
            have hij := par_lt hp9
            have HFI := Lib.hid (show fndR (fndS X x.2.1) = (i : Int) by rw [fnd_take (HPJ.out.trans hp9)]; rfl)
            have HI := Lib.hid (show i < X.length ∧ rootS X i = rootS X k from ⟨Nat.lt_trans hij hj.out.1, (root_some hp9).symm.trans hj.out.2⟩)
            clear hz hp9
            go_wp2_with fail
            refine (l26Find_any hl hn (hr.below hb)).mono ?_
            rintro e u ⟨rfl, rfl⟩
            rw [HFI.out]
            go_wp2_with fail
            go_roundw
            case rel => exact ⟨i, rfl, HI, hb⟩
            case measure => simp [intOf]; omega
set_option maxHeartbeats 2000000 in
theorem specBalanceOf_any (hl : Hid (X.length = n)) (hn : n ≤ 1099511627776) (hnc : n ≤ c) (hr : Rd w w.heap.size A (flE srcE X)) :
    Calls Try.prog 18 #[.slice A n c] w (fun e w' => e = .returned (.int .i64 (balI X)) ∧ Below w.heap.size w w') := by
  cases hB : srcB X with
  | false =>
    have HB := Lib.hid hB
    have HV := Lib.hid (bal_no hB)
    clear hB
    go_enter Try.func18, Try.ntmps18
    go_wp2_with fail
    go_loopw [3, 4] (fun v i wr => v = .int .i64 0 ∧ i = .int .i64 0 ∧ wr = w) (fun _ _ _ => 0)
    case atStart => exact ⟨rfl, rfl, rfl⟩
    case round =>
      obtain ⟨rfl, rfl, rfl⟩ := hrel
      by_cases hlt : 0 < n
      · have i1 : (0 : Int) < (n : Int) := by omega
        go_wp2_with fail
        refine (specAreSources_any hl hn hnc hr).mono ?_
        rintro e w1 ⟨rfl, b1⟩
        rw [HB.out]
        go_wp2_with fail
        go_ret
        exact ⟨ret_i HV.out.symm, b1⟩
      · have e : n = 0 := by omega
        subst e
        go_wp2_with fail
        go_ret
        exact ⟨ret_i HV.out.symm, Below.refl _ _⟩
  | true =>
    have HB := Lib.hid hB
    have HV := Lib.hid (bal_ok hB)
    have h15 : n ≤ 15 := by have := (src_parts hB).1; have := hl.out; omega
    have HIN := Lib.hid (bal_in hB)
    have HW := Lib.hid (fun k hk => src_w hB (k := k) hk)
    clear hB
    go_enter Try.func18, Try.ntmps18
    go_wp2_with fail
    go_loopw [3, 4] (fun v i wr => ∃ k : Nat, k ≤ n ∧ v = .int .i64 (balP X k) ∧ i = .int .i64 k ∧ Below w.heap.size w wr) (fun _ i _ => n - (intOf i).toNat)
    case atStart => exact ⟨0, Nat.zero_le _, rfl, rfl, Below.refl _ _⟩
    case round =>
      obtain ⟨k, hk, rfl, rfl, hb⟩ := hrel
      have HBI := HIN.out k (by rw [hl.out]; exact hk)
      by_cases hlt : k < n
      · have hkz : k < X.length := by rw [hl.out]; exact hlt
        have i0 : (0 : Int) ≤ (k : Int) := by omega
        have i1 : (k : Int) < (n : Int) := by omega
        have HX := Lib.hid (HW.out k hkz)
        have HS := Lib.hid (show balP X (k + 1) = balP X k + (if X[k].2.1 = 0 then (if X[k].2.2.2 then X[k].2.2.1 else -X[k].2.2.1) else 0) by rw [balP, balK, getS hkz])
        obtain ⟨x, hx⟩ : ∃ x, x = X[k] := ⟨_, rfl⟩
        have HXE := Lib.hid hx
        rw [← hx] at HX HS
        obtain ⟨s, hs⟩ : ∃ s, s = balP X k := ⟨_, rfl⟩
        rw [← hs] at HBI HS
        rw [← hs]
        have HX' := HX.out
        clear hx hs
        go_wp2_with fail
        refine (specAreSources_any hl hn hnc ((hr.below hb).more hb.size)).mono ?_
        rintro e w1 ⟨rfl, b1⟩
        rw [HB.out]
        have hb1 := hb.trans (b1.mono hb.size)
        obtain ⟨ad, p, rfl, hp, hab, h0, h1, h2, h3⟩ := src_cells ((hr.below hb1).more hb1.size) hkz
        rw [← HXE.out] at h0 h1 h2 h3
        by_cases hz : x.2.1 = 0
        · have e0 : (x.2.1 != 0) = false := by simpa using hz
          rw [if_pos hz] at HS
          clear hz
          cases hf : x.2.2.2 with
          | true =>
            have HN := Lib.hid (show balP X (k + 1) = s + x.2.2.1 by rw [HS.out, hf]; rfl)
            rw [hf] at h3
            have ws := IntWalk.i64_in (s + x.2.2.1) (by omega)
            clear hf
            go_wp2_with fail
            go_roundw
            case rel => exact ⟨k + 1, by omega, by rw [HN.out], by go_num, hb1⟩
            case measure => simp [intOf]; omega
          | false =>
            have HN := Lib.hid (show balP X (k + 1) = s - x.2.2.1 by rw [HS.out, hf]; rfl)
            rw [hf] at h3
            have ws := IntWalk.i64_in (s - x.2.2.1) (by omega)
            clear hf
            go_wp2_with fail
            go_roundw
            case rel => exact ⟨k + 1, by omega, by rw [HN.out], by go_num, hb1⟩
            case measure => simp [intOf]; omega
        · have e0 : (x.2.1 != 0) = true := by simpa using hz
          have HN := Lib.hid (show balP X (k + 1) = s by rw [HS.out, if_neg hz]; exact Int.add_zero _)
          clear hz
          go_wp2_with fail
          go_roundw
          case rel => exact ⟨k + 1, by omega, by rw [HN.out], by go_num, hb1⟩
          case measure => simp [intOf]; omega
      · have e : k = n := by omega
        subst e
        have HV2 := Lib.hid (show balI X = balP X k by rw [HV.out, hl.out])
        go_wp2_with fail
        go_ret
        exact ⟨ret_i HV2.out.symm, hb⟩
end
end Go.Proofs.Ytdhnhhicjjcmdaa
