/- Contracts of the laws' own functions markSourceS, heldSourceS. No conditions but the sizes. -/
import Derived.Test.YtdhnhhicjjcmdaaSourceB
import Derived.Test.YtdhnhhicjjcmdaaOne
namespace Go.Proofs.Ytdhnhhicjjcmdaa
open Go.ChangeShapes Go.WideShapes Go.ChangeAt Go.RowKit
set_option maxRecDepth 100000
def mbtSrc (a : Int) : Bool := a % 3 == 0
def mkSrc (q : Int) (n : Nat) : List Src := (List.range n).map fun (i : Nat) => (q + 4 * (i : Int), q + 4 * (i : Int) + 1, q + 4 * (i : Int) + 2, mbtSrc (q + 4 * (i : Int) + 3))
theorem mkSrc_len (q : Int) (n : Nat) : (mkSrc q n).length = n := by simp [mkSrc]
theorem mkSrc_get (q : Int) (n : Nat) {k : Nat} (h : k < (mkSrc q n).length) : (mkSrc q n)[k] = (q + 4 * (k : Int), q + 4 * (k : Int) + 1, q + 4 * (k : Int) + 2, mbtSrc (q + 4 * (k : Int) + 3)) := by simp [mkSrc]
/-- Every field of a row was marked. -/
def MarkedSrc (q : Int) (lo hi : Nat) (t : TypeId) (v : Value) (X : List Src) (w : World) (e : Ending) (w' : World) : Prop := e = .returned (.int .i64 q) ∧ RowG srcE w' lo hi t v X ∧ Out lo hi w w'
set_option maxHeartbeats 4000000 in
theorem markSourceS_any {w : World} {lo hi n : Nat} {v : Value} {q : Int} {X : List Src} (hl : Hid (X.length = n)) (hn : n ≤ 17592186043904) (h0 : 0 ≤ q) (hq : q ≤ 1000000000000000) (h : RowG srcE w lo hi 40 v X) :
    Calls Try.prog 23 #[v, .int .i64 q] w (MarkedSrc (q + 4 * (n : Int)) lo hi 40 v (mkSrc q n) w) := by
  by_cases hz : n = 0
  · subst hz
    have hX : X = [] := List.eq_nil_of_length_eq_zero hl.out
    subst hX
    obtain ⟨A, c, rfl, _, _, _⟩ := h.rd (n := 0) rfl
    have HR := Lib.hid h
    clear h
    go_enter Try.func23, Try.ntmps23
    go_wp2_with fail
    go_loopw [1, 5] (fun m i wr => i = .int .i64 0 ∧ m = .int .i64 q ∧ wr = w) (fun _ _ _ => 0)
    case atStart => exact ⟨rfl, rfl, rfl⟩
    case round =>
      obtain ⟨rfl, rfl, rfl⟩ := hrel
      go_wp2_with fail
      go_ret
      exact ⟨by simp, by simpa [mkSrc] using HR.out, Out.refl⟩
  · obtain ⟨g, cap, rfl, hlo, hhi, _, _, _⟩ := h.base hl.out (by omega)
    have HR := Lib.hid h
    clear h
    go_enter Try.func23, Try.ntmps23
    go_wp2_with fail
    go_loopw [1, 5] (fun m i wr => ∃ (k : Nat) (Z : List Src), k ≤ n ∧ i = .int .i64 k ∧ m = .int .i64 (q + 4 * (k : Int)) ∧ Hid (Z.length = n ∧ Z.take k = (mkSrc q n).take k) ∧ RowG srcE wr lo hi 40 (.slice (some ⟨g, 0, none⟩) n cap) Z ∧ Out lo hi w wr) (fun _ i _ => n - (intOf i).toNat)
    case atStart => exact ⟨0, X, Nat.zero_le _, rfl, by simp, Lib.hid ⟨hl.out, rfl⟩, HR.out, Out.refl⟩
    case round =>
      obtain ⟨k, Z, hk, rfl, rfl, hZ, hrow, hout⟩ := hrel
      clear HR
      by_cases hlt : k < n
      · have hkZ : k < Z.length := by rw [hZ.out.1]; exact hlt
        obtain ⟨ag, pg, eg, hpg, _, c0, c1, c2, c3⟩ := src_cells hrow.rd' hkZ
        injection eg with eg
        subst eg
        have hpe : pg = ⟨g, k * 4, none⟩ := by rw [← hpg]; unfold Addr.add; split <;> simp_all
        subst hpe
        have f0 := hrow.froz (i := k * 4)
        have f1 := hrow.froz (i := k * 4 + 1)
        have f2 := hrow.froz (i := k * 4 + 2)
        have f3 := hrow.froz (i := k * 4 + 3)
        obtain ⟨a, ha⟩ : ∃ a, q + 4 * (k : Int) = a := ⟨_, rfl⟩
        have HA := Lib.hid ha
        have ha0 : 0 ≤ a := by omega
        have ha1 : a ≤ 1000000000000000 + 4 * 17592186043904 := by omega
        rw [ha]
        have row3 := hrow.set_src hkZ (a, a + 1, a + 2, mbtSrc (a + 3))
        have o3 := ((((hout.trans (Out.setCell (lo := lo) (hi := hi) _ hlo hhi (k * 4) (.int .i64 a))).trans (Out.setCell (lo := lo) (hi := hi) _ hlo hhi (k * 4 + 1) (.int .i64 (a + 1)))).trans (Out.setCell (lo := lo) (hi := hi) _ hlo hhi (k * 4 + 2) (.int .i64 (a + 2)))).trans (Out.setCell (lo := lo) (hi := hi) _ hlo hhi (k * 4 + 3) (.bool (mbtSrc (a + 3)))))
        have HR3 := Lib.hid row3
        have HO3 := Lib.hid o3
        have HZ3 : Hid ((Z.set k (a, a + 1, a + 2, mbtSrc (a + 3))).length = n ∧ (Z.set k (a, a + 1, a + 2, mbtSrc (a + 3))).take (k + 1) = (mkSrc q n).take (k + 1)) := Lib.hid ⟨by rw [List.length_set]; exact hZ.out.1, by
          have hkm : k < (mkSrc q n).length := by rw [mkSrc_len]; exact hlt
          rw [List.take_succ_eq_append_getElem (by simpa using hkZ), List.take_succ_eq_append_getElem hkm, List.take_set_of_le (Nat.le_refl _), hZ.out.2, mkSrc_get q n hkm, ha]
          simp⟩
        have e1 : IntKind.i64.wrap (a + 1) = a + 1 := by rw [IntWalk.i64_in _ (by omega)]
        have e2 : IntKind.i64.wrap (a + 1 + 1) = a + 2 := by rw [IntWalk.i64_in _ (by omega)]; omega
        have e3 : IntKind.i64.wrap (a + 2 + 1) = a + 3 := by rw [IntWalk.i64_in _ (by omega)]; omega
        obtain ⟨mb, hmb⟩ : ∃ mb, mbtSrc (a + 3) = mb := ⟨_, rfl⟩
        have hmb2 : (a % 3 == 0) = mb := by rw [← hmb]; simp [mbtSrc]
        rw [hmb] at HR3 HO3 HZ3
        clear row3 o3 hrow hout hpg ha
        go_wp2_with fail
        go_roundw
        case rel => exact ⟨k + 1, Z.set k (a, a + 1, a + 2, mb), by omega, by go_num, by rw [← HA.out]; go_num, HZ3, HR3.out, HO3.out⟩
        case measure => simp [intOf]; omega
      · have e : k = n := by omega
        subst e
        have HRW := Lib.hid hrow
        clear hrow
        go_wp2_with fail
        go_ret
        have hr := HRW.out
        have hz2 := hZ.out.2
        rw [List.take_of_length_le (by rw [hZ.out.1]; exact Nat.le_refl _), List.take_of_length_le (by rw [mkSrc_len]; exact Nat.le_refl _)] at hz2
        subst hz2
        exact ⟨rfl, hr, hout⟩
set_option maxHeartbeats 4000000 in
theorem heldSourceS_any {w : World} {A : Option Addr} {n c : Nat} {q : Int} (hn : n ≤ 17592186043904) (h0 : 0 ≤ q) (hq : q ≤ 1000000000000000) (hr : Rd w w.heap.size A (flE srcE (mkSrc q n))) :
    Calls Try.prog 29 #[.slice A n c, .int .i64 q] w (fun e w' => e = .returned (.int .i64 (q + 4 * (n : Int))) ∧ w = w') := by
  go_enter Try.func29, Try.ntmps29
  go_wp2_with fail
  go_loopw [1, 5] (fun m i wr => ∃ k : Nat, k ≤ n ∧ i = .int .i64 k ∧ m = .int .i64 (q + 4 * (k : Int)) ∧ wr = w) (fun _ i _ => n - (intOf i).toNat)
  case atStart => exact ⟨0, Nat.zero_le _, rfl, by simp, rfl⟩
  case round =>
    obtain ⟨k, hk, rfl, rfl, rfl⟩ := hrel
    by_cases hlt : k < n
    · have hkm : k < (mkSrc q n).length := by rw [mkSrc_len]; exact hlt
      obtain ⟨ad, p, rfl, hp, hab, c0, c1, c2, c3⟩ := src_cells hr hkm
      rw [mkSrc_get q n hkm] at c0 c1 c2 c3
      obtain ⟨a, ha⟩ : ∃ a, q + 4 * (k : Int) = a := ⟨_, rfl⟩
      have HA := Lib.hid ha
      have ha0 : 0 ≤ a := by omega
      have ha1 : a ≤ 1000000000000000 + 4 * 17592186043904 := by omega
      rw [ha] at c0 c1 c2 c3 ⊢
      have i0 : (0 : Int) ≤ (k : Int) := by omega
      have i1 : (k : Int) < (n : Int) := by omega
      have e1 : IntKind.i64.wrap (a + 1) = a + 1 := by rw [IntWalk.i64_in _ (by omega)]
      have e2 : IntKind.i64.wrap (a + 1 + 1) = a + 2 := by rw [IntWalk.i64_in _ (by omega)]; omega
      have e3 : IntKind.i64.wrap (a + 2 + 1) = a + 3 := by rw [IntWalk.i64_in _ (by omega)]; omega
      obtain ⟨mb, hmb⟩ : ∃ mb, mbtSrc (a + 3) = mb := ⟨_, rfl⟩
      have hmb2 : (a % 3 == 0) = mb := by rw [← hmb]; simp [mbtSrc]
      simp only [hmb] at c3
      clear ha
      go_wp2_with fail
      go_roundw
      case rel => exact ⟨k + 1, by omega, by go_num, by rw [← HA.out]; go_num, trivial⟩
      case measure => simp [intOf]; omega
    · have e : k = n := by omega
      subst e
      go_wp2_with fail
      go_ret
      exact ⟨rfl, rfl⟩
end Go.Proofs.Ytdhnhhicjjcmdaa
