/- Contract of the laws' own function toPairS. No conditions but that the slice has at most 2^40 elements. -/
import Derived.Test.YthkigilegnjglaaPairA
import Derived.Test.YthkigilegnjglaaSet2
namespace Go.Proofs.Ythkigilegnjglaa
open Go.ChangeShapes Go.WideShapes Go.ChangeAt Go.RowKit
set_option maxRecDepth 100000
theorem PairS_info : (Try.prog.info? 38).map (fun i => (i.zero, i.size, i.bytes)) = some (some (.agg #[.int .i64 0, .int .i64 0]), 2, 16) := by kernel_rfl
set_option maxHeartbeats 4000000 in
theorem toPairS_any {w : World} {A : Option Addr} {n c : Nat} {X : List T2} (hl : Hid (X.length = n)) (hn : n ≤ 1099511627776) (hr : Rd w w.heap.size A (t2s X)) :
    Calls Try.prog 48 #[.slice A n c] w (fun e w' => ∃ v, e = .returned v ∧ Row2 w' w.heap.size w'.heap.size 38 v X ∧ Below w.heap.size w w') := by
  obtain ⟨i0, hi, hz0, hz1, hz2⟩ := info_parts PairS_info
  go_enter Try.func48, Try.ntmps48
  go_wp2_with (first | (at_make; refine wpList_make_full _ rfl _ _ 49 rfl w.heap.size 38 i0 _ 2 Try.underlying49 hi hz0 hz1 _ _ _ _ n rfl rfl rfl rfl (by rw [hz2]; omega) (by unfold maxLen; omega) (Nat.le_refl _) ?_; intro w1 hown1 hg1))
  have hb1 : Below w.heap.size w w1 := (Below.refl _ _).grown hg1 (Nat.le_refl _) (by simp)
  rw [t2s_zero] at hown1
  have row1 := Row2.of_own hown1
  have hz1 := hb1.size
  have hsz := hown1.lt w.heap.size rfl
  clear hown1 hg1
  go_loopw [4] (fun i wr => ∃ (k : Nat) (Z : List T2), k ≤ n ∧ i = .int .i64 k ∧ Below w.heap.size w wr ∧ Hid (Z.take k = X.take k ∧ Z.length = n) ∧ Row2 wr w.heap.size (w.heap.size + 1) 38 (.slice (some ⟨w.heap.size, 0, none⟩) n n) Z ∧ w.heap.size + 1 ≤ wr.heap.size) (fun i _ => n - (intOf i).toNat)
  case atStart => exact ⟨0, List.replicate n (0, 0), Nat.zero_le _, rfl, hb1, Lib.hid ⟨rfl, by simp⟩, ⟨row1.1, fun g hg => by simp [Value.ownBlock] at hg; omega⟩, hsz.2⟩
  case round =>
    obtain ⟨k, Z, hk, rfl, hb, hZ, hrow, hsw⟩ := hrel
    clear row1 hb1
    by_cases hlt : k < n
    · have hkz : k < X.length := by rw [hl.out]; exact hlt
      obtain ⟨ad, p, rfl, hp, hab, h0, h1⟩ := t2_cells ((hr.below hb).more hb.size) hkz
      obtain ⟨x, hx⟩ : ∃ x, x = X[k] := ⟨_, rfl⟩
      rw [← hx] at h0 h1
      have HX := Lib.hid hx
      have i0 : (0 : Int) ≤ (k : Int) := by omega
      have i1 : (k : Int) < (n : Int) := by omega
      have HROW := Lib.hid hrow
      clear hx hrow
      go_wp2_with fail
      refine (toPair_any).mono ?_
      rintro e u1 ⟨rfl, r⟩
      have row2 := HROW.out.new r
      have hkZ : k < Z.length := by rw [hZ.out.2]; exact hlt
      obtain ⟨ag, pg, eg, hpg, _, c0, c1⟩ := t2_cells row2.rd' hkZ
      injection eg with eg
      subst eg
      have hpe : pg = ⟨w.heap.size, k * 2, none⟩ := by rw [← hpg]; unfold Addr.add; split <;> simp_all
      subst hpe
      have f0 := row2.froz (i := k * 2)
      have f1 := row2.froz (i := k * 2 + 1)
      have row3 := row2.set2 hkZ x
      have hb2 := hb.trans (r.mono hb.size)
      have hb3 := (hb2.setCell (p := ⟨w.heap.size, k * 2, none⟩) (Nat.le_refl _) (.int .i64 x.1)).setCell (p := ⟨w.heap.size, k * 2 + 1, none⟩) (Nat.le_refl _) (.int .i64 x.2)
      have hs3 : w.heap.size + 1 ≤ ((u1.setCell ⟨w.heap.size, k * 2, none⟩ (.int .i64 x.1)).setCell ⟨w.heap.size, k * 2 + 1, none⟩ (.int .i64 x.2)).heap.size := by have := r.size; simp; omega
      have HR3 := Lib.hid row3
      have HB3 := Lib.hid (And.intro hb3 hs3)
      have HZ3 : Hid ((Z.set k x).take (k + 1) = X.take (k + 1) ∧ (Z.set k x).length = n) := Lib.hid ⟨by
        rw [List.take_succ_eq_append_getElem (by simpa using hkZ), List.take_succ_eq_append_getElem hkz, List.take_set_of_le (Nat.le_refl _), hZ.out.1]
        simp [HX.out], by rw [List.length_set]; exact hZ.out.2⟩
      clear row2 row3 hb3 hs3 hb2 hpg
      go_wp2_with fail
      go_roundw
      case rel => exact ⟨k + 1, Z.set k x, by omega, by go_num, HB3.out.1, HZ3, HR3.out, HB3.out.2⟩
      case measure => simp [intOf]; omega
    · have e : k = n := by omega
      subst e
      have HROW := Lib.hid hrow
      clear hrow
      go_wp2_with fail
      go_ret
      have hr2 := HROW.out
      have hz2 := hZ.out
      have : Z = X := by
        have h1 := hz2.1
        rwa [List.take_of_length_le (by rw [hz2.2]; exact Nat.le_refl _), List.take_of_length_le (by rw [hl.out]; exact Nat.le_refl _)] at h1
      subst this
      exact ⟨_, rfl, hr2.wide (Nat.le_refl _) hsw, hb⟩
end Go.Proofs.Ythkigilegnjglaa
