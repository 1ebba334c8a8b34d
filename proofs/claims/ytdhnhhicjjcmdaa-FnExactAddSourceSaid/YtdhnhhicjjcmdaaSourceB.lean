/- Contract of the laws' own function toSourceS; stores into a row of sources. No conditions but that the slice has at most 2^40 elements. -/
import Derived.Test.YtdhnhhicjjcmdaaSourceA
namespace Go.Proofs.Ytdhnhhicjjcmdaa
open Go.ChangeShapes Go.WideShapes Go.ChangeAt Go.RowKit
set_option maxRecDepth 100000
theorem SourceS_info : (Try.prog.info? 40).map (fun i => (i.zero, i.size, i.bytes)) = some (some (.agg #[.int .i64 0, .int .i64 0, .int .i64 0, .bool false]), 4, 32) := by kernel_rfl
theorem RowG.set_src {w : World} {lo hi g n c k : Nat} {t : TypeId} {X : List Src} (h : RowG srcE w lo hi t (.slice (some ⟨g, 0, none⟩) n c) X) (hk : k < X.length) (q : Src) :
    RowG srcE ((((w.setCell ⟨g, k * 4, none⟩ (.int .i64 q.1)).setCell ⟨g, k * 4 + 1, none⟩ (.int .i64 q.2.1)).setCell ⟨g, k * 4 + 2, none⟩ (.int .i64 q.2.2.1)).setCell ⟨g, k * 4 + 3, none⟩ (.bool q.2.2.2)) lo hi t (.slice (some ⟨g, 0, none⟩) n c) (X.set k q) := by
  have hq : X.set k q = X.set k q := rfl
  have k0 : k < (X).length := by simpa using hk
  have h0 := h.set (flE_set srcE (X) k 0 k0 (.int .i64 q.1) (q.1, (X)[k].2.1, (X)[k].2.2.1, (X)[k].2.2.2) (by decide) rfl)
  have k1 : k < ((X).set k (q.1, (X)[k].2.1, (X)[k].2.2.1, (X)[k].2.2.2)).length := by simpa using hk
  have h1 := h0.set (flE_set srcE ((X).set k (q.1, (X)[k].2.1, (X)[k].2.2.1, (X)[k].2.2.2)) k 1 k1 (.int .i64 q.2.1) (((X).set k (q.1, (X)[k].2.1, (X)[k].2.2.1, (X)[k].2.2.2))[k].1, q.2.1, ((X).set k (q.1, (X)[k].2.1, (X)[k].2.2.1, (X)[k].2.2.2))[k].2.2.1, ((X).set k (q.1, (X)[k].2.1, (X)[k].2.2.1, (X)[k].2.2.2))[k].2.2.2) (by decide) rfl)
  have k2 : k < (((X).set k (q.1, (X)[k].2.1, (X)[k].2.2.1, (X)[k].2.2.2)).set k (((X).set k (q.1, (X)[k].2.1, (X)[k].2.2.1, (X)[k].2.2.2))[k].1, q.2.1, ((X).set k (q.1, (X)[k].2.1, (X)[k].2.2.1, (X)[k].2.2.2))[k].2.2.1, ((X).set k (q.1, (X)[k].2.1, (X)[k].2.2.1, (X)[k].2.2.2))[k].2.2.2)).length := by simpa using hk
  have h2 := h1.set (flE_set srcE (((X).set k (q.1, (X)[k].2.1, (X)[k].2.2.1, (X)[k].2.2.2)).set k (((X).set k (q.1, (X)[k].2.1, (X)[k].2.2.1, (X)[k].2.2.2))[k].1, q.2.1, ((X).set k (q.1, (X)[k].2.1, (X)[k].2.2.1, (X)[k].2.2.2))[k].2.2.1, ((X).set k (q.1, (X)[k].2.1, (X)[k].2.2.1, (X)[k].2.2.2))[k].2.2.2)) k 2 k2 (.int .i64 q.2.2.1) ((((X).set k (q.1, (X)[k].2.1, (X)[k].2.2.1, (X)[k].2.2.2)).set k (((X).set k (q.1, (X)[k].2.1, (X)[k].2.2.1, (X)[k].2.2.2))[k].1, q.2.1, ((X).set k (q.1, (X)[k].2.1, (X)[k].2.2.1, (X)[k].2.2.2))[k].2.2.1, ((X).set k (q.1, (X)[k].2.1, (X)[k].2.2.1, (X)[k].2.2.2))[k].2.2.2))[k].1, (((X).set k (q.1, (X)[k].2.1, (X)[k].2.2.1, (X)[k].2.2.2)).set k (((X).set k (q.1, (X)[k].2.1, (X)[k].2.2.1, (X)[k].2.2.2))[k].1, q.2.1, ((X).set k (q.1, (X)[k].2.1, (X)[k].2.2.1, (X)[k].2.2.2))[k].2.2.1, ((X).set k (q.1, (X)[k].2.1, (X)[k].2.2.1, (X)[k].2.2.2))[k].2.2.2))[k].2.1, q.2.2.1, (((X).set k (q.1, (X)[k].2.1, (X)[k].2.2.1, (X)[k].2.2.2)).set k (((X).set k (q.1, (X)[k].2.1, (X)[k].2.2.1, (X)[k].2.2.2))[k].1, q.2.1, ((X).set k (q.1, (X)[k].2.1, (X)[k].2.2.1, (X)[k].2.2.2))[k].2.2.1, ((X).set k (q.1, (X)[k].2.1, (X)[k].2.2.1, (X)[k].2.2.2))[k].2.2.2))[k].2.2.2) (by decide) rfl)
  have k3 : k < ((((X).set k (q.1, (X)[k].2.1, (X)[k].2.2.1, (X)[k].2.2.2)).set k (((X).set k (q.1, (X)[k].2.1, (X)[k].2.2.1, (X)[k].2.2.2))[k].1, q.2.1, ((X).set k (q.1, (X)[k].2.1, (X)[k].2.2.1, (X)[k].2.2.2))[k].2.2.1, ((X).set k (q.1, (X)[k].2.1, (X)[k].2.2.1, (X)[k].2.2.2))[k].2.2.2)).set k ((((X).set k (q.1, (X)[k].2.1, (X)[k].2.2.1, (X)[k].2.2.2)).set k (((X).set k (q.1, (X)[k].2.1, (X)[k].2.2.1, (X)[k].2.2.2))[k].1, q.2.1, ((X).set k (q.1, (X)[k].2.1, (X)[k].2.2.1, (X)[k].2.2.2))[k].2.2.1, ((X).set k (q.1, (X)[k].2.1, (X)[k].2.2.1, (X)[k].2.2.2))[k].2.2.2))[k].1, (((X).set k (q.1, (X)[k].2.1, (X)[k].2.2.1, (X)[k].2.2.2)).set k (((X).set k (q.1, (X)[k].2.1, (X)[k].2.2.1, (X)[k].2.2.2))[k].1, q.2.1, ((X).set k (q.1, (X)[k].2.1, (X)[k].2.2.1, (X)[k].2.2.2))[k].2.2.1, ((X).set k (q.1, (X)[k].2.1, (X)[k].2.2.1, (X)[k].2.2.2))[k].2.2.2))[k].2.1, q.2.2.1, (((X).set k (q.1, (X)[k].2.1, (X)[k].2.2.1, (X)[k].2.2.2)).set k (((X).set k (q.1, (X)[k].2.1, (X)[k].2.2.1, (X)[k].2.2.2))[k].1, q.2.1, ((X).set k (q.1, (X)[k].2.1, (X)[k].2.2.1, (X)[k].2.2.2))[k].2.2.1, ((X).set k (q.1, (X)[k].2.1, (X)[k].2.2.1, (X)[k].2.2.2))[k].2.2.2))[k].2.2.2)).length := by simpa using hk
  have h3 := h2.set (flE_set srcE ((((X).set k (q.1, (X)[k].2.1, (X)[k].2.2.1, (X)[k].2.2.2)).set k (((X).set k (q.1, (X)[k].2.1, (X)[k].2.2.1, (X)[k].2.2.2))[k].1, q.2.1, ((X).set k (q.1, (X)[k].2.1, (X)[k].2.2.1, (X)[k].2.2.2))[k].2.2.1, ((X).set k (q.1, (X)[k].2.1, (X)[k].2.2.1, (X)[k].2.2.2))[k].2.2.2)).set k ((((X).set k (q.1, (X)[k].2.1, (X)[k].2.2.1, (X)[k].2.2.2)).set k (((X).set k (q.1, (X)[k].2.1, (X)[k].2.2.1, (X)[k].2.2.2))[k].1, q.2.1, ((X).set k (q.1, (X)[k].2.1, (X)[k].2.2.1, (X)[k].2.2.2))[k].2.2.1, ((X).set k (q.1, (X)[k].2.1, (X)[k].2.2.1, (X)[k].2.2.2))[k].2.2.2))[k].1, (((X).set k (q.1, (X)[k].2.1, (X)[k].2.2.1, (X)[k].2.2.2)).set k (((X).set k (q.1, (X)[k].2.1, (X)[k].2.2.1, (X)[k].2.2.2))[k].1, q.2.1, ((X).set k (q.1, (X)[k].2.1, (X)[k].2.2.1, (X)[k].2.2.2))[k].2.2.1, ((X).set k (q.1, (X)[k].2.1, (X)[k].2.2.1, (X)[k].2.2.2))[k].2.2.2))[k].2.1, q.2.2.1, (((X).set k (q.1, (X)[k].2.1, (X)[k].2.2.1, (X)[k].2.2.2)).set k (((X).set k (q.1, (X)[k].2.1, (X)[k].2.2.1, (X)[k].2.2.2))[k].1, q.2.1, ((X).set k (q.1, (X)[k].2.1, (X)[k].2.2.1, (X)[k].2.2.2))[k].2.2.1, ((X).set k (q.1, (X)[k].2.1, (X)[k].2.2.1, (X)[k].2.2.2))[k].2.2.2))[k].2.2.2)) k 3 k3 (.bool q.2.2.2) (((((X).set k (q.1, (X)[k].2.1, (X)[k].2.2.1, (X)[k].2.2.2)).set k (((X).set k (q.1, (X)[k].2.1, (X)[k].2.2.1, (X)[k].2.2.2))[k].1, q.2.1, ((X).set k (q.1, (X)[k].2.1, (X)[k].2.2.1, (X)[k].2.2.2))[k].2.2.1, ((X).set k (q.1, (X)[k].2.1, (X)[k].2.2.1, (X)[k].2.2.2))[k].2.2.2)).set k ((((X).set k (q.1, (X)[k].2.1, (X)[k].2.2.1, (X)[k].2.2.2)).set k (((X).set k (q.1, (X)[k].2.1, (X)[k].2.2.1, (X)[k].2.2.2))[k].1, q.2.1, ((X).set k (q.1, (X)[k].2.1, (X)[k].2.2.1, (X)[k].2.2.2))[k].2.2.1, ((X).set k (q.1, (X)[k].2.1, (X)[k].2.2.1, (X)[k].2.2.2))[k].2.2.2))[k].1, (((X).set k (q.1, (X)[k].2.1, (X)[k].2.2.1, (X)[k].2.2.2)).set k (((X).set k (q.1, (X)[k].2.1, (X)[k].2.2.1, (X)[k].2.2.2))[k].1, q.2.1, ((X).set k (q.1, (X)[k].2.1, (X)[k].2.2.1, (X)[k].2.2.2))[k].2.2.1, ((X).set k (q.1, (X)[k].2.1, (X)[k].2.2.1, (X)[k].2.2.2))[k].2.2.2))[k].2.1, q.2.2.1, (((X).set k (q.1, (X)[k].2.1, (X)[k].2.2.1, (X)[k].2.2.2)).set k (((X).set k (q.1, (X)[k].2.1, (X)[k].2.2.1, (X)[k].2.2.2))[k].1, q.2.1, ((X).set k (q.1, (X)[k].2.1, (X)[k].2.2.1, (X)[k].2.2.2))[k].2.2.1, ((X).set k (q.1, (X)[k].2.1, (X)[k].2.2.1, (X)[k].2.2.2))[k].2.2.2))[k].2.2.2))[k].1, ((((X).set k (q.1, (X)[k].2.1, (X)[k].2.2.1, (X)[k].2.2.2)).set k (((X).set k (q.1, (X)[k].2.1, (X)[k].2.2.1, (X)[k].2.2.2))[k].1, q.2.1, ((X).set k (q.1, (X)[k].2.1, (X)[k].2.2.1, (X)[k].2.2.2))[k].2.2.1, ((X).set k (q.1, (X)[k].2.1, (X)[k].2.2.1, (X)[k].2.2.2))[k].2.2.2)).set k ((((X).set k (q.1, (X)[k].2.1, (X)[k].2.2.1, (X)[k].2.2.2)).set k (((X).set k (q.1, (X)[k].2.1, (X)[k].2.2.1, (X)[k].2.2.2))[k].1, q.2.1, ((X).set k (q.1, (X)[k].2.1, (X)[k].2.2.1, (X)[k].2.2.2))[k].2.2.1, ((X).set k (q.1, (X)[k].2.1, (X)[k].2.2.1, (X)[k].2.2.2))[k].2.2.2))[k].1, (((X).set k (q.1, (X)[k].2.1, (X)[k].2.2.1, (X)[k].2.2.2)).set k (((X).set k (q.1, (X)[k].2.1, (X)[k].2.2.1, (X)[k].2.2.2))[k].1, q.2.1, ((X).set k (q.1, (X)[k].2.1, (X)[k].2.2.1, (X)[k].2.2.2))[k].2.2.1, ((X).set k (q.1, (X)[k].2.1, (X)[k].2.2.1, (X)[k].2.2.2))[k].2.2.2))[k].2.1, q.2.2.1, (((X).set k (q.1, (X)[k].2.1, (X)[k].2.2.1, (X)[k].2.2.2)).set k (((X).set k (q.1, (X)[k].2.1, (X)[k].2.2.1, (X)[k].2.2.2))[k].1, q.2.1, ((X).set k (q.1, (X)[k].2.1, (X)[k].2.2.1, (X)[k].2.2.2))[k].2.2.1, ((X).set k (q.1, (X)[k].2.1, (X)[k].2.2.1, (X)[k].2.2.2))[k].2.2.2))[k].2.2.2))[k].2.1, ((((X).set k (q.1, (X)[k].2.1, (X)[k].2.2.1, (X)[k].2.2.2)).set k (((X).set k (q.1, (X)[k].2.1, (X)[k].2.2.1, (X)[k].2.2.2))[k].1, q.2.1, ((X).set k (q.1, (X)[k].2.1, (X)[k].2.2.1, (X)[k].2.2.2))[k].2.2.1, ((X).set k (q.1, (X)[k].2.1, (X)[k].2.2.1, (X)[k].2.2.2))[k].2.2.2)).set k ((((X).set k (q.1, (X)[k].2.1, (X)[k].2.2.1, (X)[k].2.2.2)).set k (((X).set k (q.1, (X)[k].2.1, (X)[k].2.2.1, (X)[k].2.2.2))[k].1, q.2.1, ((X).set k (q.1, (X)[k].2.1, (X)[k].2.2.1, (X)[k].2.2.2))[k].2.2.1, ((X).set k (q.1, (X)[k].2.1, (X)[k].2.2.1, (X)[k].2.2.2))[k].2.2.2))[k].1, (((X).set k (q.1, (X)[k].2.1, (X)[k].2.2.1, (X)[k].2.2.2)).set k (((X).set k (q.1, (X)[k].2.1, (X)[k].2.2.1, (X)[k].2.2.2))[k].1, q.2.1, ((X).set k (q.1, (X)[k].2.1, (X)[k].2.2.1, (X)[k].2.2.2))[k].2.2.1, ((X).set k (q.1, (X)[k].2.1, (X)[k].2.2.1, (X)[k].2.2.2))[k].2.2.2))[k].2.1, q.2.2.1, (((X).set k (q.1, (X)[k].2.1, (X)[k].2.2.1, (X)[k].2.2.2)).set k (((X).set k (q.1, (X)[k].2.1, (X)[k].2.2.1, (X)[k].2.2.2))[k].1, q.2.1, ((X).set k (q.1, (X)[k].2.1, (X)[k].2.2.1, (X)[k].2.2.2))[k].2.2.1, ((X).set k (q.1, (X)[k].2.1, (X)[k].2.2.1, (X)[k].2.2.2))[k].2.2.2))[k].2.2.2))[k].2.2.1, q.2.2.2) (by decide) rfl)
  simpa [srcE] using h3
set_option maxHeartbeats 4000000 in
theorem toSourceS_any {w : World} {A : Option Addr} {n c : Nat} {X : List Src} (hl : Hid (X.length = n)) (hn : n ≤ 1099511627776) (hr : Rd w w.heap.size A (flE srcE X)) :
    Calls Try.prog 13 #[.slice A n c] w (fun e w' => ∃ v, e = .returned v ∧ RowG srcE w' w.heap.size w'.heap.size 40 v X ∧ Below w.heap.size w w') := by
  obtain ⟨i0, hi, hz0, hz1, hz2⟩ := info_parts SourceS_info
  go_enter Try.func13, Try.ntmps13
  go_wp2_with (first | (at_make; refine wpList_make_full _ rfl _ _ 25 rfl w.heap.size 40 i0 _ 4 Try.underlying25 hi hz0 hz1 _ _ _ _ n rfl rfl rfl rfl (by rw [hz2]; omega) (by unfold maxLen; omega) (Nat.le_refl _) ?_; intro w1 hown1 hg1))
  have hb1 : Below w.heap.size w w1 := (Below.refl _ _).grown hg1 (Nat.le_refl _) (by simp)
  rw [show (madeCells (Value.agg #[.int .i64 0, .int .i64 0, .int .i64 0, .bool false]).cells (n * 4)).toList = flE srcE (List.replicate n (0, 0, 0, false)) from flE_zero srcE _ (0, 0, 0, false) n rfl] at hown1
  have row1 := RowG.of_own (E := srcE) hown1
  have hz1 := hb1.size
  have hsz := hown1.lt w.heap.size rfl
  clear hown1 hg1
  go_loopw [4] (fun i wr => ∃ (k : Nat) (Z : List Src), k ≤ n ∧ i = .int .i64 k ∧ Below w.heap.size w wr ∧ Hid (Z.take k = X.take k ∧ Z.length = n) ∧ RowG srcE wr w.heap.size (w.heap.size + 1) 40 (.slice (some ⟨w.heap.size, 0, none⟩) n n) Z ∧ w.heap.size + 1 ≤ wr.heap.size) (fun i _ => n - (intOf i).toNat)
  case atStart => exact ⟨0, List.replicate n (0, 0, 0, false), Nat.zero_le _, rfl, hb1, Lib.hid ⟨rfl, by simp⟩, ⟨row1.1, fun g hg => by simp [Value.ownBlock] at hg; omega⟩, hsz.2⟩
  case round =>
    obtain ⟨k, Z, hk, rfl, hb, hZ, hrow, hsw⟩ := hrel
    clear row1 hb1
    by_cases hlt : k < n
    · have hkz : k < X.length := by rw [hl.out]; exact hlt
      obtain ⟨ad, p, rfl, hp, hab, h0, h1, h2, h3⟩ := src_cells ((hr.below hb).more hb.size) hkz
      obtain ⟨x, hx⟩ : ∃ x, x = X[k] := ⟨_, rfl⟩
      rw [← hx] at h0 h1 h2 h3
      have HX := Lib.hid hx
      have i0 : (0 : Int) ≤ (k : Int) := by omega
      have i1 : (k : Int) < (n : Int) := by omega
      have HROW := Lib.hid hrow
      clear hx hrow
      go_wp2_with fail
      refine (toSource_any).mono ?_
      rintro e u1 ⟨rfl, r⟩
      have row2 := HROW.out.new r
      have hkZ : k < Z.length := by rw [hZ.out.2]; exact hlt
      obtain ⟨ag, pg, eg, hpg, _, c0, c1, c2, c3⟩ := src_cells row2.rd' hkZ
      injection eg with eg
      subst eg
      have hpe : pg = ⟨w.heap.size, k * 4, none⟩ := by rw [← hpg]; unfold Addr.add; split <;> simp_all
      subst hpe
      have f0 := row2.froz (i := k * 4)
      have f1 := row2.froz (i := k * 4 + 1)
      have f2 := row2.froz (i := k * 4 + 2)
      have f3 := row2.froz (i := k * 4 + 3)
      have row3 := row2.set_src hkZ x
      have hb2 := hb.trans (r.mono hb.size)
      have hb3 := ((((hb2.setCell (p := ⟨w.heap.size, k * 4, none⟩) (Nat.le_refl _) (.int .i64 x.1)).setCell (p := ⟨w.heap.size, k * 4 + 1, none⟩) (Nat.le_refl _) (.int .i64 x.2.1)).setCell (p := ⟨w.heap.size, k * 4 + 2, none⟩) (Nat.le_refl _) (.int .i64 x.2.2.1)).setCell (p := ⟨w.heap.size, k * 4 + 3, none⟩) (Nat.le_refl _) (.bool x.2.2.2))
      have hs3 : w.heap.size + 1 ≤ ((((u1.setCell ⟨w.heap.size, k * 4, none⟩ (.int .i64 x.1)).setCell ⟨w.heap.size, k * 4 + 1, none⟩ (.int .i64 x.2.1)).setCell ⟨w.heap.size, k * 4 + 2, none⟩ (.int .i64 x.2.2.1)).setCell ⟨w.heap.size, k * 4 + 3, none⟩ (.bool x.2.2.2)).heap.size := by have := r.size; simp; omega
      have HR3 := Lib.hid row3
      have HB3 := Lib.hid (And.intro hb3 hs3)
      have HZ3 : Hid ((Z.set k x).take (k + 1) = X.take (k + 1) ∧ (Z.set k x).length = n) := Lib.hid ⟨by
        rw [List.take_succ_eq_append_getElem (by simpa using hkZ), List.take_succ_eq_append_getElem hkz, List.take_set_of_le (Nat.le_refl _), hZ.out.1]
        simp [HX.out], by rw [List.length_set]; exact hZ.out.2⟩
      clear row2 row3 hb3 hs3 hb2 hpg
      go_wp2_with fail
      go_roundw
      case rel => exact ⟨k + 1, Z.set k x, by omega, by go_num, HB3.out.1, HZ3, HR3.out, HB3.out.2⟩
      case measure => simp [intOf]; omega
    · have e : k = n := by omega
      subst e
      have HROW := Lib.hid hrow
      clear hrow
      go_wp2_with fail
      go_ret
      have hr2 := HROW.out
      have hz2 := hZ.out
      have : Z = X := by
        have h1 := hz2.1
        rwa [List.take_of_length_le (by rw [hz2.2]; exact Nat.le_refl _), List.take_of_length_le (by rw [hl.out]; exact Nat.le_refl _)] at h1
      subst this
      exact ⟨_, rfl, hr2.wide (Nat.le_refl _) hsw, hb⟩
end Go.Proofs.Ytdhnhhicjjcmdaa
