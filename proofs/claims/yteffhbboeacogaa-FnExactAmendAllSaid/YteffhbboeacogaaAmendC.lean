/- Contracts of the laws' own functions markAmendS, heldAmendS. No conditions but the sizes. -/
import Derived.Test.YteffhbboeacogaaAmendA
import Derived.Test.YteffhbboeacogaaOne
namespace Go.Proofs.Yteffhbboeacogaa
open Go.ChangeShapes Go.WideShapes Go.ChangeAt Go.RowKit
set_option maxRecDepth 100000
/-- What the marks of one are. -/
def mk1A (a : Int) (n : Nat) : Am := ⟨a, (a + 1), imks (a + 2) n⟩
def mkbA (q : Int) (X : List Am) (i : Nat) : Int := q + 2 * (i : Int) + (psum (X.map Am.put) i : Int)
def mkA (q : Int) (X : List Am) : List Am := (List.range X.length).map fun (i : Nat) => mk1A (mkbA q X i) (((X.map Am.put)).getD i []).length
theorem mkA_len (q : Int) (X : List Am) : (mkA q X).length = X.length := by simp [mkA]
theorem mkA_get (q : Int) (X : List Am) (k : Nat) (h : k < X.length) : (mkA q X)[k]? = some (mk1A (mkbA q X k) X[k].put.length) := by
  simp [mkA, h, List.getD]
theorem mkbA_succ (q : Int) (X : List Am) (k : Nat) (h : k < X.length) : mkbA q X (k + 1) = mkbA q X k + 2 + (X[k].put.length : Int) := by
  unfold mkbA
  rw [Am_mets_get h]
  omega
theorem mkbA_zero (q : Int) (X : List Am) : mkbA q X 0 = q := by
  unfold mkbA; rw [psum_zero]; omega
def MarkedA (q : Int) (lo hi : Nat) (v : Value) (X : List Am) (w : World) (e : Ending) (w' : World) : Prop := e = .returned (.int .i64 q) ∧ OwnA w' lo hi v X ∧ Out lo hi w w'
set_option maxHeartbeats 4000000 in
theorem markAmendS_any {w : World} {lo hi n : Nat} {v : Value} {q : Int} {X : List Am} (hl : Hid (X.length = n)) (hn : n ≤ 1099511627776) (ht : psum (X.map Am.put) n ≤ 1000000000000) (h0 : 0 ≤ q) (hq : q ≤ 100000000000000) (hlo : lo ≤ hi) (h : OwnA w lo hi v X) :
    Calls Try.prog 53 #[v, .int .i64 q] w (MarkedA (mkbA q X n) lo hi v (mkA q X) w) := by
  by_cases hz : n = 0
  · subst hz
    have hX : X = [] := List.eq_nil_of_length_eq_zero hl.out
    subst hX
    obtain ⟨A, c, rfl, _, _, _⟩ := h.rd (n := 0) rfl
    have HR := Lib.hid h
    clear h
    go_enter Try.func53, Try.ntmps53
    go_wp2_with fail
    go_loopw [1, 5] (fun m i wr => i = .int .i64 0 ∧ m = .int .i64 q ∧ wr = w) (fun _ _ _ => 0)
    case atStart => exact ⟨rfl, rfl, rfl⟩
    case round =>
      obtain ⟨rfl, rfl, rfl⟩ := hrel
      go_wp2_with fail
      go_ret
      exact ⟨ret_i (mkbA_zero q []).symm, by simpa [mkA] using HR.out, Out.refl⟩
  · obtain ⟨g, cap, rfl, hg1, hg2, _, _, _, _⟩ := h.base hl.out (by omega)
    have HR := Lib.hid h
    have HZ := Lib.hid (mkbA_zero q X)
    clear h
    go_enter Try.func53, Try.ntmps53
    go_wp2_with fail
    go_loopw [1, 5] (fun m i wr => ∃ (k : Nat) (a : Int), k ≤ n ∧ i = .int .i64 k ∧ m = .int .i64 a ∧ Hid (a = mkbA q X k) ∧ OwnA wr lo hi (.slice (some ⟨g, 0, none⟩) n cap) ((mkA q X).take k ++ X.drop k) ∧ Out lo hi w wr) (fun _ i _ => n - (intOf i).toNat)
    case atStart => exact ⟨0, q, Nat.zero_le _, rfl, rfl, Lib.hid HZ.out.symm, by simpa using HR.out, Out.refl⟩
    case round =>
      obtain ⟨k, a, hk, rfl, rfl, HA, hown, hout⟩ := hrel
      have hml := Lib.hid (mix_len (mkA q X) X k (mkA_len q X).symm)
      have hmx : ((mkA q X).take k ++ X.drop k).length = n := by rw [hml.out, mkA_len, hl.out]
      have HM := Lib.hid hmx
      clear hmx
      by_cases hlt : k < n
      · have hkz : k < X.length := by rw [hl.out]; exact hlt
        have hkm : k < ((mkA q X).take k ++ X.drop k).length := by rw [HM.out]; exact hlt
        have hps := Lib.hid (mkbA_succ q X k hkz)
        have hxl := Am_mets_mem hkz
        have hp1 : psum (X.map Am.put) k ≤ psum (X.map Am.put) n := psum_mono _ _ _ hk
        have ha0 : 0 ≤ a := by rw [HA.out]; unfold mkbA; omega
        have ha1 : a ≤ 200000000000000 := by rw [HA.out]; unfold mkbA; omega
        have hxl2 : X[k].put.length ≤ 1000000000000 := by rw [hl.out] at hxl; omega
        have hset := Lib.hid (set_mixG (mkA q X) X k _ (by rw [mkA_len]; exact hkz) (mkA_len q X).symm (mkA_get q X k hkz))
        have hat := mix_at (mkA q X) X k hkz (by rw [mkA_len]; omega) hkm
        obtain ⟨L, hL⟩ : ∃ L, L = (mkA q X).take k ++ X.drop k := ⟨_, rfl⟩
        have hkL : k < L.length := by rw [hL]; exact hkm
        have hatL : L[k] = X[k] := by simp only [hL]; exact hat
        rw [← hL] at hown hset HM
        obtain ⟨x, hx⟩ : ∃ x, x = X[k] := ⟨_, rfl⟩
        rw [← hx] at hps hset hxl2 hatL
        rw [← HA.out] at hps hset
        clear hat hx hp1 hxl
        obtain ⟨ag, pg, eg, hpg, _, Aj, cj, c0, c1, c2, _, _, _⟩ := hown.rd'.at_ hkL
        injection eg with eg
        subst eg
        have hpe : pg = ⟨g, k * 3, none⟩ := by rw [← hpg]; unfold Addr.add; split <;> simp_all
        subst hpe
        have hfz : ∀ i, wr.frozen? ⟨g, i, none⟩ = false := by
          obtain ⟨g9, cap9, e9, _, _, _, _, _, hfz⟩ := hown.base HM.out (by omega)
          injection e9 with e9; injection e9 with e9; injection e9 with e9
          rw [e9]; exact hfz
        have f0 := hfz (k * 3)
        have f1 := hfz (k * 3 + 1)
        have hput := hown.putInts (y := ⟨a, (a + 1), x.put⟩) HM.out hkL hlo (by rw [hatL])
        have hoc : Out lo hi wr ((wr.setCell ⟨g, k * 3, none⟩ (.int .i64 a)).setCell ⟨g, k * 3 + 1, none⟩ (.int .i64 (a + 1))) := by
          exact (Out.setCell (lo := lo) (hi := hi) wr hg1 hg2 (k * 3) (.int .i64 a)).trans (Out.setCell (lo := lo) (hi := hi) _ hg1 hg2 (k * 3 + 1) (.int .i64 (a + 1)))
        have hlt2 : k < (L.set k ⟨a, (a + 1), x.put⟩).length := by simpa using hkL
        obtain ⟨g2, cap2, u, lo2, hi2, q1, hcell, _, _, hrow, _, hturn⟩ := hput.turn hlt2
        have hg2e : g2 = g := by injection q1 with q1; injection q1 with q1; injection q1 with q1; exact q1.symm
        subst hg2e
        have hrow : Row ((wr.setCell ⟨g2, k * 3, none⟩ (.int .i64 a)).setCell ⟨g2, k * 3 + 1, none⟩ (.int .i64 (a + 1))) lo2 hi2 3 u (ivs x.put) := by simpa using hrow
        obtain ⟨A9, c9, rfl, _, _, _⟩ := hrow.rd (ivs_len x.put)
        have HT := Lib.hid hturn
        have HO := Lib.hid hoc
        have HROW := Lib.hid hrow
        have e1 : IntKind.i64.wrap (a + 1) = a + 1 := by rw [IntWalk.i64_in _ (by omega)]
        have e2 : IntKind.i64.wrap (a + 1 + 1) = a + 2 := by rw [IntWalk.i64_in _ (by omega)]; omega
        clear hown hput hoc hrow hpg q1 hL hturn
        go_wp2_with fail
        refine (markIntS_any (Lib.hid (ivs_len x.put)) (by omega) (by omega) (by omega) HROW.out).mono ?_
        rintro e w2 ⟨rfl, hrow2, ho2⟩
        obtain ⟨t1, t2⟩ := HT.out w2 _ ho2 hrow2
        have ht1 : OwnA w2 lo hi (.slice (some ⟨g2, 0, none⟩) n cap) ((mkA q X).take (k + 1) ++ X.drop (k + 1)) := by
          rw [← hset.out]
          simpa [mk1A] using t1
        have HF := Lib.hid (And.intro ht1 (hout.trans (HO.out.trans t2)))
        clear t1 t2 ht1 hrow2 ho2
        go_wp2_with fail
        go_roundw
        case rel => exact ⟨k + 1, _, by omega, by go_num, rfl, Lib.hid (by rw [hps.out]; try go_num), HF.out.1, HF.out.2⟩
        case measure => simp [intOf]; omega
      · have e : k = n := by omega
        subst e
        have H4 := Lib.hid hown
        have H5 := Lib.hid hout
        clear hown hout
        go_wp2_with fail
        go_ret
        have ho := H4.out
        rw [List.take_of_length_le (by rw [mkA_len, hl.out]; omega), List.drop_eq_nil_of_le (by rw [hl.out]; omega), List.append_nil] at ho
        exact ⟨ret_i HA.out, ho, H5.out⟩
end Go.Proofs.Yteffhbboeacogaa
