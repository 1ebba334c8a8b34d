/- Contracts of the laws' own functions markJudgeS, heldJudgeS. No conditions but the sizes. -/
import Derived.Test.YthkigilegnjglaaJudgeA
import Derived.Test.YthkigilegnjglaaMg6
namespace Go.Proofs.Ythkigilegnjglaa
open Go.ChangeShapes Go.WideShapes Go.ChangeAt Go.RowKit
set_option maxRecDepth 100000
/-- What the marks of one are. -/
def mk1J (a : Int) (n : Nat) : Jd := ⟨a, (a + 1), imks (a + 2) n⟩
def mkbJ (q : Int) (X : List Jd) (i : Nat) : Int := q + 2 * (i : Int) + (psum (X.map Jd.seen) i : Int)
def mkJ (q : Int) (X : List Jd) : List Jd := (List.range X.length).map fun (i : Nat) => mk1J (mkbJ q X i) (((X.map Jd.seen)).getD i []).length
theorem mkJ_len (q : Int) (X : List Jd) : (mkJ q X).length = X.length := by simp [mkJ]
theorem mkJ_get (q : Int) (X : List Jd) (k : Nat) (h : k < X.length) : (mkJ q X)[k]? = some (mk1J (mkbJ q X k) X[k].seen.length) := by
  simp [mkJ, h, List.getD]
theorem mkbJ_succ (q : Int) (X : List Jd) (k : Nat) (h : k < X.length) : mkbJ q X (k + 1) = mkbJ q X k + 2 + (X[k].seen.length : Int) := by
  unfold mkbJ
  rw [Jd_mets_get h]
  omega
theorem mkbJ_zero (q : Int) (X : List Jd) : mkbJ q X 0 = q := by
  unfold mkbJ; rw [psum_zero]; omega
def MarkedJ (q : Int) (lo hi : Nat) (v : Value) (X : List Jd) (w : World) (e : Ending) (w' : World) : Prop := e = .returned (.int .i64 q) ∧ OwnJ w' lo hi v X ∧ Out lo hi w w'
set_option maxHeartbeats 4000000 in
theorem markJudgeS_any {w : World} {lo hi n : Nat} {v : Value} {q : Int} {X : List Jd} (hl : Hid (X.length = n)) (hn : n ≤ 1099511627776) (ht : psum (X.map Jd.seen) n ≤ 1000000000000) (h0 : 0 ≤ q) (hq : q ≤ 100000000000000) (hlo : lo ≤ hi) (h : OwnJ w lo hi v X) :
    Calls Try.prog 57 #[v, .int .i64 q] w (MarkedJ (mkbJ q X n) lo hi v (mkJ q X) w) := by
  by_cases hz : n = 0
  · subst hz
    have hX : X = [] := List.eq_nil_of_length_eq_zero hl.out
    subst hX
    obtain ⟨A, c, rfl, _, _, _⟩ := h.rd (n := 0) rfl
    have HR := Lib.hid h
    clear h
    go_enter Try.func57, Try.ntmps57
    go_wp2_with fail
    go_loopw [1, 5] (fun m i wr => i = .int .i64 0 ∧ m = .int .i64 q ∧ wr = w) (fun _ _ _ => 0)
    case atStart => exact ⟨rfl, rfl, rfl⟩
    case round =>
      obtain ⟨rfl, rfl, rfl⟩ := hrel
      go_wp2_with fail
      go_ret
      exact ⟨ret_i (mkbJ_zero q []).symm, by simpa [mkJ] using HR.out, Out.refl⟩
  · obtain ⟨g, cap, rfl, hg1, hg2, _, _, _, _⟩ := h.base hl.out (by omega)
    have HR := Lib.hid h
    have HZ := Lib.hid (mkbJ_zero q X)
    clear h
    go_enter Try.func57, Try.ntmps57
    go_wp2_with fail
    go_loopw [1, 5] (fun m i wr => ∃ (k : Nat) (a : Int), k ≤ n ∧ i = .int .i64 k ∧ m = .int .i64 a ∧ Hid (a = mkbJ q X k) ∧ OwnJ wr lo hi (.slice (some ⟨g, 0, none⟩) n cap) ((mkJ q X).take k ++ X.drop k) ∧ Out lo hi w wr) (fun _ i _ => n - (intOf i).toNat)
    case atStart => exact ⟨0, q, Nat.zero_le _, rfl, rfl, Lib.hid HZ.out.symm, by simpa using HR.out, Out.refl⟩
    case round =>
      obtain ⟨k, a, hk, rfl, rfl, HA, hown, hout⟩ := hrel
      have hml := Lib.hid (mix_len (mkJ q X) X k (mkJ_len q X).symm)
      have hmx : ((mkJ q X).take k ++ X.drop k).length = n := by rw [hml.out, mkJ_len, hl.out]
      have HM := Lib.hid hmx
      clear hmx
      by_cases hlt : k < n
      · have hkz : k < X.length := by rw [hl.out]; exact hlt
        have hkm : k < ((mkJ q X).take k ++ X.drop k).length := by rw [HM.out]; exact hlt
        have hps := Lib.hid (mkbJ_succ q X k hkz)
        have hxl := Jd_mets_mem hkz
        have hp1 : psum (X.map Jd.seen) k ≤ psum (X.map Jd.seen) n := psum_mono _ _ _ hk
        have ha0 : 0 ≤ a := by rw [HA.out]; unfold mkbJ; omega
        have ha1 : a ≤ 200000000000000 := by rw [HA.out]; unfold mkbJ; omega
        have hxl2 : X[k].seen.length ≤ 1000000000000 := by rw [hl.out] at hxl; omega
        have hset := Lib.hid (set_mixG (mkJ q X) X k _ (by rw [mkJ_len]; exact hkz) (mkJ_len q X).symm (mkJ_get q X k hkz))
        have hat := mix_at (mkJ q X) X k hkz (by rw [mkJ_len]; omega) hkm
        obtain ⟨L, hL⟩ : ∃ L, L = (mkJ q X).take k ++ X.drop k := ⟨_, rfl⟩
        have hkL : k < L.length := by rw [hL]; exact hkm
        have hatL : L[k] = X[k] := by simp only [hL]; exact hat
        rw [← hL] at hown hset HM
        obtain ⟨x, hx⟩ : ∃ x, x = X[k] := ⟨_, rfl⟩
        rw [← hx] at hps hset hxl2 hatL
        rw [← HA.out] at hps hset
        clear hat hx hp1 hxl
        obtain ⟨ag, pg, eg, hpg, _, Aj, cj, c0, c1, c2, _, _, _⟩ := hown.rd'.at_ hkL
        injection eg with eg
        subst eg
        have hpe : pg = ⟨g, k * 3, none⟩ := by rw [← hpg]; unfold Addr.add; split <;> simp_all
        subst hpe
        have hfz : ∀ i, wr.frozen? ⟨g, i, none⟩ = false := by
          obtain ⟨g9, cap9, e9, _, _, _, _, _, hfz⟩ := hown.base HM.out (by omega)
          injection e9 with e9; injection e9 with e9; injection e9 with e9
          rw [e9]; exact hfz
        have f0 := hfz (k * 3)
        have f1 := hfz (k * 3 + 1)
        have hput := hown.putInts (y := ⟨a, (a + 1), x.seen⟩) HM.out hkL hlo (by rw [hatL])
        have hoc : Out lo hi wr ((wr.setCell ⟨g, k * 3, none⟩ (.int .i64 a)).setCell ⟨g, k * 3 + 1, none⟩ (.int .i64 (a + 1))) := by
          exact (Out.setCell (lo := lo) (hi := hi) wr hg1 hg2 (k * 3) (.int .i64 a)).trans (Out.setCell (lo := lo) (hi := hi) _ hg1 hg2 (k * 3 + 1) (.int .i64 (a + 1)))
        have hlt2 : k < (L.set k ⟨a, (a + 1), x.seen⟩).length := by simpa using hkL
        obtain ⟨g2, cap2, u, lo2, hi2, q1, hcell, _, _, hrow, _, hturn⟩ := hput.turn hlt2
        have hg2e : g2 = g := by injection q1 with q1; injection q1 with q1; injection q1 with q1; exact q1.symm
        subst hg2e
        have hrow : Row ((wr.setCell ⟨g2, k * 3, none⟩ (.int .i64 a)).setCell ⟨g2, k * 3 + 1, none⟩ (.int .i64 (a + 1))) lo2 hi2 3 u (ivs x.seen) := by simpa using hrow
        obtain ⟨A9, c9, rfl, _, _, _⟩ := hrow.rd (ivs_len x.seen)
        have HT := Lib.hid hturn
        have HO := Lib.hid hoc
        have HROW := Lib.hid hrow
        have e1 : IntKind.i64.wrap (a + 1) = a + 1 := by rw [IntWalk.i64_in _ (by omega)]
        have e2 : IntKind.i64.wrap (a + 1 + 1) = a + 2 := by rw [IntWalk.i64_in _ (by omega)]; omega
        clear hown hput hoc hrow hpg q1 hL hturn
        go_wp2_with fail
        refine (markIntS_any (Lib.hid (ivs_len x.seen)) (by omega) (by omega) (by omega) HROW.out).mono ?_
        rintro e w2 ⟨rfl, hrow2, ho2⟩
        obtain ⟨t1, t2⟩ := HT.out w2 _ ho2 hrow2
        have ht1 : OwnJ w2 lo hi (.slice (some ⟨g2, 0, none⟩) n cap) ((mkJ q X).take (k + 1) ++ X.drop (k + 1)) := by
          rw [← hset.out]
          simpa [mk1J] using t1
        have HF := Lib.hid (And.intro ht1 (hout.trans (HO.out.trans t2)))
        clear t1 t2 ht1 hrow2 ho2
        go_wp2_with fail
        go_roundw
        case rel => exact ⟨k + 1, _, by omega, by go_num, rfl, Lib.hid (by rw [hps.out]; try go_num), HF.out.1, HF.out.2⟩
        case measure => simp [intOf]; omega
      · have e : k = n := by omega
        subst e
        have H4 := Lib.hid hown
        have H5 := Lib.hid hout
        clear hown hout
        go_wp2_with fail
        go_ret
        have ho := H4.out
        rw [List.take_of_length_le (by rw [mkJ_len, hl.out]; omega), List.drop_eq_nil_of_le (by rw [hl.out]; omega), List.append_nil] at ho
        exact ⟨ret_i HA.out, ho, H5.out⟩
end Go.Proofs.Ythkigilegnjglaa
