/- Contracts of the laws' own functions markTeamS, heldTeamS. No conditions but the sizes. -/
import Derived.Test.YthkigilegnjglaaMg9
import Derived.Test.YthkigilegnjglaaMg11
namespace Go.Proofs.Ythkigilegnjglaa
open Go.ChangeShapes Go.WideShapes Go.ChangeAt Go.RowKit
set_option maxRecDepth 100000
/-- What the marks of one are. -/
def mk1T (a : Int) (n : Nat) : Tm := ⟨a, (a + 1), (a + 2), (a + 3), (a + 4), imks (a + 5) n⟩
def mkbT (q : Int) (X : List Tm) (i : Nat) : Int := q + 5 * (i : Int) + (psum (X.map Tm.met) i : Int)
def mkT (q : Int) (X : List Tm) : List Tm := (List.range X.length).map fun (i : Nat) => mk1T (mkbT q X i) (((X.map Tm.met)).getD i []).length
theorem mkT_len (q : Int) (X : List Tm) : (mkT q X).length = X.length := by simp [mkT]
theorem mkT_get (q : Int) (X : List Tm) (k : Nat) (h : k < X.length) : (mkT q X)[k]? = some (mk1T (mkbT q X k) X[k].met.length) := by
  simp [mkT, h, List.getD]
theorem mkbT_succ (q : Int) (X : List Tm) (k : Nat) (h : k < X.length) : mkbT q X (k + 1) = mkbT q X k + 5 + (X[k].met.length : Int) := by
  unfold mkbT
  rw [Tm_mets_get h]
  omega
theorem mkbT_zero (q : Int) (X : List Tm) : mkbT q X 0 = q := by
  unfold mkbT; rw [psum_zero]; omega
def MarkedT (q : Int) (lo hi : Nat) (v : Value) (X : List Tm) (w : World) (e : Ending) (w' : World) : Prop := e = .returned (.int .i64 q) ∧ OwnT w' lo hi v X ∧ Out lo hi w w'
set_option maxHeartbeats 4000000 in
theorem markTeamS_any {w : World} {lo hi n : Nat} {v : Value} {q : Int} {X : List Tm} (hl : Hid (X.length = n)) (hn : n ≤ 1099511627776) (ht : psum (X.map Tm.met) n ≤ 1000000000000) (h0 : 0 ≤ q) (hq : q ≤ 100000000000000) (hlo : lo ≤ hi) (h : OwnT w lo hi v X) :
    Calls Try.prog 34 #[v, .int .i64 q] w (MarkedT (mkbT q X n) lo hi v (mkT q X) w) := by
  by_cases hz : n = 0
  · subst hz
    have hX : X = [] := List.eq_nil_of_length_eq_zero hl.out
    subst hX
    obtain ⟨A, c, rfl, _, _, _⟩ := h.rd (n := 0) rfl
    have HR := Lib.hid h
    clear h
    go_enter Try.func34, Try.ntmps34
    go_wp2_with fail
    go_loopw [1, 5] (fun m i wr => i = .int .i64 0 ∧ m = .int .i64 q ∧ wr = w) (fun _ _ _ => 0)
    case atStart => exact ⟨rfl, rfl, rfl⟩
    case round =>
      obtain ⟨rfl, rfl, rfl⟩ := hrel
      go_wp2_with fail
      go_ret
      exact ⟨ret_i (mkbT_zero q []).symm, by simpa [mkT] using HR.out, Out.refl⟩
  · obtain ⟨g, cap, rfl, hg1, hg2, _, _, _, _⟩ := h.base hl.out (by omega)
    have HR := Lib.hid h
    have HZ := Lib.hid (mkbT_zero q X)
    clear h
    go_enter Try.func34, Try.ntmps34
    go_wp2_with fail
    go_loopw [1, 5] (fun m i wr => ∃ (k : Nat) (a : Int), k ≤ n ∧ i = .int .i64 k ∧ m = .int .i64 a ∧ Hid (a = mkbT q X k) ∧ OwnT wr lo hi (.slice (some ⟨g, 0, none⟩) n cap) ((mkT q X).take k ++ X.drop k) ∧ Out lo hi w wr) (fun _ i _ => n - (intOf i).toNat)
    case atStart => exact ⟨0, q, Nat.zero_le _, rfl, rfl, Lib.hid HZ.out.symm, by simpa using HR.out, Out.refl⟩
    case round =>
      obtain ⟨k, a, hk, rfl, rfl, HA, hown, hout⟩ := hrel
      have hml := Lib.hid (mix_len (mkT q X) X k (mkT_len q X).symm)
      have hmx : ((mkT q X).take k ++ X.drop k).length = n := by rw [hml.out, mkT_len, hl.out]
      have HM := Lib.hid hmx
      clear hmx
      by_cases hlt : k < n
      · have hkz : k < X.length := by rw [hl.out]; exact hlt
        have hkm : k < ((mkT q X).take k ++ X.drop k).length := by rw [HM.out]; exact hlt
        have hps := Lib.hid (mkbT_succ q X k hkz)
        have hxl := Tm_mets_mem hkz
        have hp1 : psum (X.map Tm.met) k ≤ psum (X.map Tm.met) n := psum_mono _ _ _ hk
        have ha0 : 0 ≤ a := by rw [HA.out]; unfold mkbT; omega
        have ha1 : a ≤ 200000000000000 := by rw [HA.out]; unfold mkbT; omega
        have hxl2 : X[k].met.length ≤ 1000000000000 := by rw [hl.out] at hxl; omega
        have hset := Lib.hid (set_mixG (mkT q X) X k _ (by rw [mkT_len]; exact hkz) (mkT_len q X).symm (mkT_get q X k hkz))
        have hat := mix_at (mkT q X) X k hkz (by rw [mkT_len]; omega) hkm
        obtain ⟨L, hL⟩ : ∃ L, L = (mkT q X).take k ++ X.drop k := ⟨_, rfl⟩
        have hkL : k < L.length := by rw [hL]; exact hkm
        have hatL : L[k] = X[k] := by simp only [hL]; exact hat
        rw [← hL] at hown hset HM
        obtain ⟨x, hx⟩ : ∃ x, x = X[k] := ⟨_, rfl⟩
        rw [← hx] at hps hset hxl2 hatL
        rw [← HA.out] at hps hset
        clear hat hx hp1 hxl
        obtain ⟨ag, pg, eg, hpg, _, Aj, cj, c0, c1, c2, c3, c4, c5, _, _, _⟩ := hown.rd'.at_ hkL
        injection eg with eg
        subst eg
        have hpe : pg = ⟨g, k * 6, none⟩ := by rw [← hpg]; unfold Addr.add; split <;> simp_all
        subst hpe
        have hfz : ∀ i, wr.frozen? ⟨g, i, none⟩ = false := by
          obtain ⟨g9, cap9, e9, _, _, _, _, _, hfz⟩ := hown.base HM.out (by omega)
          injection e9 with e9; injection e9 with e9; injection e9 with e9
          rw [e9]; exact hfz
        have f0 := hfz (k * 6)
        have f1 := hfz (k * 6 + 1)
        have f2 := hfz (k * 6 + 2)
        have f3 := hfz (k * 6 + 3)
        have f4 := hfz (k * 6 + 4)
        have hput := hown.putInts (y := ⟨a, (a + 1), (a + 2), (a + 3), (a + 4), x.met⟩) HM.out hkL hlo (by rw [hatL])
        have hoc : Out lo hi wr (((((wr.setCell ⟨g, k * 6, none⟩ (.int .i64 a)).setCell ⟨g, k * 6 + 1, none⟩ (.int .i64 (a + 1))).setCell ⟨g, k * 6 + 2, none⟩ (.int .i64 (a + 2))).setCell ⟨g, k * 6 + 3, none⟩ (.int .i64 (a + 3))).setCell ⟨g, k * 6 + 4, none⟩ (.int .i64 (a + 4))) := by
          exact ((((Out.setCell (lo := lo) (hi := hi) wr hg1 hg2 (k * 6) (.int .i64 a)).trans (Out.setCell (lo := lo) (hi := hi) _ hg1 hg2 (k * 6 + 1) (.int .i64 (a + 1)))).trans (Out.setCell (lo := lo) (hi := hi) _ hg1 hg2 (k * 6 + 2) (.int .i64 (a + 2)))).trans (Out.setCell (lo := lo) (hi := hi) _ hg1 hg2 (k * 6 + 3) (.int .i64 (a + 3)))).trans (Out.setCell (lo := lo) (hi := hi) _ hg1 hg2 (k * 6 + 4) (.int .i64 (a + 4)))
        have hlt2 : k < (L.set k ⟨a, (a + 1), (a + 2), (a + 3), (a + 4), x.met⟩).length := by simpa using hkL
        obtain ⟨g2, cap2, u, lo2, hi2, q1, hcell, _, _, hrow, _, hturn⟩ := hput.turn hlt2
        have hg2e : g2 = g := by injection q1 with q1; injection q1 with q1; injection q1 with q1; exact q1.symm
        subst hg2e
        have hrow : Row (((((wr.setCell ⟨g2, k * 6, none⟩ (.int .i64 a)).setCell ⟨g2, k * 6 + 1, none⟩ (.int .i64 (a + 1))).setCell ⟨g2, k * 6 + 2, none⟩ (.int .i64 (a + 2))).setCell ⟨g2, k * 6 + 3, none⟩ (.int .i64 (a + 3))).setCell ⟨g2, k * 6 + 4, none⟩ (.int .i64 (a + 4))) lo2 hi2 3 u (ivs x.met) := by simpa using hrow
        obtain ⟨A9, c9, rfl, _, _, _⟩ := hrow.rd (ivs_len x.met)
        have HT := Lib.hid hturn
        have HO := Lib.hid hoc
        have HROW := Lib.hid hrow
        have e1 : IntKind.i64.wrap (a + 1) = a + 1 := by rw [IntWalk.i64_in _ (by omega)]
        have e2 : IntKind.i64.wrap (a + 1 + 1) = a + 2 := by rw [IntWalk.i64_in _ (by omega)]; omega
        have e3 : IntKind.i64.wrap (a + 2 + 1) = a + 3 := by rw [IntWalk.i64_in _ (by omega)]; omega
        have e4 : IntKind.i64.wrap (a + 3 + 1) = a + 4 := by rw [IntWalk.i64_in _ (by omega)]; omega
        have e5 : IntKind.i64.wrap (a + 4 + 1) = a + 5 := by rw [IntWalk.i64_in _ (by omega)]; omega
        clear hown hput hoc hrow hpg q1 hL hturn
        go_wp2_with fail
        refine (markIntS_any (Lib.hid (ivs_len x.met)) (by omega) (by omega) (by omega) HROW.out).mono ?_
        rintro e w2 ⟨rfl, hrow2, ho2⟩
        obtain ⟨t1, t2⟩ := HT.out w2 _ ho2 hrow2
        have ht1 : OwnT w2 lo hi (.slice (some ⟨g2, 0, none⟩) n cap) ((mkT q X).take (k + 1) ++ X.drop (k + 1)) := by
          rw [← hset.out]
          simpa [mk1T] using t1
        have HF := Lib.hid (And.intro ht1 (hout.trans (HO.out.trans t2)))
        clear t1 t2 ht1 hrow2 ho2
        go_wp2_with fail
        go_roundw
        case rel => exact ⟨k + 1, _, by omega, by go_num, rfl, Lib.hid (by rw [hps.out]; try go_num), HF.out.1, HF.out.2⟩
        case measure => simp [intOf]; omega
      · have e : k = n := by omega
        subst e
        have H4 := Lib.hid hown
        have H5 := Lib.hid hout
        clear hown hout
        go_wp2_with fail
        go_ret
        have ho := H4.out
        rw [List.take_of_length_le (by rw [mkT_len, hl.out]; omega), List.drop_eq_nil_of_le (by rw [hl.out]; omega), List.append_nil] at ho
        exact ⟨ret_i HA.out, ho, H5.out⟩
set_option maxHeartbeats 4000000 in
theorem heldTeamS_any {w : World} {n c : Nat} {A : Option Addr} {q : Int} {X : List Tm} (hl : Hid (X.length = n)) (hn : n ≤ 1099511627776) (ht : psum (X.map Tm.met) n ≤ 1000000000000) (h0 : 0 ≤ q) (hq : q ≤ 100000000000000) (hr : RdT w w.heap.size A (mkT q X)) :
    Calls Try.prog 35 #[.slice A n c, .int .i64 q] w (fun e w' => e = .returned (.int .i64 (mkbT q X n)) ∧ w = w') := by
  have HZ := Lib.hid (mkbT_zero q X)
  go_enter Try.func35, Try.ntmps35
  go_wp2_with fail
  go_loopw [1, 5] (fun m i wr => ∃ (k : Nat) (a : Int), k ≤ n ∧ i = .int .i64 k ∧ m = .int .i64 a ∧ Hid (a = mkbT q X k) ∧ wr = w) (fun _ i _ => n - (intOf i).toNat)
  case atStart => exact ⟨0, q, Nat.zero_le _, rfl, rfl, Lib.hid HZ.out.symm, rfl⟩
  case round =>
    obtain ⟨k, a, hk, rfl, rfl, HA, rfl⟩ := hrel
    by_cases hlt : k < n
    · have hkz : k < X.length := by rw [hl.out]; exact hlt
      have hps := Lib.hid (mkbT_succ q X k hkz)
      have hxl := Tm_mets_mem hkz
      have hp1 : psum (X.map Tm.met) k ≤ psum (X.map Tm.met) n := psum_mono _ _ _ hk
      have ha0 : 0 ≤ a := by rw [HA.out]; unfold mkbT; omega
      have ha1 : a ≤ 200000000000000 := by rw [HA.out]; unfold mkbT; omega
      have hxl2 : X[k].met.length ≤ 1000000000000 := by rw [hl.out] at hxl; omega
      obtain ⟨ad, hA, hab, Aj, cj, c0, c1, c2, c3, c4, c5, _, _, hrd⟩ := hr k _ (mkT_get q X k hkz)
      subst hA
      obtain ⟨p, hp⟩ : ∃ p, ad.add (k * 6) = p := ⟨_, rfl⟩
      rw [hp] at c0 c1 c2 c3 c4 c5 hab
      rw [← HA.out] at c0 c1 c2 c3 c4 c5 hrd hps
      obtain ⟨x, hx⟩ : ∃ x, x = X[k] := ⟨_, rfl⟩
      rw [← hx] at c0 c1 c2 c3 c4 c5 hps hxl2 hrd
      simp only [mk1T, imks_len] at c0 c1 c2 c3 c4 c5 hrd
      have i0 : (0 : Int) ≤ (k : Int) := by omega
      have i1 : (k : Int) < (n : Int) := by omega
      have e1 : IntKind.i64.wrap (a + 1) = a + 1 := by rw [IntWalk.i64_in _ (by omega)]
      have e2 : IntKind.i64.wrap (a + 1 + 1) = a + 2 := by rw [IntWalk.i64_in _ (by omega)]; omega
      have e3 : IntKind.i64.wrap (a + 2 + 1) = a + 3 := by rw [IntWalk.i64_in _ (by omega)]; omega
      have e4 : IntKind.i64.wrap (a + 3 + 1) = a + 4 := by rw [IntWalk.i64_in _ (by omega)]; omega
      have e5 : IntKind.i64.wrap (a + 4 + 1) = a + 5 := by rw [IntWalk.i64_in _ (by omega)]; omega
      clear hx hp1 hxl
      go_wp2_with fail
      refine (heldIntS_any (n := x.met.length) (by omega) (by omega) (by omega) hrd).mono ?_
      rintro e w2 ⟨rfl, rfl⟩
      go_wp2_with fail
      go_roundw
      case rel => exact ⟨k + 1, _, by omega, by go_num, rfl, Lib.hid (by rw [hps.out]; try go_num), trivial⟩
      case measure => simp [intOf]; omega
    · have e : k = n := by omega
      subst e
      go_wp2_with fail
      go_ret
      exact ⟨ret_i HA.out, rfl⟩
end Go.Proofs.Ythkigilegnjglaa
