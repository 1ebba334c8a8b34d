/- Contracts of the code of chapter 15: inTurn, slices.Reverse of two elements, TurnOrder. Conditions: ints of 64 bits; the slices have at most 2^40 elements. -/
import Derived.Test.YtignchefkihdaaaTurM
import Derived.Test.YtignchefkihdaaaSpk
import Derived.Test.YtignchefkihdaaaStep
import Derived.Test.YtignchefkihdaaaSets
import Derived.Deep.RegionLaw
namespace Go.Proofs.Ytignchefkihdaaa
open Go.ChangeShapes Go.WideShapes Go.ChangeAt Go.RowKit
set_option maxRecDepth 100000
theorem mrg_z {a b : List Int} {k : Nat} (ha : k < a.length) (hb : k < b.length) : mrgL a b (k + 1) = mrgL a b k ++ [a[k], b[k]] := by rw [mrg_succ, getD_z ha, getD_z hb]
set_option maxHeartbeats 4000000 in
theorem inTurn_any {w : World} {A A' : Option Addr} {n c c' : Nat} {S Z : List Int} (hl : Hid (S.length = n)) (hn : n ≤ 6) (hl' : Hid (Z.length = n)) (hr : Rd w w.heap.size A (ivs S)) (hr' : Rd w w.heap.size A' (ivs Z)) :
    Calls Try.prog 112 #[.slice A n c, .slice A' n c'] w (Fresh 3 (ivs (mrgL S Z n)) w) := by
  obtain ⟨i0, hi, hz0, hz1, hz2⟩ := info_parts IntS_info
  have hb0 : Below w.heap.size w (w.alloc (Obj.cells #[] 3)) := (Below.refl _ _).alloc (Nat.le_refl _) _
  have hrow0 : Row (w.alloc (Obj.cells #[] 3)) w.heap.size (w.alloc (Obj.cells #[] 3)).heap.size 3 (.slice (some ⟨w.heap.size, 0, none⟩) 0 0) (ivs (mrgL S Z 0)) := (Row.made (w := w) w.heap.size #[] 0 3 (Nat.le_refl _) rfl (Nat.zero_le _)).wide (Nat.le_refl _) (by simp)
  go_enter Try.func112, Try.ntmps112
  go_wp2_with fail
  go_loopw [5, 10] (fun s i wr => ∃ k : Nat, k ≤ n ∧ i = .int .i64 k ∧ Row wr w.heap.size wr.heap.size 3 s (ivs (mrgL S Z k)) ∧ Below w.heap.size w wr) (fun _ i _ => n - (intOf i).toNat)
  case atStart => exact ⟨0, Nat.zero_le _, rfl, hrow0, hb0⟩
  case round =>
    obtain ⟨k, hk, rfl, hrow, hb⟩ := hrel
    clear hrow0 hb0
    have hsz := hb.size
    by_cases hlt : k < n
    · have hkS : k < S.length := by rw [hl.out]; exact hlt
      have hkZ : k < Z.length := by rw [hl'.out]; exact hlt
      obtain ⟨ad, rfl, hab, hc0⟩ := ivs_at ((hr.below hb).more hsz) hkS
      obtain ⟨ad', rfl, hab', hc1⟩ := ivs_at ((hr'.below hb).more hsz) hkZ
      have i0' : (0 : Int) ≤ (k : Int) := by omega
      have i1' : (k : Int) < (n : Int) := by omega
      have HS := Lib.hid (mrg_z hkS hkZ)
      have hPl : (mrgL S Z k).length ≤ 12 := by rw [mrg_len]; omega
      obtain ⟨x, hx⟩ : ∃ y, y = S[k] := ⟨_, rfl⟩
      obtain ⟨y, hy⟩ : ∃ y, y = Z[k] := ⟨_, rfl⟩
      rw [← hx] at hc0 HS
      rw [← hy] at hc1 HS
      obtain ⟨P, hP⟩ : ∃ P, mrgL S Z k = P := ⟨_, rfl⟩
      rw [hP] at hrow HS hPl
      have b3 : Below wr.heap.size wr (wr.alloc (Obj.cells #[.int .i64 x, .int .i64 y] 3)).drew := (alloc_new wr _).drew
      have HROW := Lib.hid ((hrow.new b3).wide (Nat.le_refl _) b3.size)
      have HMADE := Lib.hid (show Rd (wr.alloc (Obj.cells #[.int .i64 x, .int .i64 y] 3)).drew _ _ [.int .i64 x, .int .i64 y] from Rd.made wr #[.int .i64 x, .int .i64 y] 3)
      have L1 := Lib.hid (show (ivs P).length + 2 ≤ maxLen ∧ ((ivs P).length + 2) * 8 ≤ 140737488355328 by rw [ivs_len]; unfold maxLen; omega)
      have HB := Lib.hid (hb.trans (b3.mono hsz))
      have HSZ := Lib.hid hsz
      clear hx hy hP hrow b3 hb
      go_wp2_with fail
      go_region_law ((refine step_app (m := 2) (c := 2) (news := [.int .i64 x, .int .i64 y]) (B := wr.heap.size + 1) (A := some ⟨wr.heap.size, 0, none⟩) rfl (.tmp 13) (.tmp 22) 25 rfl 3 i0 _ 8 Try.underlying25 hi hz0 hz1 hz2 rfl rfl rfl HROW.out rfl HMADE.out (by simp [Value.oneCell']) L1.out.1 L1.out.2 (by have := HSZ.out; simp; omega) ?_; intro v9 w9 hrow9 ho9))
      all_goals
        have hb9 := HB.out.trans (ho9.below (Nat.le_refl _) (by have := HSZ.out; simp; omega))
        go_wp2
        go_roundw
        case rel => exact ⟨k + 1, by omega, by go_num, by rw [HS.out, show ivs (P ++ [x, y]) = ivs P ++ [.int .i64 x, .int .i64 y] by simp [ivs]]; exact hrow9, hb9⟩
        case measure => simp [intOf]; omega
    · have e : k = n := by omega
      subst e
      go_wp2_with fail
      go_ret
      exact ⟨_, rfl, hrow, hb⟩
set_option maxHeartbeats 4000000 in
theorem reverse2_any {w : World} {g o c : Nat} {x y : Int} (h0 : w.cell? ⟨g, o, none⟩ = some (.int .i64 x)) (h1 : w.cell? ⟨g, o + 1, none⟩ = some (.int .i64 y)) (f : ∀ i, w.frozen? ⟨g, i, none⟩ = false) :
    Calls Try.prog 113 #[.slice (some ⟨g, o, none⟩) 2 c] w (fun e w' => (∃ v, e = .returned v) ∧ w' = ((w.setCell ⟨g, o, none⟩ (.int .i64 y)).setCell ⟨g, o + 1, none⟩ (.int .i64 x)).drew) := by
  have f0 := f o
  have f1 := f (o + 1)
  go_enter Try.func113, Try.ntmps113
  go_wp2_with fail
  go_loopw [2, 3] (fun i j wr => (i = .int .i64 0 ∧ j = .int .i64 1 ∧ wr = w) ∨ (i = .int .i64 1 ∧ j = .int .i64 0 ∧ wr = ((w.setCell ⟨g, o, none⟩ (.int .i64 y)).setCell ⟨g, o + 1, none⟩ (.int .i64 x)).drew)) (fun i _ _ => 1 - (intOf i).toNat)
  case atStart => exact .inl ⟨rfl, rfl, rfl⟩
  case round =>
    rcases hrel with ⟨rfl, rfl, rfl⟩ | ⟨rfl, rfl, rfl⟩
    · go_wp2_with fail
      go_region
      go_wp2
      go_roundw
      case rel => exact .inr ⟨rfl, rfl, by first | rfl | trivial⟩
      case measure => simp [intOf]
    · go_wp2_with fail
      go_end0
      exact ⟨⟨_, rfl⟩, rfl⟩
theorem rdSS_tu {w : World} {x y : List Int} {A1 A2 : Option Addr} {c1 c2 n1 n2 : Nat} (e1 : x.length = n1) (e2 : y.length = n2) (h1 : Rd w w.heap.size A1 (ivs x)) (h2 : Rd w w.heap.size A2 (ivs y)) (m1 : n1 ≤ c1) (m2 : n2 ≤ c2) (k1 : c1 ≤ maxLen) (k2 : c2 ≤ maxLen) :
    RdSS (w.alloc (Obj.cells #[.slice A1 n1 c1, .slice A2 n2 c2] 25)) (w.heap.size + 1) (some ⟨w.heap.size, 0, none⟩) [x, y] := by
  subst e1 e2
  have hb : Below w.heap.size w (w.alloc (Obj.cells #[.slice A1 x.length c1, .slice A2 y.length c2] 25)) := (Below.refl _ _).alloc (Nat.le_refl _) _
  have hm := Rd.made w #[.slice A1 x.length c1, .slice A2 y.length c2] 25
  intro k z hz
  match k, hz with
  | 0, hz =>
    simp at hz
    subst hz
    obtain ⟨ad, e, hl, hc⟩ := hm 0 _ rfl
    exact ⟨ad, A1, c1, e, hl, hc, m1, k1, (h1.below hb).more (Nat.le_succ _)⟩
  | 1, hz =>
    simp at hz
    subst hz
    obtain ⟨ad, e, hl, hc⟩ := hm 1 _ rfl
    exact ⟨ad, A2, c2, e, hl, hc, m2, k2, (h2.below hb).more (Nat.le_succ _)⟩
  | k + 2, hz => simp at hz
theorem rowSet1 {w : World} {lo hi : Nat} {t : TypeId} {g n c i : Nat} {xs : List Value} {v : Value} (h : Row w lo hi t (.slice (some ⟨g, 0, none⟩) n c) xs) : Row (w.setCell ⟨g, i, none⟩ v) lo hi t (.slice (some ⟨g, 0, none⟩) n c) (xs.set i v) := by
  obtain ⟨⟨h1, h2⟩, h3⟩ := h
  rcases h2 with ⟨e, hn⟩ | ⟨g', cap, cur, e, hb, hgg, hnc, hcm, hcs, htk⟩
  · injection e with e1; cases e1
  · injection e with e1 e2 e3
    injection e1 with e1
    injection e1 with e1
    subst e1 e3
    have hst := (World.ownsRow.stored (w := w) (base := lo) (e := t) (size := 1) (g := g) (n := n) (cap := c) (xs := xs) (e2 ▸ ⟨h1, .inr ⟨g, c, cur, rfl, hb, hgg, hnc, hcm, hcs, htk⟩⟩) i v).1
    refine ⟨?_, fun g' hg' => h3 g' hg'⟩
    rw [List.length_set]
    exact e2 ▸ hst
theorem rowFroz1 {w : World} {lo hi : Nat} {t : TypeId} {g n c : Nat} {xs : List Value} (h : Row w lo hi t (.slice (some ⟨g, 0, none⟩) n c) xs) (i : Nat) : w.frozen? ⟨g, i, none⟩ = false := by
  obtain ⟨⟨h1, h2⟩, h3⟩ := h
  rcases h2 with ⟨e, hn⟩ | ⟨g', cap, cur, e, hb, hgg, _⟩
  · injection e with e1; cases e1
  · injection e with e1 e2 e3
    injection e1 with e1
    injection e1 with e1
    subst e1
    exact frozen_of_row w g i cur t hgg
theorem rowBase1 {w : World} {lo hi n : Nat} {t : TypeId} {v : Value} {xs : List Value} (h : Row w lo hi t v xs) (hn : xs.length = n) (hp : 0 < n) : ∃ g c, v = .slice (some ⟨g, 0, none⟩) n c ∧ lo ≤ g ∧ g < hi ∧ g < w.heap.size ∧ n ≤ c ∧ c ≤ maxLen := by
  subst hn
  rcases h.1.2 with ⟨rfl, hn⟩ | ⟨g, cap, cur, rfl, hb, hgg, hnc, hcm, _⟩
  · omega
  · exact ⟨g, cap, rfl, hb, h.2 g rfl, (Array.getElem?_eq_some_iff.1 hgg).1, hnc, hcm⟩
theorem rowCell1 {w : World} {lo hi g n c i : Nat} {t : TypeId} {xs : List Value} {u : Value} (h : Row w lo hi t (.slice (some ⟨g, 0, none⟩) n c) xs) (hi' : xs[i]? = some u) : w.cell? ⟨g, i, none⟩ = some u := by
  obtain ⟨ad, e, _, hc⟩ := h.rd' i u hi'
  injection e with e
  subst e
  have e1 : (⟨g, 0, none⟩ : Addr).add i = ⟨g, i, none⟩ := by unfold Addr.add; split <;> simp_all
  rwa [e1] at hc
theorem turn_last {P : List Int} {x y : Int} {p : Nat} (hp : P.length = p) : ((ivs (P ++ [x, y])).set p (.int .i64 y)).set (p + 1) (.int .i64 x) = ivs (P ++ [y, x]) := by
  subst hp
  have e : ivs (P ++ [x, y]) = ivs P ++ [.int .i64 x, .int .i64 y] := by simp [ivs]
  have e2 : ivs (P ++ [y, x]) = ivs P ++ [.int .i64 y, .int .i64 x] := by simp [ivs]
  have hl : (ivs P).length = P.length := ivs_len P
  rw [e, e2, List.set_append_right _ _ (by omega), List.set_append_right _ _ (by omega), hl]
  simp
theorem tl_last (g p c : Nat) (h : p + 2 ≤ c) : tlA (some ⟨g, 0, none⟩) p c = some ⟨g, p, none⟩ := by
  unfold tlA
  rw [if_neg (by omega)]
  have e1 : (⟨g, 0, none⟩ : Addr).add p = ⟨g, p, none⟩ := by unfold Addr.add; split <;> simp_all
  rw [Option.map_some, e1]
set_option maxHeartbeats 8000000 in
theorem impTurnOrder_any {w : World} {A A' : Option Addr} {n c n' c' : Nat} {S Z : List Int} (hl : Hid (S.length = n)) (hn : n ≤ 1099511627776) (hl' : Hid (Z.length = n')) (hn' : n' ≤ 1099511627776) (hc : n ≤ c) (hcm : c ≤ maxLen) (hc' : n' ≤ c') (hcm' : c' ≤ maxLen) (hr : Rd w w.heap.size A (ivs S)) (hr' : Rd w w.heap.size A' (ivs Z)) (hI : Hid (∀ a ∈ S, InI a)) (hJ : Hid (∀ a ∈ Z, InI a)) :
    Calls Try.prog 46 #[.slice A n c, .slice A' n' c'] w (Fresh 3 (ivs (turX S Z)) w) := by
  obtain ⟨i0, hi, hz0, hz1, hz2⟩ := info_parts IntS_info
  have zz : ∀ w, (Go.sizeOf 3).run Try.prog w = .ok 1 w := fun w => by simp [sizeOf, typeInfo, hi, hz1]
  by_cases hnn : n' = n
  · subst hnn
    have hne : ((n' : Int) != (n' : Int)) = false := by simp
    by_cases hr6 : 1 ≤ n' ∧ n' ≤ 6
    · obtain ⟨n1, n6⟩ := hr6
      have H16 := Lib.hid (show inr (n' : Int) 1 6 = true from inr_t (by omega) (by omega))
      obtain ⟨q, hq⟩ : ∃ q, n' = q + 1 := ⟨n' - 1, by omega⟩
      obtain ⟨N, hN⟩ : ∃ N, N = 2 * n' := ⟨_, rfl⟩
      obtain ⟨p, hp⟩ : ∃ p, p = 2 * q := ⟨_, rfl⟩
      have ww1 : IntKind.i64.wrap (2 * (n' : Int)) = (N : Int) := (IntWalk.i64_in _ (by omega)).trans (by omega)
      have ww2 : IntKind.i64.wrap ((N : Int) - 2) = (p : Int) := (IntWalk.i64_in _ (by omega)).trans (by omega)
      have HNP := Lib.hid (show N = p + 2 by omega)
      have HQ := Lib.hid hq
      have HPQ := Lib.hid hp
      have HNN := Lib.hid hN
      have hb1 : Below w.heap.size w (w.alloc (Obj.cells #[.slice A n' c, .slice A' n' c'] 25)) := alloc_new _ _
      have hr2 := rdSS_tu hl.out hl'.out hr hr' hc hc' hcm hcm'
      obtain ⟨W1, hW⟩ : ∃ v : World, w.alloc (Obj.cells #[.slice A n' c, .slice A' n' c'] 25) = v := ⟨_, rfl⟩
      have hsz : W1.heap.size = w.heap.size + 1 := by rw [← hW]; simp
      rw [hW] at hb1 hr2
      rw [← hsz] at hr2
      have HW := Lib.hid hW
      have HR2 := Lib.hid hr2
      have HR := Lib.hid (And.intro hr hr')
      clear hW hr2 hsz hq hN hp hr hr'
      go_enter Try.func46, Try.ntmps46
      go_wp2_with fail
      refine (inRange_any _ _ _ _).mono ?_
      rintro e u ⟨rfl, rfl⟩
      rw [H16.out]
      go_wp2_with fail
      rw [HW.out]
      refine (speakersOf_any (X := [S, Z]) (n := 2) (Lib.hid rfl) (by omega) (Lib.hid (by intro x hx; simp at hx; rcases hx with rfl | rfl; exact hI.out; exact hJ.out)) (Lib.hid (by have h1 := hl.out; have h2 := hl'.out; simp; omega)) HR2.out).mono ?_
      rintro e w2 ⟨rfl, hmm, r⟩
      have hfl : ([S, Z] : List (List Int)).flatten = S ++ Z := by simp
      rw [hfl] at hmm
      have hb2 := hb1.trans (r.mono hb1.size)
      obtain ⟨m, hrun, hle, hnd⟩ := hmm.len 3
      have hSZ : (S ++ Z).length = N := by rw [List.length_append, hl.out, hl'.out, HNN.out]; omega
      rw [hSZ] at hle hnd
      have HR3 := Lib.hid (And.intro ((HR.out.1.below hb2).more hb2.size) ((HR.out.2.below hb2).more hb2.size))
      clear hmm hSZ r hfl
      by_cases hdup : (S ++ Z).Nodup
      · have hmN := hnd.2 hdup
        subst hmN
        have hmb : ((m : Int) != (m : Int)) = false := by simp
        have HT := Lib.hid (show turX S Z = ordP S Z S.length S.length from turX_yes (by rw [turO_nd (by rw [hl.out, hl'.out]) (by rw [hl.out]; exact n1) (by rw [hl.out]; exact n6)]; exact decide_eq_true hdup))
        clear hnd hle hdup
        go_wp2_with fail
        refine (inTurn_any hl n6 hl' HR3.out.1 HR3.out.2).mono ?_
        rintro e w3 ⟨v, rfl, hrow, r⟩
        have hb3 := hb2.trans (r.mono hb2.size)
        have hqS : q < S.length := by rw [hl.out, HQ.out]; exact Nat.lt_succ_self _
        have hqZ : q < Z.length := by rw [hl'.out, HQ.out]; exact Nat.lt_succ_self _
        have HO := Lib.hid (show ordP S Z S.length S.length = mrgL S Z q ++ [Z[q], S[q]] by rw [hl.out, HQ.out, ord_last, getD_z hqS, getD_z hqZ])
        have HMQ := Lib.hid (show (mrgL S Z q).length = p by rw [mrg_len, HPQ.out])
        rw [HQ.out, mrg_z hqS hqZ] at hrow
        obtain ⟨x, hx⟩ : ∃ y, y = S[q] := ⟨_, rfl⟩
        obtain ⟨y, hy⟩ : ∃ y, y = Z[q] := ⟨_, rfl⟩
        rw [← hx, ← hy] at hrow HO
        obtain ⟨P, hP⟩ : ∃ P, mrgL S Z q = P := ⟨_, rfl⟩
        rw [hP] at hrow HO HMQ
        obtain ⟨g, cap, rfl, hg0, hg1, hg2, hcap, hcapm⟩ := rowBase1 (n := m) hrow (by rw [ivs_len, List.length_append, HMQ.out, HNP.out]; rfl) (by rw [HNP.out]; omega)
        have e1 : ivs (P ++ [x, y]) = ivs P ++ [.int .i64 x, .int .i64 y] := by simp [ivs]
        have hlP : (ivs P).length = p := by rw [ivs_len, HMQ.out]
        have hc0 := rowCell1 (i := p) (u := .int .i64 x) hrow (by rw [e1, List.getElem?_append_right (by omega), hlP]; simp)
        have hc1 := rowCell1 (i := p + 1) (u := .int .i64 y) hrow (by rw [e1, List.getElem?_append_right (by omega), hlP]; simp)
        have hfz := fun i => rowFroz1 hrow i
        have HNR := Lib.hid ((rowSet1 (i := p + 1) (v := .int .i64 x) (rowSet1 (i := p) (v := .int .i64 y) hrow)))
        have hsl : ∀ (W : World), (Instr.slice 25 (.slice (some ⟨g, 0, none⟩) m cap) (some (.int .i64 (p : Int))) none none).run Try.prog W = .ok (.slice (some ⟨g, p, none⟩) 2 (cap - p)) W := fun W => by
          have q9 := run_from W 25 3 Try.underlying25 zz (some ⟨g, 0, none⟩) (n := m) (c := cap) (k := p) (by rw [HNP.out]; omega) hcap
          rw [tl_last g p cap (by have := HNP.out; omega), show m - p = 2 by have := HNP.out; omega] at q9
          exact q9
        have HTL := Lib.hid (turn_last (x := x) (y := y) HMQ.out)
        have hg00 : w.heap.size ≤ g := Nat.le_trans hb2.size hg0
        have HG := Lib.hid (And.intro hg0 hg1)
        clear hx hy hP hrow e1 hlP r hg0 hg1 hg2
        go_wp2_with fail
        refine (reverse2_any hc0 hc1 hfz).mono ?_
        rintro e w4 ⟨⟨v9, rfl⟩, rfl⟩
        have hb4 : Below w.heap.size w ((w3.setCell ⟨g, p, none⟩ (.int .i64 y)).setCell ⟨g, p + 1, none⟩ (.int .i64 x)).drew := ((hb3.setCell (p := ⟨g, p, none⟩) hg00 _).setCell (p := ⟨g, p + 1, none⟩) hg00 _).drew
        have HB4 := Lib.hid hb4
        clear hc0 hc1 hfz hsl hb4
        go_wp2_with fail
        go_ret
        refine ⟨_, rfl, ?_, HB4.out⟩
        rw [HT.out, HO.out, ← HTL.out]
        exact (show Row _ _ w3.heap.size _ _ _ from HNR.out).wide hb2.size (by simp [World.setCell])
      · have hmb : ((m : Int) != (N : Int)) = true := by
          have h1 : ¬ m = N := fun e => hdup (hnd.1 e)
          simpa using (show ¬ (m : Int) = (N : Int) by omega)
        have HD := Lib.hid (show turX S Z = [] from turX_no (by rw [turO_nd (by rw [hl.out, hl'.out]) (by rw [hl.out]; exact n1) (by rw [hl.out]; exact n6)]; exact decide_eq_false hdup))
        clear hnd hle hdup
        go_wp2_with fail
        go_ret
        rw [HD.out]
        exact fresh_nil hb2
    · have H16 := Lib.hid (show inr (n' : Int) 1 6 = false by refine inr_f ?_; omega)
      have HD := Lib.hid (show turX S Z = [] from turX_no (turO_big (by rw [hl.out]; exact hr6)))
      go_enter Try.func46, Try.ntmps46
      go_wp2_with fail
      refine (inRange_any _ _ _ _).mono ?_
      rintro e u ⟨rfl, rfl⟩
      rw [H16.out]
      go_wp2_with fail
      go_ret
      rw [HD.out]
      exact fresh_nil (Below.refl _ _)
  · have HD := Lib.hid (show turX S Z = [] from turX_no (turO_len (by rw [hl.out, hl'.out]; exact hnn)))
    have hne : ((n' : Int) != (n : Int)) = true := by simpa using (show ¬ (n' : Int) = (n : Int) by omega)
    go_enter Try.func46, Try.ntmps46
    go_wp2_with fail
    go_ret
    rw [HD.out]
    exact fresh_nil (Below.refl _ _)
end Go.Proofs.Ytignchefkihdaaa
