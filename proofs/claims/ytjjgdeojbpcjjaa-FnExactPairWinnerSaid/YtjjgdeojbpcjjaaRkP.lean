/- Contracts of PlacePoints, the model's and the code's. Condition: the slices have at most 2^40 elements. -/
import Derived.Test.YtjjgdeojbpcjjaaRkW
import Derived.Test.YtjjgdeojbpcjjaaFrjI
namespace Go.Proofs.Ytjjgdeojbpcjjaa
open Go.ChangeShapes Go.WideShapes Go.ChangeAt Go.RowKit
set_option maxRecDepth 100000
theorem pp_in {L : List (List Int)} {n : Nat} (h : ∀ l ∈ L, rkB l n = true) {a : Nat} (ha : a < n) (k : Nat) (hk : k ≤ L.length) : 0 ≤ ppN (L.take k) n a ∧ ppN (L.take k) n a ≤ 7 * (k : Int) := by
  induction k with
  | zero => simp [ppN]
  | succ k ih =>
    rw [pp_snoc L k (by omega)]
    have h1 := ih (by omega)
    have hl := h L[k] (List.getElem_mem _)
    obtain ⟨b1, b2, b3, b4, b5⟩ := rk_parts hl
    have hm := all_of_rk hl (x := (a : Int)) (by omega) (by omega)
    obtain ⟨j, hj, hjl, _⟩ := at_mem hm
    omega
theorem ppL_bad {L : List (List Int)} {N : Int} (h : arB L N = false) : ppL L N = [] := by unfold ppL; rw [h]; rfl
theorem ppL_good {L : List (List Int)} {n : Nat} (h : arB L n = true) : ppL L n = (upI n).map (ppN L n) := by unfold ppL; rw [h]; simp
theorem upI_succ (k : Nat) : upI (k + 1) = upI k ++ [(k : Int)] := by unfold upI; rw [List.range_succ, List.map_append]; rfl
theorem ppM_succ (L : List (List Int)) (n : Int) (k : Nat) : (upI (k + 1)).map (ppN L n) = (upI k).map (ppN L n) ++ [ppN L n k] := by rw [upI_succ, List.map_append]; rfl
set_option maxHeartbeats 4000000 in
theorem specPlacePoints_any {w : World} {A : Option Addr} {n c : Nat} {N : Int} {L : List (List Int)} (hl : Hid (L.length = n)) (hn : n ≤ 1099511627776) (hs : Hid (∀ x ∈ L, x.length ≤ 1099511627776)) (hr : RdSS w w.heap.size A L) :
    Calls Try.prog 20 #[.slice A n c, .int .i64 N] w (Fresh 3 (ivs (ppL L N)) w) := by
  obtain ⟨i0, hi, hz0, hz1, hz2⟩ := info_parts IntS_info
  have hrow0 := Row.made (w := w) w.heap.size #[] 0 3 (Nat.le_refl _) rfl (Nat.zero_le _)
  have hb0 : Below w.heap.size w (w.alloc (Obj.cells #[] 3)) := (Below.refl _ _).alloc (Nat.le_refl _) _
  cases hB : arB L N with
  | false =>
    have HV := Lib.hid (ppL_bad hB)
    have HB := Lib.hid hB
    clear hB
    go_enter Try.func20, Try.ntmps20
    go_wp2_with fail
    go_loopw [5, 6] (fun v i wr => i = .int .i64 0 ∧ v = .slice (some ⟨w.heap.size, 0, none⟩) 0 0 ∧ wr = w.alloc (Obj.cells #[] 3)) (fun _ _ _ => 0)
    case atStart => exact ⟨rfl, rfl, rfl⟩
    case round =>
      obtain ⟨rfl, rfl, rfl⟩ := hrel
      have hr0 := (hr.below hb0).more hb0.size
      by_cases h0 : 0 < N
      · go_wp2_with fail
        refine (specAreRankings_any hl hn hs hr0).mono ?_
        rintro e u ⟨rfl, hb2⟩
        rw [HB.out]
        have hrw := hrow0.wide (Nat.le_refl _) (show w.heap.size + 1 ≤ (w.alloc (Obj.cells #[] 3)).heap.size by simp)
        have HR := Lib.hid ((hrw.new hb2).wide (Nat.le_refl _) hb2.size)
        have HB2 := Lib.hid (hb0.trans (hb2.mono hb0.size))
        clear hrow0 hrw
        go_wp2_with fail
        go_ret
        exact ⟨_, rfl, by rw [HV.out]; exact HR.out, HB2.out⟩
      · have h0' : ¬ (0 : Int) < N := h0
        have HR := Lib.hid (hrow0.wide (Nat.le_refl _) (show w.heap.size + 1 ≤ (w.alloc (Obj.cells #[] 3)).heap.size by simp))
        clear hrow0
        go_wp2_with fail
        go_ret
        exact ⟨_, rfl, by rw [HV.out]; exact HR.out, hb0⟩
  | true =>
    obtain ⟨⟨n1, n2⟩, n3, n4⟩ := ar_parts hB
    obtain ⟨m, rfl⟩ : ∃ m : Nat, N = (m : Int) := ⟨N.toNat, by omega⟩
    have HV := Lib.hid (ppL_good hB)
    have HB := Lib.hid hB
    have HRK := Lib.hid n4
    have hn20 : n ≤ 20 := by rw [← hl.out]; exact n3
    have hm8 : m ≤ 8 := by omega
    clear hB n4 n3
    go_enter Try.func20, Try.ntmps20
    go_wp2_with fail
    go_loopw [5, 6] (fun v i wr => ∃ k : Nat, k ≤ m ∧ i = .int .i64 k ∧ Row wr w.heap.size wr.heap.size 3 v (ivs ((upI k).map (ppN L m))) ∧ Below w.heap.size w wr) (fun _ i _ => m - (intOf i).toNat)
    case atStart => exact ⟨0, Nat.zero_le _, rfl, hrow0.wide (Nat.le_refl _) (by simp), hb0⟩
    case round =>
      obtain ⟨k, hk, rfl, hrow, hbw⟩ := hrel
      have hsz := hbw.size
      clear hrow0 hb0
      by_cases hlt : k < m
      · have hrr := (hr.below hbw).more hsz
        have i0' : (0 : Int) ≤ (k : Int) := by omega
        have i1 : (k : Int) < (m : Int) := by omega
        have HSU := Lib.hid (ppM_succ L m k)
        obtain ⟨ys, hys⟩ : ∃ ys, ys = (upI k).map (ppN L m) := ⟨_, rfl⟩
        have hyl : ys.length ≤ 8 := by rw [hys, List.length_map, upI_len]; omega
        rw [← hys] at hrow HSU
        obtain ⟨wo, hwo⟩ : ∃ u, u = wr := ⟨_, rfl⟩
        subst hwo
        clear hys
        go_wp2_with fail
        refine (specAreRankings_any hl hn hs hrr).mono ?_
        rintro e w3 ⟨rfl, hb3⟩
        rw [HB.out]
        have hb4 := hbw.trans (hb3.mono hsz)
        have hrow3 := hrow.new hb3
        have HROW := Lib.hid (hrow3.wide (Nat.le_refl _) hb3.size)
        clear hrow hrow3
        go_wp2_with fail
        go_loopw [7, 8] (fun sv i wq => ∃ (j : Nat) (z : Int), j ≤ n ∧ i = .int .i64 j ∧ sv = .int .i64 z ∧ Hid (z = ppN (L.take j) m k) ∧ wq = w3) (fun _ i _ => n - (intOf i).toNat)
        case atStart => exact ⟨0, 0, Nat.zero_le _, rfl, rfl, Lib.hid rfl, rfl⟩
        case round =>
          obtain ⟨j, z, hj, rfl, rfl, hz, rfl⟩ := hrel
          by_cases hlj : j < n
          · have hjz : j < L.length := by rw [hl.out]; exact hlj
            obtain ⟨ad, Aj, cj, rfl, hab, hc, hcl, hcm, hrd⟩ := ((hr.below hb4).more hb4.size).at_ hjz
            have hxl := hs.out L[j] (List.getElem_mem _)
            have HPS := Lib.hid (pp_snoc L j hjz m k)
            have hz1 := pp_in HRK.out hlt j (by omega)
            have hz2 := pp_in HRK.out hlt (j + 1) (by omega)
            rw [HPS.out] at hz2
            rw [← hz.out] at hz1 hz2 HPS
            obtain ⟨x, hx⟩ : ∃ x, x = L[j] := ⟨_, rfl⟩
            rw [← hx] at hc hcl hrd hxl HPS hz2
            obtain ⟨p, hp⟩ : ∃ p, atI x k = p := ⟨_, rfl⟩
            rw [hp] at hz2 HPS
            have HP := Lib.hid hp
            have j0 : (0 : Int) ≤ (j : Int) := by omega
            have j1 : (j : Int) < (n : Int) := by omega
            have HZN := Lib.hid (show z + m - 1 - p = ppN (L.take (j + 1)) m k by rw [HPS.out]; omega)
            have w1 : IntKind.i64.wrap (z + (m : Int)) = z + m := IntWalk.i64_in _ (by omega)
            have w2 : IntKind.i64.wrap (z + (m : Int) - 1) = z + m - 1 := IntWalk.i64_in _ (by omega)
            have w4 : IntKind.i64.wrap (z + (m : Int) - 1 - p) = z + m - 1 - p := IntWalk.i64_in _ (by omega)
            clear hx hp
            go_wp2_with fail
            refine (l17At_any (Lib.hid rfl) hxl hrd).mono ?_
            rintro e u ⟨rfl, rfl⟩
            rw [HP.out]
            go_wp2_with fail
            go_roundw
            case rel => exact ⟨j + 1, z + m - 1 - p, by omega, by go_num, by go_num, HZN, trivial⟩
            case measure => simp [intOf]; omega
          · have e : j = n := by omega
            subst e
            have HZ := Lib.hid (show ppN L m k = z by have := hz.out; rw [List.take_of_length_le (by rw [hl.out]; exact Nat.le_refl _)] at this; exact this.symm)
            have hbl : Below wr.heap.size wr (wr.alloc (Obj.cells #[Value.int .i64 z] 3)) := (Below.refl _ _).alloc (Nat.le_refl _) _
            have hrow2 := HROW.out.new hbl
            have hmade := Rd.made wr #[Value.int .i64 z] 3
            have L1 := Lib.hid (show (ivs ys).length + 1 ≤ maxLen ∧ ((ivs ys).length + 1) * 8 ≤ 140737488355328 by rw [ivs_len]; unfold maxLen; omega)
            have HRO := Lib.hid hrow2
            have HM := Lib.hid hmade
            have hsz3 := hb4.size
            clear hrow2 hmade
            go_wp2_with (at_builtin; refine wpList_app rfl (.tmp 37) (.tmp 39) 27 rfl 3 i0 _ 8 Try.underlying27 hi hz0 hz1 hz2 rfl rfl rfl HRO.out rfl HM.out (by simp [Value.oneCell']) L1.out.1 L1.out.2 (by simp; omega) ?_; intro v1 w1 hrow9 ho1)
            go_roundw
            case rel => exact ⟨k + 1, by omega, by go_num, by rw [HSU.out, HZ.out, ivs_sn]; exact hrow9, hb4.trans ((hbl.mono hsz3).trans (ho1.below (Nat.le_refl _) (by simp; omega)))⟩
            case measure => simp [intOf]; omega
      · have e : k = m := by omega
        subst e
        have HF := Lib.hid hrow
        clear hrow
        go_wp2_with fail
        go_ret
        exact ⟨_, rfl, by rw [HV.out]; exact HF.out, hbw⟩
/-- The points while the k-th ranking is counted up to choice j. -/
def ppG (L : List (List Int)) (m k j : Nat) (G : Nat → Int) : Prop := ∀ c, c < m → G c = ppN (L.take (if c < j then k + 1 else k)) m c
theorem ppG_zero (L : List (List Int)) (m : Nat) (G : Nat → Int) (h : ∀ c, G c = 0) : ppG L m 0 0 G := fun c _ => by rw [h, if_neg (by omega)]; rfl
theorem ppG_next {L : List (List Int)} {m k : Nat} {G : Nat → Int} (h : ppG L m k m G) : ppG L m (k + 1) 0 G := fun c hc => by rw [h c hc, if_pos hc, if_neg (by omega)]
theorem ppG_step {L : List (List Int)} {m k j : Nat} {G : Nat → Int} (h : ppG L m k j G) (hk : k < L.length) {z : Int} (hz : z = G j + (m - 1 - atI L[k] j)) (hj : j < m) : ppG L m k (j + 1) (up1 G j z) := fun c hc => by
  unfold up1
  by_cases e : c = j
  · subst e
    rw [if_pos rfl, if_pos (by omega), pp_snoc L k hk, hz, h c hc, if_neg (by omega)]
  · rw [if_neg e, h c hc]
    by_cases e2 : c < j
    · rw [if_pos e2, if_pos (by omega)]
    · rw [if_neg e2, if_neg (by omega)]
theorem ppG_end {L : List (List Int)} {m n : Nat} {G : Nat → Int} (hl : L.length = n) (h : ppG L m n 0 G) : fl G m = ivs ((upI m).map (ppN L m)) := by
  apply List.ext_getElem?
  intro j
  by_cases hj : j < m
  · rw [fl_get _ _ hj]
    have h1 := h j hj
    rw [if_neg (by omega), List.take_of_length_le (by omega)] at h1
    rw [h1]
    unfold ivs upI
    simp [hj]
  · rw [List.getElem?_eq_none (by rw [fl_len]; omega), List.getElem?_eq_none (by rw [ivs_len, List.length_map, upI_len]; omega)]
theorem fl_zero1 (n : Nat) : (madeCells (Value.int .i64 0).cells (n * 1)).toList = fl (fun _ => 0) n := by
  have e0 : (Value.int .i64 0).cells = #[Value.int .i64 0] := rfl
  rw [e0, Nat.mul_one, toList_madeCells_one]
  apply List.ext_getElem?
  intro j
  by_cases hj : j < n
  · rw [fl_get _ _ hj]; simp [hj]
  · rw [List.getElem?_eq_none (by simp; omega), List.getElem?_eq_none (by rw [fl_len]; omega)]
set_option maxHeartbeats 8000000 in
theorem impPlacePoints_any {w : World} {A : Option Addr} {n c : Nat} {N : Int} {L : List (List Int)} (hl : Hid (L.length = n)) (hn : n ≤ 1099511627776) (hs : Hid (∀ x ∈ L, x.length ≤ 1099511627776)) (hr : RdSS w w.heap.size A L) :
    Calls Try.prog 21 #[.slice A n c, .int .i64 N] w (Fresh 3 (ivs (ppL L N)) w) := by
  obtain ⟨i0, hi, hz0, hz1, hz2⟩ := info_parts IntS_info
  cases hB : arB L N with
  | false =>
    have hrow0 := Row.made (w := w) w.heap.size #[] 0 3 (Nat.le_refl _) rfl (Nat.zero_le _)
    have hb0 : Below w.heap.size w (w.alloc (Obj.cells #[] 3)) := (Below.refl _ _).alloc (Nat.le_refl _) _
    have HV := Lib.hid (ppL_bad hB)
    have HB := Lib.hid hB
    have HR := Lib.hid (hrow0.wide (Nat.le_refl _) (show w.heap.size + 1 ≤ (w.alloc (Obj.cells #[] 3)).heap.size by simp))
    clear hB hrow0
    go_enter Try.func21, Try.ntmps21
    go_wp2_with fail
    refine (impAreRankings_any hl hn hs hr).mono ?_
    rintro e u ⟨rfl, rfl⟩
    rw [HB.out]
    go_wp2_with fail
    go_ret
    exact ⟨_, rfl, by rw [HV.out]; exact HR.out, hb0⟩
  | true =>
    obtain ⟨⟨n1, n2⟩, n3, n4⟩ := ar_parts hB
    obtain ⟨m, rfl⟩ : ∃ m : Nat, N = (m : Int) := ⟨N.toNat, by omega⟩
    have HV := Lib.hid (ppL_good hB)
    have HB := Lib.hid hB
    have HRK := Lib.hid n4
    have hn20 : n ≤ 20 := by rw [← hl.out]; exact n3
    have hm8 : m ≤ 8 := by omega
    clear hB n4 n3
    go_enter Try.func21, Try.ntmps21
    go_wp2_with fail
    refine (impAreRankings_any hl hn hs hr).mono ?_
    rintro e u ⟨rfl, rfl⟩
    rw [HB.out]
    go_wp2_with (first | (at_make; refine wpList_make_full _ rfl _ _ 27 rfl w.heap.size 3 i0 _ 1 Try.underlying27 hi hz0 hz1 _ _ _ _ m rfl rfl rfl rfl (by rw [hz2]; omega) (by unfold maxLen; omega) (Nat.le_refl _) ?_; intro w1 hown1 hg1))
    have hb1 : Below w.heap.size w w1 := (Below.refl _ _).grown hg1 (Nat.le_refl _) (by simp)
    have hsz1 := (hown1.lt w.heap.size rfl).2
    rw [fl_zero1] at hown1
    have hr1 := (hr.below hb1).more hb1.size
    try (go_wp2_with fail)
    refine (rankingsOf_any hl hn20 HRK hr1).mono ?_
    rintro e w2 ⟨F, rfl, hrd, hgood, hb2, hsz2⟩
    have HG := Lib.hid hgood
    have hrow1 : Row w1 w.heap.size (w.heap.size + 1) 3 (.slice (some ⟨w.heap.size, 0, none⟩) m m) (fl (fun _ => 0) m) := ⟨by rw [fl_len]; exact hown1, fun g hg => by simp [Value.ownBlock] at hg; omega⟩
    have hrow2 := hrow1.new hb2
    have hb12 := hb1.trans (hb2.mono hb1.size)
    have HROW := Lib.hid hrow2
    have HRD := Lib.hid hrd
    clear hgood hown1 hg1 hrow1 hrow2 hrd
    go_wp2_with fail
    go_loopw [19] (fun i wr => ∃ (k : Nat) (G : Nat → Int), k ≤ n ∧ i = .int .i64 k ∧ Row wr w.heap.size (w.heap.size + 1) 3 (.slice (some ⟨w.heap.size, 0, none⟩) m m) (fl G m) ∧ Hid (ppG L m k 0 G) ∧ Rd wr (w1.heap.size + 1) (some ⟨w1.heap.size, 0, none⟩) (fl F (n * 8)) ∧ Below w.heap.size w wr ∧ w1.heap.size + 1 ≤ wr.heap.size) (fun i _ => n - (intOf i).toNat)
    case atStart => exact ⟨0, _, Nat.zero_le _, rfl, HROW.out, Lib.hid (ppG_zero L m _ fun _ => rfl), HRD.out, hb12, hsz2⟩
    case round =>
      obtain ⟨k, G, hk, rfl, hrow, hG, hrd, hbw, hszw⟩ := hrel
      have hsz := hbw.size
      by_cases hlt : k < n
      · have hkz : k < L.length := by rw [hl.out]; exact hlt
        obtain ⟨ad, p, f, hf, ead, hp, hab, c0, c1, c2, c3, c4, c5, c6, c7⟩ := fl_cells hrd hlt
        injection ead with ead
        subst ead
        have hpe : p = ⟨w1.heap.size, k * 8, none⟩ := by rw [← hp]; unfold Addr.add; split <;> simp_all
        subst hpe
        clear hp
        have i0' : (0 : Int) ≤ (k : Int) := by omega
        have i1 : (k : Int) < (n : Int) := by omega
        obtain ⟨W1, hW⟩ : ∃ W1, wr.alloc (Obj.cells (r8 f) 84) = W1 := ⟨_, rfl⟩
        have bx := Bx.made wr 84 (r8 f)
        have hb1' : Below wr.heap.size wr (wr.alloc (Obj.cells (r8 f) 84)) := (Below.refl _ _).alloc (Nat.le_refl _) _
        rw [hW] at bx hb1'
        have HW := Lib.hid hW
        have hbw1 := hbw.trans (hb1'.mono hbw.size)
        have hrowW := hrow.new hb1'
        have hrdW := hrd.below (hb1'.mono hszw)
        have HROWW := Lib.hid hrowW
        have HRDW := Lib.hid hrdW
        have HGK := Lib.hid (show ∀ (c : Nat), (c : Int) < (m : Int) → f c = atI L[k] c from fun c hc => by rw [hf]; exact HG.out k hkz c hc)
        have hzW : W1.heap.size = wr.heap.size + 1 := by rw [← hW]; simp
        have HZW := Lib.hid hzW
        have hgeb : w1.heap.size < wr.heap.size := hszw
        obtain ⟨gb, hgb⟩ : ∃ gb, wr.heap.size = gb := ⟨_, rfl⟩
        rw [hgb] at bx
        have HBX := Lib.hid bx
        have HGB := Lib.hid hgb
        have hlt1 : gb < W1.heap.size := bx.lt
        have hwgb : w.heap.size + 1 ≤ gb := by omega
        have hw1gb : w1.heap.size + 1 ≤ gb := by omega
        clear hW bx hf hrow hrd hrowW hrdW hzW hb1' hgb
        obtain ⟨wo, hwo⟩ : ∃ u, u = wr := ⟨_, rfl⟩
        subst hwo
        go_wp2_with fail
        rw [HW.out]
        try rw [HGB.out]
        try (go_wp2_with fail)
        go_loopw [25] (fun i wq => ∃ (j : Nat) (G' : Nat → Int), j ≤ m ∧ i = .int .i64 j ∧ Row wq w.heap.size (w.heap.size + 1) 3 (.slice (some ⟨w.heap.size, 0, none⟩) m m) (fl G' m) ∧ Hid (ppG L m k j G') ∧ Rd wq (w1.heap.size + 1) (some ⟨w1.heap.size, 0, none⟩) (fl F (n * 8)) ∧ Below w.heap.size w wq ∧ w1.heap.size + 1 ≤ wq.heap.size ∧ Bx wq gb 84 (r8 f)) (fun i _ => m - (intOf i).toNat)
        case atStart => exact ⟨0, G, Nat.zero_le _, rfl, HROWW.out, hG, HRDW.out, hbw1, by omega, HBX.out⟩
        case round =>
          obtain ⟨j, G', hj, rfl, hrow, hG', hrd, hbq, hszq, hbx⟩ := hrel
          by_cases hlj : j < m
          · have j0 : (0 : Int) ≤ (j : Int) := by omega
            have j1 : (j : Int) < (m : Int) := by omega
            have j8 : (j : Int) < 8 := by omega
            have hFj : wr.cell? ⟨gb, j, none⟩ = some (.int .i64 (f j)) := by rw [cell_of_row _ _ _ _ _ _ hbx]; exact r8_get _ (by omega)
            have hGj : wr.cell? ⟨w.heap.size, j, none⟩ = some (.int .i64 (G' j)) := by
              have := hrow.rd' j _ (fl_get G' m hlj)
              obtain ⟨ad, e, _, hc⟩ := this
              injection e with e
              subst e
              rwa [addr_lit] at hc
            have hown := hrow.own (n := m) (fl_len _ _)
            have hfz := hown.frozenAt j
            have HFV := Lib.hid (HGK.out j (by omega))
            have h1 := hG'.out j hlj
            rw [if_neg (by omega)] at h1
            have hz1 := pp_in HRK.out hlj k (by omega)
            have hz2 := pp_in HRK.out hlj (k + 1) (by omega)
            rw [pp_snoc L k hkz, ← HFV.out] at hz2
            rw [← h1] at hz1 hz2
            have HST := Lib.hid (fun z hz => ppG_step (z := z) hG'.out hkz hz hlj)
            rw [← HFV.out] at HST
            obtain ⟨x, hx⟩ : ∃ x, f j = x := ⟨_, rfl⟩
            obtain ⟨y, hy⟩ : ∃ y, G' j = y := ⟨_, rfl⟩
            rw [hx] at hFj hz2 HST
            rw [hy] at hGj hz1 hz2 HST
            have w1' : IntKind.i64.wrap ((m : Int) - 1) = m - 1 := IntWalk.i64_in _ (by omega)
            have w2' : IntKind.i64.wrap ((m : Int) - 1 - x) = m - 1 - x := IntWalk.i64_in _ (by omega)
            have w3' : IntKind.i64.wrap (y + ((m : Int) - 1 - x)) = y + (m - 1 - x) := IntWalk.i64_in _ (by omega)
            obtain ⟨hst, hgs⟩ := hown.stored j (.int .i64 (y + ((m : Int) - 1 - x)))
            rw [fl_set] at hst
            have hrow9 : Row ((wr.setCell ⟨w.heap.size, j, none⟩ (.int .i64 (y + ((m : Int) - 1 - x)))).drew) w.heap.size (w.heap.size + 1) 3 (.slice (some ⟨w.heap.size, 0, none⟩) m m) (fl (up1 G' j (y + ((m : Int) - 1 - x))) m) := ⟨by rw [fl_len]; exact hst, fun g hg => by simp [Value.ownBlock] at hg; omega⟩
            have hrd9 : Rd ((wr.setCell ⟨w.heap.size, j, none⟩ (.int .i64 (y + ((m : Int) - 1 - x)))).drew) (w1.heap.size + 1) (some ⟨w1.heap.size, 0, none⟩) (fl F (n * 8)) := fun i u hu => by
              obtain ⟨ad, e, hb9, hc⟩ := hrd i u hu
              injection e with e
              subst e
              exact ⟨_, rfl, hb9, (World.cell?_of_block (Below.heap_setCell _ _ _ _ (by rw [add_blk]; show w1.heap.size ≠ w.heap.size; omega))).trans hc⟩
            have hbx9 : Bx ((wr.setCell ⟨w.heap.size, j, none⟩ (.int .i64 (y + ((m : Int) - 1 - x)))).drew) gb 84 (r8 f) := (Below.heap_setCell _ _ _ _ (by show gb ≠ w.heap.size; omega)).trans hbx
            have hb9 : Below w.heap.size w ((wr.setCell ⟨w.heap.size, j, none⟩ (.int .i64 (y + ((m : Int) - 1 - x)))).drew) := (hbq.setCell (p := ⟨w.heap.size, j, none⟩) (Nat.le_refl _) _).drew
            have HALL := Lib.hid (And.intro hrow9 (And.intro hrd9 (And.intro hbx9 hb9)))
            have HGN := Lib.hid (HST.out _ rfl)
            clear hx hy hst hgs hown hrow9 hrd9 hbx9 hb9 hrow hrd hbx hbq h1
            go_wp2_with fail
            go_region
            go_wp2_with fail
            go_roundw
            case rel => exact ⟨j + 1, _, by omega, by go_num, HALL.out.1, HGN, HALL.out.2.1, HALL.out.2.2.2, by simpa using hszq, HALL.out.2.2.1⟩
            case measure => simp [intOf]; omega
          · have e : j = m := by omega
            subst e
            have HGN := Lib.hid (ppG_next hG'.out)
            have HALL := Lib.hid (And.intro hrow (And.intro hrd hbq))
            clear hrow hrd hbq hbx
            go_wp2_with fail
            go_roundw
            case rel => exact ⟨k + 1, G', by omega, by go_num, HALL.out.1, HGN, HALL.out.2.1, HALL.out.2.2, hszq⟩
            case measure => simp [intOf]; omega
      · have e : k = n := by omega
        subst e
        have HF := Lib.hid (ppG_end hl.out hG.out)
        have HRO := Lib.hid hrow
        clear hrow hrd
        go_wp2_with fail
        go_ret
        exact ⟨_, rfl, by rw [HV.out, ← HF.out]; exact HRO.out.wide (Nat.le_refl _) (by omega), hbw⟩
end Go.Proofs.Ytjjgdeojbpcjjaa
