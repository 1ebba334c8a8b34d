/- Contracts of slices.DeleteFunc over a list of lists that the call owns, and of the code's Quarrels. Condition: the slices have at most 2^40 elements. -/
import Derived.Test.YtignchefkihdaaaQuaC
namespace Go.Proofs.Ytignchefkihdaaa
open Go.ChangeShapes Go.WideShapes Go.ChangeAt Go.RowKit
set_option maxRecDepth 100000
def keepQ (f : List Int) (p : Value × List Int) : Bool := !(okQ f p.2)
theorem keep_all {us : List Value} {X : List (List Int)} {f : List Int} (h : X.length ≤ us.length) : ((us.zip X).filter (keepQ f)).map (·.2) = X.filter fun x => !(canR [x, f]) := by
  have e : X = (us.zip X).map (·.2) := (List.map_snd_zip h).symm
  conv => rhs; rw [e]
  rw [List.filter_map]
  rfl
theorem none_gone {X : List (List Int)} {f : List Int} (h : ∀ x ∈ X, okQ f x = false) : (X.filter fun x => !(canR [x, f])) = X := by
  rw [List.filter_eq_self]
  intro x hx
  have := h x hx
  unfold okQ at this
  rw [this]; rfl
theorem first_kept {us : List Value} {X : List (List Int)} {f : List Int} {k : Nat} (hl : us.length = X.length) (hk : k < X.length) (h : okQ f X[k] = true) (hno : ∀ j (hj : j < k), okQ f (X[j]'(by omega)) = false) : ((us.zip X).take (k + 1)).filter (keepQ f) = (us.zip X).take k := by
  have hz : k < (us.zip X).length := by rw [List.length_zip]; omega
  rw [filt_no hz (by unfold keepQ; rw [List.getElem_zip, h]; rfl), List.filter_eq_self]
  intro p hp
  obtain ⟨j, hj, rfl⟩ := List.getElem_of_mem hp
  rw [List.length_take] at hj
  rw [List.getElem_take, List.getElem_zip]
  unfold keepQ
  rw [hno j (by omega)]
  rfl
section
variable {w : World} {A A' : Option Addr} {n c n' c' lo : Nat} {X : List (List Int)} {f : List Int} {v : Value}
set_option maxHeartbeats 4000000 in
theorem deleteQ_any {g : Nat} (hg : w.cell? ⟨g, 0, none⟩ = some (.slice A' f.length c')) (hglo : g < lo) (hloW : lo ≤ w.heap.size) (h : OwnSS w lo w.heap.size v X) (hl : Hid (X.length = n)) (hn : n ≤ 1099511627776) (hc' : f.length ≤ c') (hcm' : c' ≤ maxLen) (hr' : Rd w lo A' (ivs f)) :
    Calls Try.prog 84 #[v, .func (.func 86) #[] #[.pointer (some ⟨g, 0, none⟩)]] w (fun e w' => ∃ v', e = .returned v' ∧ OwnSS w' lo w'.heap.size v' (X.filter fun x => !(canR [x, f])) ∧ Below lo w w') := by
  obtain ⟨i0, hi0, hz0, hz1, hz2⟩ := info_parts SS_info2
  have zz : ∀ w, (Go.sizeOf 25).run Try.prog w = .ok 1 w := fun w => by simp [sizeOf, typeInfo, hi0, hz1]
  obtain ⟨A, c, rfl, hrd, _, _⟩ := h.rd hl.out
  have HO := Lib.hid h
  have HG := Lib.hid hg
  have HR' := Lib.hid hr'
  clear h hg hr'
  go_enter Try.func84, Try.ntmps84
  go_wp2_with fail
  refine (indexQ_any (X := X) (f := f) HG.out hl hn hrd hc' hcm' (HR'.out.more hloW)).mono ?_
  rintro e w1 ⟨rfl, r⟩
  have hsz1 := r.size
  have HO1 := Lib.hid (HO.out.new r)
  clear hrd
  rcases fstP_cases (okQ f) X with ⟨hf, hno⟩ | ⟨k, hk, hf, hyes, hno⟩
  · rw [hf]
    have HN := Lib.hid (none_gone hno)
    clear hno
    go_wp2_with fail
    go_ret
    exact ⟨_, rfl, by rw [HN.out]; exact HO1.out.wide (Nat.le_refl _) r.size, r.mono hloW⟩
  · rw [hf]
    have hkn : k < n := by rw [← hl.out]; exact hk
    obtain ⟨gs, cap, u0, a0, b0, hv, _⟩ := HO1.out.elem (k := k) hk
    rw [hl.out] at hv
    injection hv with hv1 hv2 hv3
    subst hv1 hv3
    obtain ⟨us, cur, hul, hgg, hnc, hcm, hcs, htk, hlo, hhi, hone, hels, back⟩ := HO1.out.pick hl.out
    have hux : us.length = X.length := by rw [hul, hl.out]
    have hfk := first_kept hux hk hyes hno
    have HB := Lib.hid back
    have HE := Lib.hid hels
    have bx : Bx w1 gs 25 cur := hgg
    have hne : g ≠ gs := by omega
    have hq0 : k = (((us.zip X).take (k + 1)).filter (keepQ f)).length := by rw [hfk, List.length_take, List.length_zip]; omega
    have ht0 : cur.toList.take k = (((us.zip X).take (k + 1)).filter (keepQ f)).map (·.1) := by
      rw [hfk, List.map_take, List.map_fst_zip (by omega), ← htk, List.take_take, Nat.min_eq_left (by omega)]
    have hr0 : ∀ t, k + 1 ≤ t → t < n → cur[t]? = us[t]? := fun t _ ht => by
      rw [← htk, List.getElem?_take, if_pos ht]; simp
    have HQ0 := Lib.hid hq0
    have HT0 := Lib.hid ht0
    have HR0 := Lib.hid hr0
    have HUX := Lib.hid hux
    have HG1 := Lib.hid ((r.cell (p := ⟨g, 0, none⟩) (cell_lt HG.out)).trans HG.out)
    have HF1 := Lib.hid (HR'.out.below (r.mono hloW))
    have k0 : (0 : Int) ≤ (k : Int) := by omega
    have kw : IntKind.i64.wrap ((k : Int) + 1) = (k : Int) + 1 := IntWalk.i64_in _ (by omega)
    have hm1 : ((k : Int) == -1) = false := by simp
    clear hno hyes hgg hone hels back hfk hq0 ht0 hr0 hux htk hf hv2
    go_wp2_with fail
    go_loopw [5, 6] (fun i j wr => ∃ (q m : Nat) (cu : Array Value), m ≤ n ∧ j = .int .i64 m ∧ i = .int .i64 q ∧ q < m ∧ Hid (q = (((us.zip X).take m).filter (keepQ f)).length) ∧ Bx wr gs 25 cu ∧ cu.size = c ∧ Hid (cu.toList.take q = (((us.zip X).take m).filter (keepQ f)).map (·.1)) ∧ Hid (∀ t, m ≤ t → t < n → cu[t]? = us[t]?) ∧ Hid (∀ b, b < w1.heap.size → b ≠ gs → wr.heap[b]? = w1.heap[b]?) ∧ Below lo w1 wr) (fun _ j _ => n - (intOf j).toNat)
    case atStart => exact ⟨k, k + 1, cur, by omega, by go_num, rfl, by omega, HQ0, bx, hcs, HT0, HR0, Lib.hid (fun _ _ _ => rfl), Below.refl _ _⟩
    case round =>
      obtain ⟨q, m, cu, hm, rfl, rfl, hqm, hQ, bxr, hcu, hT, hR, hK, hbw⟩ := hrel
      have hszr := hbw.size
      have q0 : (0 : Int) ≤ (q : Int) := by omega
      have m0 : (0 : Int) ≤ (m : Int) := by omega
      by_cases hlt : m < n
      · have hmX : m < X.length := by rw [hl.out]; exact hlt
        have hzl : m < (us.zip X).length := by rw [List.length_zip, HUX.out]; omega
        obtain ⟨Aj, cj, hus, hcj, hcmj, hread⟩ := HE.out m X[m] (List.getElem?_eq_getElem hmX)
        have hrdx := hread wr hK.out hszr
        have cm := bxr.at_ (k := m) (by rw [hR.out m (Nat.le_refl _) hlt]; exact hus)
        have hul2 : m < us.length := by rw [HUX.out]; exact hmX
        have hval : us[m] = .slice Aj X[m].length cj := by rw [List.getElem?_eq_getElem hul2] at hus; injection hus
        have HYS := Lib.hid (show okQ f X[m] = true → ((us.zip X).take (m + 1)).filter (keepQ f) = ((us.zip X).take m).filter (keepQ f) from fun h => filt_no hzl (by unfold keepQ; rw [List.getElem_zip, h]; rfl))
        have HNX := Lib.hid (show okQ f X[m] = false → ((us.zip X).take (m + 1)).filter (keepQ f) = ((us.zip X).take m).filter (keepQ f) ++ [(.slice Aj X[m].length cj, X[m])] from fun h => by
          rw [filt_yes hzl (by unfold keepQ; rw [List.getElem_zip, h]; rfl), List.getElem_zip, hval])
        obtain ⟨x, hx⟩ : ∃ x, x = X[m] := ⟨_, rfl⟩
        rw [← hx] at cm hrdx hcj HYS HNX
        obtain ⟨b, hb⟩ : ∃ b, b = okQ f x := ⟨_, rfl⟩
        have HBB := Lib.hid hb.symm
        rw [← hb] at HYS HNX
        have HRX := Lib.hid hrdx
        have HBX := Lib.hid bxr
        have HG2 := Lib.hid ((hbw.cell (p := ⟨g, 0, none⟩) (by show g < lo; exact hglo)).trans HG1.out)
        have hqc : q < c := by omega
        clear hx hb hread hus hval hrdx bxr
        go_wp2_with fail
        refine (quaF_any (x := x) (f := f) HG2.out hcj hcmj HRX.out hc' hcm' ((HF1.out.below hbw).more (by omega))).mono ?_
        rintro e w2 ⟨he, r2⟩
        rw [HBB.out] at he
        subst he
        have hq2 := hbw.trans (r2.mono (by omega))
        have bx2 := HBX.out.new r2
        have hK2 : ∀ b, b < w1.heap.size → b ≠ gs → w2.heap[b]? = w1.heap[b]? := fun b hb1 hb2 => (r2.block b (by omega)).trans (hK.out b hb1 hb2)
        have HK2 := Lib.hid hK2
        have HX2 := Lib.hid bx2
        have cq := bx2.at_ (k := q) (v := cu[q]'(by omega)) (by simp [hcu, hqc])
        have fq := bx2.free q
        clear hK2 bx2
        cases b with
        | true =>
          have HE1 := Lib.hid (HYS.out (by trivial))
          clear cq fq
          go_wp2_with fail
          go_roundw
          case rel => exact ⟨q, m + 1, cu, by omega, by go_num, rfl, by omega, Lib.hid (by rw [HE1.out]; exact hQ.out), HX2.out, hcu, Lib.hid (by rw [HE1.out]; exact hT.out), Lib.hid (fun t h1 h2 => hR.out t (by omega) h2), HK2, hq2⟩
          case measure => simp [intOf]; omega
        | false =>
          have HE1 := Lib.hid (HNX.out (by trivial))
          go_wp2_with fail
          go_roundw
          case rel =>
            refine ⟨q + 1, m + 1, cu.setIfInBounds q (.slice Aj x.length cj), by omega, by go_num, by go_num, by omega, Lib.hid (by rw [HE1.out, List.length_append, ← hQ.out]; rfl), HX2.out.set q _, by simp [hcu], Lib.hid ?_, Lib.hid (fun t h1 h2 => ?_), Lib.hid (fun b h1 h2 => ?_), hq2.setCell (by show lo ≤ gs; omega) _⟩
            · have hql : q < cu.toList.length := by simp [hcu]; omega
              rw [HE1.out, List.map_append, ← hT.out, Array.toList_setIfInBounds, List.set_eq_take_append_cons_drop, if_pos hql, List.take_append, List.take_of_length_le (by rw [List.length_take]; omega), show (cu.toList.take q).length = q by rw [List.length_take]; omega, show q + 1 - q = 1 by omega]
              rfl
            · rw [Array.getElem?_setIfInBounds_ne (by omega)]
              exact hR.out t (by omega) h2
            · exact (heap_setCell_other w2 ⟨gs, q, none⟩ b _ (by show b ≠ gs; exact h2)).trans (HK2.out b h1 h2)
          case measure => simp [intOf]; omega
      · have e : m = n := by omega
        subst e
        have HTK := Lib.hid (show (us.zip X).take m = us.zip X from List.take_of_length_le (by rw [List.length_zip, HUX.out, hl.out]; omega))
        obtain ⟨ae, hE, hE2⟩ := tlA_some gs q c
        have hE3 := hE2 (by omega)
        subst hE3
        have hs1 := fun (w : World) => run_from w 24 25 Try.underlying24 zz (some ⟨gs, 0, none⟩) (n := m) (c := c) (k := q) (by omega) hnc
        have hs2 := fun (w : World) => run_to w 24 25 Try.underlying24 zz (some ⟨gs, 0, none⟩) (n := m) (c := c) (k := q) (by omega)
        rw [hE] at hs1
        have hcl : ∀ ty, (Builtin.clear_ #[24] ty #[.slice (some ⟨gs, q, none⟩) (m - q) (c - q)]).run Try.prog wr = .ok (.tuple #[]) (wr.setCells gs q (List.replicate (m - q) (.slice none 0 0))) :=
          fun ty => Lib.run_clear_slice wr _ _ ty _ Try.underlying24 zeroSS rfl rfl gs q _ _ (by omega)
            (fun t ht => by rw [bxr.at_ (k := q + t) (v := cu[q + t]'(by omega)) (by rw [Array.getElem?_eq_getElem])]; rfl) (fun t ht => bxr.free _)
        have HBX := Lib.hid bxr
        clear bxr
        go_wp2_with fail
        go_ret
        have hlen : (((us.zip X).filter (keepQ f))).length = q := by have := hQ.out; rw [HTK.out] at this; exact this.symm
        have hb2 := HB.out (wr.setCells gs q (List.replicate (m - q) (.slice none 0 0))) ((us.zip X).filter (keepQ f)) List.filter_sublist
          (fun b h1 h2 => by
            have o2 := Out.setCells gs (List.replicate (m - q) (.slice none 0 0)) q wr
            exact (o2.block b (by omega) (by omega)).trans (hK.out b h1 h2))
          ⟨_, Bx.setCells _ _ _ _ HBX.out, by rw [putA_size, hcu], by
            have ht := hT.out
            rw [HTK.out] at ht
            rw [hlen, ← ht, putA_list _ _ _ (by rw [List.length_replicate, hcu]; omega), List.append_assoc, List.take_append_of_le_length (by rw [List.length_take]; simp [hcu]; omega), List.take_take, Nat.min_self]⟩
        rw [hlen, keep_all (by rw [HUX.out]; exact Nat.le_refl _)] at hb2
        refine ⟨_, rfl, hb2.wide (Nat.le_refl _) (by rw [setCells_size]; omega), (r.mono hloW).trans (hbw.trans ((Out.setCells gs _ _ _).below (by omega) (by omega)))⟩
theorem quaX_off {X : List (List Int)} {f : List Int} (h : (storeB X && isF f) = false) : quaX X f = [] := by unfold quaX; rw [h]; rfl
theorem quaX_on {X : List (List Int)} {f : List Int} (h : storeB X = true) (hf : isF f = true) : quaX X f = X.filter fun x => !(canR [x, f]) := by unfold quaX; rw [h, hf]; rfl
set_option maxHeartbeats 2000000 in
theorem impQuarrels_any (hl : Hid (X.length = n)) (hn : n ≤ 1099511627776) (hs : Hid (∀ x ∈ X, x.length ≤ 1099511627776)) (hr : RdSS w w.heap.size A X) (hc' : f.length ≤ c') (hcm' : c' ≤ maxLen) (hr' : Rd w w.heap.size A' (ivs f)) :
    Calls Try.prog 23 #[.slice A n c, .slice A' f.length c'] w (fun e w' => ∃ v, e = .returned v ∧ OwnSS w' w.heap.size w'.heap.size v (quaX X f) ∧ Below w.heap.size w w') := by
  have bx := Bx.made w 25 #[.slice A' f.length c']
  have hb := alloc_new w (Obj.cells #[.slice A' f.length c'] 25)
  obtain ⟨W1, hW⟩ : ∃ v : World, v = w.alloc (Obj.cells #[.slice A' f.length c'] 25) := ⟨_, rfl⟩
  have hsz : W1.heap.size = w.heap.size + 1 := by rw [hW]; simp
  rw [← hW] at bx hb
  have HW := Lib.hid hW.symm
  have HR := Lib.hid ((hr.below hb).more hb.size)
  have HR' := Lib.hid ((hr'.below hb).more hb.size)
  have HG := Lib.hid (bx.at_ (k := 0) (v := .slice A' f.length c') rfl)
  obtain ⟨b, hbb⟩ : ∃ b, b = storeB X := ⟨_, rfl⟩
  obtain ⟨d, hd⟩ : ∃ d, d = isF f := ⟨_, rfl⟩
  have HB := Lib.hid hbb.symm
  have HD := Lib.hid hd.symm
  have HSZ := Lib.hid hsz
  clear hW hr hr' bx hbb hd hsz
  go_enter Try.func23, Try.ntmps23
  go_wp2_with fail
  rw [HW.out]
  refine (impIsStore_any hl hn hs HR.out).mono ?_
  rintro e w1 ⟨he, r⟩
  rw [HB.out] at he
  subst he
  have q := hb.trans (r.mono hb.size)
  cases b with
  | false =>
    have HV := Lib.hid (quaX_off (X := X) (f := f) (by rw [HB.out]; rfl))
    have ho := OwnSS.made0 w1
    have hb0 := alloc_new w1 (Obj.cells #[] 25)
    go_wp2_with fail
    go_ret
    exact ⟨_, rfl, by rw [HV.out]; exact ho.wide q.size (Nat.le_refl _), q.trans (hb0.mono q.size)⟩
  | true =>
    have HG1 := Lib.hid ((r.cell (p := ⟨w.heap.size, 0, none⟩) (cell_lt HG.out)).trans HG.out)
    have cg := HG1.out
    go_wp2_with fail
    refine (impIsFormula_any (f := f) (Lib.hid rfl) ((HR'.out.below r).more r.size)).mono ?_
    rintro e w2 ⟨he, r2⟩
    rw [HD.out] at he
    subst he
    have q2 := q.trans (r2.mono q.size)
    cases d with
    | false =>
      have HV := Lib.hid (quaX_off (X := X) (f := f) (by rw [HB.out, HD.out]; rfl))
      have ho := OwnSS.made0 w2
      have hb0 := alloc_new w2 (Obj.cells #[] 25)
      go_wp2_with fail
      go_ret
      exact ⟨_, rfl, by rw [HV.out]; exact ho.wide q2.size (Nat.le_refl _), q2.trans (hb0.mono q2.size)⟩
    | true =>
      have HV := Lib.hid (quaX_on HB.out HD.out)
      have r12 : Below W1.heap.size W1 w2 := r.trans (r2.mono r.size)
      have hz := r12.size
      clear cg
      go_wp2_with fail
      refine (copyLists_any hl hn hs ((HR.out.below r12).more r12.size)).mono ?_
      rintro e w3 ⟨v, rfl, ho3, r3⟩
      have r13 := r12.trans (r3.mono r12.size)
      have HG3 := Lib.hid ((r13.cell (p := ⟨w.heap.size, 0, none⟩) (cell_lt HG.out)).trans HG.out)
      have HO3 := Lib.hid ho3
      obtain ⟨A3, c3, rfl, _, _, _⟩ := ho3.rd hl.out
      clear ho3
      go_wp2_with fail
      refine (deleteQ_any (lo := w2.heap.size) HG3.out (by have := HSZ.out; omega) r3.size HO3.out hl hn hc' hcm' ((HR'.out.below r13).more hz)).mono ?_
      rintro e w4 ⟨v', rfl, ho4, r4⟩
      have HO4 := Lib.hid ho4
      obtain ⟨A4, c4, rfl, _, _, _⟩ := ho4.rd rfl
      clear ho4
      go_wp2_with fail
      go_ret
      exact ⟨_, rfl, by rw [HV.out]; exact HO4.out.wide q2.size (Nat.le_refl _), q2.trans (((r3.mono (Nat.le_refl _)).trans r4).mono q2.size)⟩
end
end Go.Proofs.Ytignchefkihdaaa
