/- Contracts of AddSource, the model's and the code's, and of slices.Clone of sources (chapter 26). Condition: the slice has at most 2^40 elements. -/
import Derived.Test.YtdhnhhicjjcmdaaSrcF
import Derived.Test.YtdhnhhicjjcmdaaRowG2
import Derived.Deep.RegionLaw
import Derived.Lib.SliceRun
namespace Go.Proofs.Ytdhnhhicjjcmdaa
open Go.ChangeShapes Go.WideShapes Go.ChangeAt Go.RowKit
set_option maxRecDepth 100000
theorem alloc_g (w : World) (o : Obj) : Below w.heap.size w (w.alloc o) := (Below.refl _ _).alloc (Nat.le_refl _) o
theorem Rd.keepG {w w' : World} {lo hi g : Nat} {xs : List Value} (h : Rd w (g + 1) (some ⟨g, 0, none⟩) xs) (o : Out lo hi w w') (hg : hi ≤ g ∧ g < w.heap.size) : Rd w' (g + 1) (some ⟨g, 0, none⟩) xs := fun j u hu => by
  obtain ⟨ad, e, hb, hc⟩ := h j u hu
  injection e with e
  subst e
  refine ⟨_, rfl, hb, ?_⟩
  rw [World.cell?_of_block (o.block _ (by rw [add_blk]; exact hg.2) (by rw [add_blk]; simp only; omega))]
  exact hc
def adsL (X : List Src) (x : Src) : List Src := if srcB (X ++ [x]) then X ++ [x] else X
theorem ads_yes {X : List Src} {x : Src} (h : srcB (X ++ [x]) = true) : adsL X x = X ++ [x] := if_pos h
theorem ads_no {X : List Src} {x : Src} (h : srcB (X ++ [x]) = false) : adsL X x = X := by unfold adsL; rw [h]; rfl
theorem ads_len (X : List Src) (x : Src) : (adsL X x).length ≤ X.length + 1 := by
  unfold adsL
  split
  · simp
  · omega
section
variable {w : World} {A : Option Addr} {n c : Nat} {X : List Src}
theorem cloneS_any (hl : Hid (X.length = n)) (hn : n ≤ 1099511627776) (hr : Rd w w.heap.size A (flE srcE X)) :
    Calls Try.prog 46 #[.slice A n c] w (fun e w' => ∃ v, e = .returned v ∧ RowG srcE w' w.heap.size w'.heap.size 40 v X ∧ Below w.heap.size w w') := by
  obtain ⟨i0, hi, hz0, hz1, hz2⟩ := info_parts Source_info2
  have q22 : ∀ (w : World) (a : Option Addr) (n c n' c' : Nat), (binOp .eql 25 (.slice a n c) (.slice none n' c')).run Try.prog w = .ok (.bool a.isNone) w := fun w a n c n' c' => Lib.run_eql_slice_nil w _ _ a n c n' c' Try.underlying25
  cases A with
  | none =>
    have hx : X = [] := by
      cases X with
      | nil => rfl
      | cons x X =>
        obtain ⟨ad, _, e, _⟩ := src_cells hr (k := 0) (by simp)
        cases e
    subst hx
    go_enter Try.func46, Try.ntmps46
    go_wp2
    go_ret
    exact ⟨_, rfl, RowG.nil, Below.refl _ _⟩
  | some ad =>
    have hrow0 : RowG srcE (w.alloc (Obj.cells #[] 40)) w.heap.size (w.heap.size + 1) 40 (.slice (some ⟨w.heap.size, 0, none⟩) 0 0) [] := RowG.made (w := w) w.heap.size #[] 0 (Nat.le_refl _) rfl rfl (Nat.zero_le _)
    have hb0 := alloc_g w (Obj.cells #[] 40)
    have hr1 := hr.below hb0
    have L1 := Lib.hid (show ([] : List Src).length + n ≤ maxLen ∧ (([] : List Src).length + n) * 32 ≤ 140737488355328 by unfold maxLen; simp; omega)
    go_enter Try.func46, Try.ntmps46
    go_wp2_with (at_builtin; refine wpList_appG (E := srcE) rfl (.tmp 5) (.tmp 6) 25 rfl 40 i0 _ 32 Try.underlying25 hi hz0 hz1 hz2 rfl rfl rfl hrow0 hl.out hr1 L1.out.1 L1.out.2 (by simp) ?_; intro v1 w1 hrow1 ho1)
    go_ret
    exact ⟨v1, rfl, by simpa using hrow1, hb0.trans (ho1.below (Nat.le_refl _) (by simp))⟩
set_option maxHeartbeats 16000000 in
theorem specAddSource_any {x : Src} (hl : Hid (X.length = n)) (hn : n ≤ 1099511627770) (hr : Rd w w.heap.size A (flE srcE X)) :
    Calls Try.prog 26 #[.slice A n c, .agg #[.int .i64 x.1, .int .i64 x.2.1, .int .i64 x.2.2.1, .bool x.2.2.2]] w (fun e w' => ∃ v, e = .returned (.tuple #[v, .bool (srcB (X ++ [x]))]) ∧ RowG srcE w' w.heap.size w'.heap.size 40 v (adsL X x) ∧ Below w.heap.size w w') := by
  obtain ⟨i0, hi, hz0, hz1, hz2⟩ := info_parts Source_info2
  have HN1 := Lib.hid (show (X ++ [x]).length = n + 1 by rw [List.length_append, hl.out]; rfl)
  have L1 := Lib.hid (show ([] : List Src).length + n ≤ maxLen ∧ (([] : List Src).length + n) * 32 ≤ 140737488355328 by unfold maxLen; simp; omega)
  have L2 := Lib.hid (show ([] ++ X).length + 1 ≤ maxLen ∧ (([] ++ X).length + 1) * 32 ≤ 140737488355328 by rw [List.nil_append, hl.out]; unfold maxLen; omega)
  go_enter Try.func26, Try.ntmps26
  go_wp2_with fail
  have bw := alloc_g w (Obj.cells #[.int .i64 x.1, .int .i64 x.2.1, .int .i64 x.2.2.1, .bool x.2.2.2] 40)
  have bx := Bx.made w 40 #[.int .i64 x.1, .int .i64 x.2.1, .int .i64 x.2.2.1, .bool x.2.2.2]
  obtain ⟨wr, hwr⟩ : ∃ W, w.alloc (Obj.cells #[.int .i64 x.1, .int .i64 x.2.1, .int .i64 x.2.2.1, .bool x.2.2.2] 40) = W := ⟨_, rfl⟩
  rw [hwr] at bw bx
  try rw [hwr]
  obtain ⟨h0, h1, h2, h3⟩ := bx.k4
  have HR := Lib.hid ((hr.below bw).more bw.size)
  have HBW := Lib.hid bw
  obtain ⟨f0, f1, f2, f3⟩ := (bx.new (alloc_g wr (Obj.cells #[] 40))).k4
  have HBX := Lib.hid bx
  clear bw bx hwr
  have ba : Below wr.heap.size wr (wr.alloc (Obj.cells #[] 40)).drew := (alloc_g wr _).drew
  have ra : RowG srcE (wr.alloc (Obj.cells #[] 40)).drew wr.heap.size (wr.heap.size + 1) 40 (.slice (some ⟨wr.heap.size, 0, none⟩) 0 0) [] := RowG.made (w := wr) wr.heap.size #[] 0 (Nat.le_refl _) rfl rfl (Nat.zero_le _)
  obtain ⟨Wa, hWa⟩ : ∃ W : World, (wr.alloc (Obj.cells #[] 40)).drew = W := ⟨_, rfl⟩
  rw [hWa] at ba ra
  have bb : Below wr.heap.size wr ((wr.alloc (Obj.cells #[] 40)).alloc (Obj.cells #[.int .i64 x.1, .int .i64 x.2.1, .int .i64 x.2.2.1, .bool x.2.2.2] 40)).drew := ((alloc_g wr _).alloc (by simp) _).drew
  have rb : RowG srcE ((wr.alloc (Obj.cells #[] 40)).alloc (Obj.cells #[.int .i64 x.1, .int .i64 x.2.1, .int .i64 x.2.2.1, .bool x.2.2.2] 40)).drew wr.heap.size (wr.heap.size + 1) 40 (.slice (some ⟨wr.heap.size, 0, none⟩) 0 0) [] := (RowG.made (E := srcE) (w := wr) wr.heap.size #[] 0 (Nat.le_refl _) rfl rfl (Nat.zero_le _)).new ((alloc_g _ _).drew)
  have vb : Rd ((wr.alloc (Obj.cells #[] 40)).alloc (Obj.cells #[.int .i64 x.1, .int .i64 x.2.1, .int .i64 x.2.2.1, .bool x.2.2.2] 40)).drew (wr.heap.size + 1 + 1) (some ⟨wr.heap.size + 1, 0, none⟩) (flE srcE [x]) := by
    have q := Rd.made (wr.alloc (Obj.cells #[] 40)) #[.int .i64 x.1, .int .i64 x.2.1, .int .i64 x.2.2.1, .bool x.2.2.2] 40
    rw [World.size_alloc] at q
    exact q
  obtain ⟨Wb, hWb⟩ : ∃ W : World, ((wr.alloc (Obj.cells #[] 40)).alloc (Obj.cells #[.int .i64 x.1, .int .i64 x.2.1, .int .i64 x.2.2.1, .bool x.2.2.2] 40)).drew = W := ⟨_, rfl⟩
  rw [hWb] at bb rb vb
  have sb : Wb.heap.size = wr.heap.size + 1 + 1 := by rw [← hWb]; simp [World.drew]
  have bc : Below wr.heap.size wr ((wr.alloc (Obj.cells #[.int .i64 x.1, .int .i64 x.2.1, .int .i64 x.2.2.1, .bool x.2.2.2] 40)).alloc (Obj.cells #[] 40)).drew := ((alloc_g wr _).alloc (by simp) _).drew
  have rc : RowG srcE ((wr.alloc (Obj.cells #[.int .i64 x.1, .int .i64 x.2.1, .int .i64 x.2.2.1, .bool x.2.2.2] 40)).alloc (Obj.cells #[] 40)).drew (wr.heap.size + 1) (wr.heap.size + 1 + 1) 40 (.slice (some ⟨wr.heap.size + 1, 0, none⟩) 0 0) [] := by
    have q := RowG.made (E := srcE) (w := wr.alloc (Obj.cells #[.int .i64 x.1, .int .i64 x.2.1, .int .i64 x.2.2.1, .bool x.2.2.2] 40)) (t := 40) (wr.heap.size + 1) #[] 0 (X := []) (by simp) rfl rfl (Nat.zero_le _)
    rw [World.size_alloc] at q
    exact q
  have vc : Rd ((wr.alloc (Obj.cells #[.int .i64 x.1, .int .i64 x.2.1, .int .i64 x.2.2.1, .bool x.2.2.2] 40)).alloc (Obj.cells #[] 40)).drew (wr.heap.size + 1) (some ⟨wr.heap.size, 0, none⟩) (flE srcE [x]) := (Rd.made wr #[.int .i64 x.1, .int .i64 x.2.1, .int .i64 x.2.2.1, .bool x.2.2.2] 40).keep (fun j hj => ((alloc_g (wr.alloc (Obj.cells #[.int .i64 x.1, .int .i64 x.2.1, .int .i64 x.2.2.1, .bool x.2.2.2] 40)) (Obj.cells #[] 40)).drew).block j (by simpa using hj))
  obtain ⟨Wc, hWc⟩ : ∃ W : World, ((wr.alloc (Obj.cells #[.int .i64 x.1, .int .i64 x.2.1, .int .i64 x.2.2.1, .bool x.2.2.2] 40)).alloc (Obj.cells #[] 40)).drew = W := ⟨_, rfl⟩
  rw [hWc] at bc rc vc
  have sc : Wc.heap.size = wr.heap.size + 1 + 1 := by rw [← hWc]; simp [World.drew]
  have sa : Wa.heap.size = wr.heap.size + 1 := by rw [← hWa]; simp [World.drew]
  have HA := Lib.hid (And.intro ra (And.intro ba sa))
  have HB := Lib.hid (And.intro rb (And.intro bb (And.intro vb sb)))
  have HC := Lib.hid (And.intro rc (And.intro bc (And.intro vc sc)))
  have HWa := Lib.hid hWa
  have HWb := Lib.hid hWb
  have HWc := Lib.hid hWc
  clear hWa hWb hWc ra ba sa rb bb vb sb rc bc vc sc
  go_region_law (first
    | (rw [HWa.out]; refine step_appG (E := srcE) (m := n) rfl (.tmp 7) (.tmp 8) 25 rfl 40 i0 _ 32 Try.underlying25 hi hz0 hz1 hz2 rfl rfl rfl HA.out.1 hl.out (HR.out.below HA.out.2.1) L1.out.1 L1.out.2 (by have := HA.out.2.2; omega) ?_; intro v1 w1 hrow1 ho1; have b1 := HA.out.2.1.trans (ho1.below (Nat.le_refl _) (by have := HA.out.2.2; omega)); obtain ⟨g0, g1, g2, g3⟩ := (HBX.out.new b1).k4; have RV1 := Lib.hid ((hrow1.new (alloc_g w1 (Obj.cells #[.int .i64 x.1, .int .i64 x.2.1, .int .i64 x.2.2.1, .bool x.2.2.2] 40))).wide (Nat.le_refl _) (alloc_g w1 (Obj.cells #[.int .i64 x.1, .int .i64 x.2.1, .int .i64 x.2.2.1, .bool x.2.2.2] 40)).size); have MV1 := Lib.hid (show Rd _ _ _ (flE srcE [x]) from Rd.made w1 #[.int .i64 x.1, .int .i64 x.2.1, .int .i64 x.2.2.1, .bool x.2.2.2] 40); have sz1 := b1.size)
    | (rw [HWb.out]; refine step_appG (E := srcE) (m := n) rfl (.tmp 7) (.tmp 8) 25 rfl 40 i0 _ 32 Try.underlying25 hi hz0 hz1 hz2 rfl rfl rfl HB.out.1 hl.out (HR.out.below HB.out.2.1) L1.out.1 L1.out.2 (by have := HB.out.2.2.2; omega) ?_; intro v1 w1 hrow1 ho1; have b1 := HB.out.2.1.trans (ho1.below (Nat.le_refl _) (by have := HB.out.2.2.2; omega)); have RW1 := Lib.hid hrow1; have MW1 := Lib.hid (HB.out.2.2.1.keepG ho1 (by have := HB.out.2.2.2; omega)); have sz1 := b1.size)
    | (rw [HWc.out]; refine step_appG (E := srcE) (m := n) rfl (.tmp 7) (.tmp 8) 25 rfl 40 i0 _ 32 Try.underlying25 hi hz0 hz1 hz2 rfl rfl rfl HC.out.1 hl.out (HR.out.below HC.out.2.1) L1.out.1 L1.out.2 (by have := HC.out.2.2.2; omega) ?_; intro v1 w1 hrow1 ho1; have b1 := HC.out.2.1.trans (ho1.below (by omega) (by have := HC.out.2.2.2; omega)); have RW1 := Lib.hid (hrow1.wide (Nat.le_succ _) (Nat.le_refl _)); have MW1 := Lib.hid (HC.out.2.2.1.out ho1 (Nat.le_refl _) (by have := HC.out.2.2.2; omega)); have sz1 := b1.size)
    | (refine step_appG (E := srcE) (m := 1) rfl (.tmp 9) (.tmp 11) 25 rfl 40 i0 _ 32 Try.underlying25 hi hz0 hz1 hz2 rfl rfl rfl RV1.out rfl MV1.out L2.out.1 L2.out.2 (by simp; omega) ?_; intro v2 w2 hrow2 ho2; have b2 := b1.trans (((alloc_g w1 (Obj.cells #[.int .i64 x.1, .int .i64 x.2.1, .int .i64 x.2.2.1, .bool x.2.2.2] 40)).mono sz1).trans (ho2.below (Nat.le_refl _) (by simp; omega))); have sz2 := b2.size)
    | (refine step_appG (E := srcE) (m := 1) rfl (.tmp 9) (.tmp 11) 25 rfl 40 i0 _ 32 Try.underlying25 hi hz0 hz1 hz2 rfl rfl rfl RW1.out rfl MW1.out L2.out.1 L2.out.2 sz1 ?_; intro v2 w2 hrow2 ho2; have b2 := b1.trans (ho2.below (Nat.le_refl _) sz1); have sz2 := b2.size))
  all_goals
    have hXX : ([] : List Src) ++ X ++ [x] = X ++ [x] := rfl
    rw [hXX] at hrow2
    obtain ⟨A3, c3, rfl, hrd3, hc3, _⟩ := hrow2.rd (n := n + 1) HN1.out
    have HROW3 := Lib.hid (hrow2.wide (lo' := w.heap.size) HBW.out.size (Nat.le_refl _))
    have HRD3 := Lib.hid hrd3
    have HB3 := Lib.hid (HBW.out.trans (b2.mono HBW.out.size))
    have sz3 := HB3.out.size
    clear hXX hrow2 hrd3 b2
    cases hb : srcB (X ++ [x]) with
    | false =>
      have HPB := Lib.hid hb
      have HV := Lib.hid (ads_no hb)
      clear hb
      go_wp2_with fail
      refine (specAreSources_any (X := X ++ [x]) HN1 (by omega) hc3 HRD3.out).mono ?_
      rintro e u ⟨rfl, r⟩
      rw [HPB.out]
      have hbu := HB3.out.trans (r.mono sz3)
      have szu := hbu.size
      have be := alloc_g u (Obj.cells #[] 40)
      have HRE := Lib.hid (show RowG srcE (u.alloc (Obj.cells #[] 40)) w.heap.size (u.heap.size + 1) 40 (.slice (some ⟨u.heap.size, 0, none⟩) 0 0) [] from RowG.made (w := u) w.heap.size #[] 0 szu rfl rfl (Nat.zero_le _))
      have HRX := Lib.hid ((hr.below hbu).below (be.mono szu))
      have HBU := Lib.hid (hbu.trans (be.mono szu))
      clear be hbu r
      go_wp2_with (at_builtin; refine wpList_appG (E := srcE) rfl (.tmp 16) (.tmp 17) 25 rfl 40 i0 _ 32 Try.underlying25 hi hz0 hz1 hz2 rfl rfl rfl HRE.out hl.out HRX.out L1.out.1 L1.out.2 (by simp; omega) ?_; intro v9 w9 hrow9 ho9; rw [List.nil_append] at hrow9; obtain ⟨A9, c9, rfl, _, _, _⟩ := hrow9.rd (n := n) hl.out)
      refine bodyPost_ret (v := .tuple #[.slice A9 n c9, .bool false]) (by simp [results, Try.results26, go_sem]) rfl ?_
      exact ⟨_, by rw [HPB.out], by rw [HV.out]; exact hrow9, HBU.out.trans (ho9.below (Nat.le_refl _) (by simp; omega))⟩
    | true =>
      have HPB := Lib.hid hb
      have HV := Lib.hid (ads_yes hb)
      clear hb
      go_wp2_with fail
      refine (specAreSources_any (X := X ++ [x]) HN1 (by omega) hc3 HRD3.out).mono ?_
      rintro e u ⟨rfl, r⟩
      rw [HPB.out]
      have HBU := Lib.hid (HB3.out.trans (r.mono sz3))
      have HRU := Lib.hid ((HROW3.out.new r).wide (Nat.le_refl _) r.size)
      clear r
      go_wp2_with fail
      refine bodyPost_ret (v := .tuple #[.slice A3 (n + 1) c3, .bool true]) (by simp [results, Try.results26, go_sem]) rfl ?_
      exact ⟨_, by rw [HPB.out], by rw [HV.out]; exact HRU.out, HBU.out⟩
set_option maxHeartbeats 16000000 in
theorem impAddSource_any {x : Src} (hl : Hid (X.length = n)) (hn : n ≤ 1099511627770) (hr : Rd w w.heap.size A (flE srcE X)) :
    Calls Try.prog 28 #[.slice A n c, .agg #[.int .i64 x.1, .int .i64 x.2.1, .int .i64 x.2.2.1, .bool x.2.2.2]] w (fun e w' => ∃ v, e = .returned (.tuple #[v, .bool (srcB (X ++ [x]))]) ∧ RowG srcE w' w.heap.size w'.heap.size 40 v (adsL X x) ∧ Below w.heap.size w w') := by
  obtain ⟨i0, hi, hz0, hz1, hz2⟩ := info_parts Source_info2
  have HN1 := Lib.hid (show (X ++ [x]).length = n + 1 by rw [List.length_append, hl.out]; rfl)
  have L2 := Lib.hid (show X.length + 1 ≤ maxLen ∧ (X.length + 1) * 32 ≤ 140737488355328 by rw [hl.out]; unfold maxLen; omega)
  go_enter Try.func28, Try.ntmps28
  go_wp2_with fail
  have bw := alloc_g w (Obj.cells #[.int .i64 x.1, .int .i64 x.2.1, .int .i64 x.2.2.1, .bool x.2.2.2] 40)
  have bx := Bx.made w 40 #[.int .i64 x.1, .int .i64 x.2.1, .int .i64 x.2.2.1, .bool x.2.2.2]
  obtain ⟨wr, hwr⟩ : ∃ W, w.alloc (Obj.cells #[.int .i64 x.1, .int .i64 x.2.1, .int .i64 x.2.2.1, .bool x.2.2.2] 40) = W := ⟨_, rfl⟩
  rw [hwr] at bw bx
  try rw [hwr]
  obtain ⟨h0, h1, h2, h3⟩ := bx.k4
  have HR := Lib.hid ((hr.below bw).more bw.size)
  have HBW := Lib.hid bw
  have HBX := Lib.hid bx
  clear bw bx hwr
  have bS := alloc_g wr (Obj.cells #[.int .i64 x.1, .int .i64 x.2.1, .int .i64 x.2.2.1, .bool x.2.2.2] 40)
  have mS : Rd _ (wr.alloc (Obj.cells #[.int .i64 x.1, .int .i64 x.2.1, .int .i64 x.2.2.1, .bool x.2.2.2] 40)).heap.size _ (flE srcE [x]) := (Rd.made wr #[.int .i64 x.1, .int .i64 x.2.1, .int .i64 x.2.2.1, .bool x.2.2.2] 40).more (by simp)
  obtain ⟨Ws, hWs⟩ : ∃ W, wr.alloc (Obj.cells #[.int .i64 x.1, .int .i64 x.2.1, .int .i64 x.2.2.1, .bool x.2.2.2] 40) = W := ⟨_, rfl⟩
  rw [hWs] at bS mS
  have HWs := Lib.hid hWs
  have HRS := Lib.hid ((HR.out.below bS).more bS.size)
  have HMS := Lib.hid mS
  have HBS := Lib.hid bS
  clear hWs bS mS
  go_region_law (first
    | (go_simp; go_at_call 46; rw [HWs.out]; refine (cloneS_any hl (by omega) (by first | exact HRS.out | exact HRS.out.drewN 1)).mono ?_; rintro e u1 ⟨v1, rfl, hrow1, r⟩; have q0 : Below Ws.heap.size Ws u1 := (by first | exact r | exact (Below.refl _ _).drew.trans r); have q1 := HBS.out.trans (q0.mono HBS.out.size); have RW1 := Lib.hid (show RowG srcE u1 wr.heap.size u1.heap.size 40 v1 X from hrow1.wide HBS.out.size (Nat.le_refl _)); have MW1 := Lib.hid (HMS.out.below q0))
    | (go_simp; go_at_call 46; refine (cloneS_any hl (by omega) (by first | exact HR.out | exact HR.out.drewN 1)).mono ?_; rintro e u1 ⟨v1, rfl, hrow1, r⟩; have q1 : Below wr.heap.size wr u1 := (by first | exact r | exact (Below.refl _ _).drew.trans r); obtain ⟨g0, g1, g2, g3⟩ := (HBX.out.new q1).k4; have RV1 := Lib.hid (show RowG srcE (u1.alloc (Obj.cells #[.int .i64 x.1, .int .i64 x.2.1, .int .i64 x.2.2.1, .bool x.2.2.2] 40)) wr.heap.size (u1.alloc (Obj.cells #[.int .i64 x.1, .int .i64 x.2.1, .int .i64 x.2.2.1, .bool x.2.2.2] 40)).heap.size 40 v1 X from (hrow1.new (alloc_g u1 (Obj.cells #[.int .i64 x.1, .int .i64 x.2.1, .int .i64 x.2.2.1, .bool x.2.2.2] 40))).wide (Nat.le_refl _) (alloc_g u1 (Obj.cells #[.int .i64 x.1, .int .i64 x.2.1, .int .i64 x.2.2.1, .bool x.2.2.2] 40)).size); have MV1 := Lib.hid (show Rd _ _ _ (flE srcE [x]) from Rd.made u1 #[.int .i64 x.1, .int .i64 x.2.1, .int .i64 x.2.2.1, .bool x.2.2.2] 40); have sz1 := q1.size)
    | (refine step_appG (E := srcE) (m := 1) rfl (.tmp 8) (.tmp 10) 25 rfl 40 i0 _ 32 Try.underlying25 hi hz0 hz1 hz2 rfl rfl rfl RV1.out rfl MV1.out L2.out.1 L2.out.2 (by simp; omega) ?_; intro v2 w2 hrow2 ho2; have b2 := q1.trans (((alloc_g u1 (Obj.cells #[.int .i64 x.1, .int .i64 x.2.1, .int .i64 x.2.2.1, .bool x.2.2.2] 40)).mono q1.size).trans (ho2.below (Nat.le_refl _) (by simp; omega))); have sz2 := b2.size)
    | (refine step_appG (E := srcE) (m := 1) rfl (.tmp 8) (.tmp 10) 25 rfl 40 i0 _ 32 Try.underlying25 hi hz0 hz1 hz2 rfl rfl rfl RW1.out rfl MW1.out L2.out.1 L2.out.2 q1.size ?_; intro v2 w2 hrow2 ho2; have b2 := q1.trans (ho2.below (Nat.le_refl _) q1.size); have sz2 := b2.size))
  all_goals
    obtain ⟨A3, c3, rfl, hrd3, hc3, _⟩ := hrow2.rd (n := n + 1) HN1.out
    have HROW3 := Lib.hid (hrow2.wide (lo' := w.heap.size) HBW.out.size (Nat.le_refl _))
    have HRD3 := Lib.hid hrd3
    have HB3 := Lib.hid (HBW.out.trans (b2.mono HBW.out.size))
    have sz3 := HB3.out.size
    clear hrow2 hrd3 b2
    cases hb : srcB (X ++ [x]) with
    | false =>
      have HPB := Lib.hid hb
      have HV := Lib.hid (ads_no hb)
      clear hb
      go_wp2_with fail
      refine (impAreSources_any (X := X ++ [x]) HN1 (by omega) HRD3.out).mono ?_
      rintro e u ⟨rfl, r⟩
      rw [HPB.out]
      have hbu := HB3.out.trans (r.mono sz3)
      have szu := hbu.size
      have HRX := Lib.hid ((hr.below hbu).more szu)
      have HBU := Lib.hid hbu
      clear hbu r
      go_wp2_with fail
      refine (cloneS_any hl (by omega) HRX.out).mono ?_
      rintro e u9 ⟨v9, rfl, hrow9, r9⟩
      obtain ⟨A9, c9, rfl, _, _, _⟩ := hrow9.rd (n := n) hl.out
      go_wp2_with fail
      refine bodyPost_ret (v := .tuple #[.slice A9 n c9, .bool false]) (by simp [results, Try.results28, go_sem]) rfl ?_
      exact ⟨_, by rw [HPB.out], by rw [HV.out]; exact hrow9.wide szu (Nat.le_refl _), HBU.out.trans (r9.mono szu)⟩
    | true =>
      have HPB := Lib.hid hb
      have HV := Lib.hid (ads_yes hb)
      clear hb
      go_wp2_with fail
      refine (impAreSources_any (X := X ++ [x]) HN1 (by omega) HRD3.out).mono ?_
      rintro e u ⟨rfl, r⟩
      rw [HPB.out]
      have HBU := Lib.hid (HB3.out.trans (r.mono sz3))
      have HRU := Lib.hid ((HROW3.out.new r).wide (Nat.le_refl _) r.size)
      clear r
      go_wp2_with fail
      refine bodyPost_ret (v := .tuple #[.slice A3 (n + 1) c3, .bool true]) (by simp [results, Try.results28, go_sem]) rfl ?_
      exact ⟨_, by rw [HPB.out], by rw [HV.out]; exact HRU.out, HBU.out⟩
end
end Go.Proofs.Ytdhnhhicjjcmdaa
