/- Contract of the code's Preferred and of what it needs. Condition: the slices have at most 2^40 elements. -/
import Derived.Test.YtejncjjkcmhmbaaStabC
namespace Go.Proofs.Ytejncjjkcmhmbaa
open Go.ChangeShapes Go.WideShapes Go.ChangeAt Go.RowKit
set_option maxRecDepth 100000
/-- Whether another set's bits hold these. -/
def othB (p h : Nat) : Bool := !(p == h) && (anB p h == 0)
theorem psE_same (f : Nat → Nat) (p h : Nat) : psE p (hB f p 10) h (hB f h 10) = (p == h) := by
  unfold psE
  rw [Bool.eq_iff_iff, Bool.and_eq_true, beq_iff_eq, beq_iff_eq]
  exact ⟨fun h => h.1, fun e => by rw [e]; exact ⟨rfl, rfl⟩⟩
theorem psC_neq (a b a' b' : Nat) (w : World) : (binOp .neq 98 (.agg (psC a b)) (.agg (psC a' b'))).run Try.prog w = .ok (.bool (!(psE a b a' b'))) w := by
  have h := psC_eql a b a' b' w
  simp only [binOp] at h ⊢
  simp only [Sem.run_bind] at h ⊢
  cases hr : (Op.equal 98 (.agg (psC a b)) (.agg (psC a' b'))).run Try.prog w with
  | ok x w1 =>
    rw [hr] at h
    simp [Result.andThen] at h ⊢
    obtain ⟨h1, h2⟩ := h
    rw [h1]
    exact ⟨rfl, h2⟩
  | halt x w1 => rw [hr] at h; simp [Result.andThen] at h
set_option maxHeartbeats 2000000 in
theorem another1_any {w : World} {g p h : Nat} {f : Nat → Nat} (hp : p < 65536) (hh : h < 65536) (bg : Bx w g 98 (psC p (hB f p 10))) :
    Calls Try.prog 131 #[.agg (psC h (hB f h 10)), .pointer (some ⟨g, 0, none⟩)] w (Tells (othB p h) w) := by
  have hb1 := alloc_new w (Obj.cells (psC h (hB f h 10)) 98)
  have bx := Bx.made w 98 (psC h (hB f h 10))
  have bg1 := bg.new hb1
  obtain ⟨W1, hW⟩ : ∃ u : World, u = w.alloc (Obj.cells (psC h (hB f h 10)) 98) := ⟨_, rfl⟩
  rw [← hW] at hb1 bx bg1
  have hW' := hW.symm
  have hq1 := psC_neq p (hB f p 10) h (hB f h 10)
  have hq2 := fun (w : World) (x y : Operand) => run_eqGuard_agg (P := Try.prog) w .neq 98 x y (psC p (hB f p 10)) (psC h (hB f h 10)) PS_guard
  rw [psE_same] at hq1
  obtain ⟨b, hb⟩ : ∃ b, b = !(p == h) := ⟨_, rfl⟩
  have HO := Lib.hid (show othB p h = (b && (anB p h == 0)) by rw [hb]; rfl)
  rw [← hb] at hq1
  obtain ⟨C0, C1⟩ := bg1.two
  obtain ⟨D0, D1⟩ := bx.two
  unfold psC at hq1 hq2
  clear hW hb bx bg1 bg
  go_enter Try.func131, Try.ntmps131
  cases b with
  | false =>
    go_wp2_with fail
    go_ret
    exact ⟨ret_b HO.out.symm, hb1⟩
  | true =>
    go_wp2_with (go_at_call 132; refine (posPart_any (a := p) (b := hB f p 10) (a' := h) (b' := hB f h 10) hp hh).mono ?_; rintro e w2 ⟨rfl, hb2⟩)
    go_ret
    exact ⟨ret_b HO.out.symm, hb1.trans (hb2.mono hb1.size)⟩
set_option maxHeartbeats 2000000 in
theorem indexP_any {w : World} {g n c p : Nat} {A : Option Addr} {f : Nat → Nat} {hs : List Nat} (hl : Hid (hs.length = n)) (hn : n ≤ 4096) (hp : p < 65536) (h16 : Hid (∀ h ∈ hs, h < 65536)) (hr : Rd w w.heap.size A (psF f hs)) (bg : Bx w g 98 (psC p (hB f p 10))) :
    Calls Try.prog 154 #[.slice A n c, .func (.func 131) #[] #[.pointer (some ⟨g, 0, none⟩)]] w (fun e w' => (∃ r, e = .returned (.int .i64 r) ∧ decide (0 ≤ r) = hs.any (othB p)) ∧ Below w.heap.size w w') := by
  go_enter Try.func154, Try.ntmps154
  go_wp2_with fail
  go_loopw [8] (fun i wr => ∃ k : Nat, k ≤ n ∧ i = .int .i64 k ∧ Below w.heap.size w wr ∧ Hid ((hs.take k).any (othB p) = false)) (fun i _ => n - (intOf i).toNat)
  case atStart => exact ⟨0, Nat.zero_le _, rfl, Below.refl _ _, Lib.hid rfl⟩
  case round =>
    obtain ⟨k, hk, rfl, hbw, hno⟩ := hrel
    by_cases hlt : k < n
    · have hkz : k < hs.length := by rw [hl.out]; exact hlt
      obtain ⟨ad, rfl, hab, ha, hb⟩ := ps_rd (hr.below hbw) hkz
      have hxl := h16.out hs[k] (List.getElem_mem hkz)
      have HT := Lib.hid (List.take_succ_eq_append_getElem hkz)
      have HM := Lib.hid (List.getElem_mem hkz)
      obtain ⟨x, hx⟩ : ∃ x, x = hs[k] := ⟨_, rfl⟩
      rw [← hx] at ha hb hxl HT HM
      have i0 : (0 : Int) ≤ (k : Int) := by omega
      have HBG := Lib.hid (bg.new hbw)
      clear hx
      by_cases h1 : othB p x = true
      · have HC := Lib.hid h1
        have HN := Lib.hid (show hs.any (othB p) = true from List.any_eq_true.2 ⟨x, HM.out, h1⟩)
        clear h1
        go_wp2_with (go_at_call 131; refine (another1_any hp hxl HBG.out).mono ?_; rintro e w1 ⟨he, hb1⟩; rw [HC.out] at he; subst he)
        go_ret
        exact ⟨⟨k, rfl, by rw [HN.out]; exact decide_eq_true i0⟩, hbw.trans (hb1.mono hbw.size)⟩
      · have HC := Lib.hid (show othB p x = false by simpa using h1)
        have HN := Lib.hid (show (hs.take (k + 1)).any (othB p) = false by
          rw [HT.out, List.any_append, hno.out, List.any_cons, HC.out]; rfl)
        clear h1
        go_wp2_with (go_at_call 131; refine (another1_any hp hxl HBG.out).mono ?_; rintro e w1 ⟨he, hb1⟩; rw [HC.out] at he; subst he)
        go_roundw
        case rel => exact ⟨k + 1, by omega, by go_num, hbw.trans (hb1.mono hbw.size), HN⟩
        case measure => simp [intOf]; omega
    · have e : k = n := by omega
      subst e
      have HF := Lib.hid (show hs.any (othB p) = false by have := hno.out; rwa [List.take_of_length_le (by rw [hl.out]; exact Nat.le_refl _)] at this)
      go_wp2_with fail
      go_ret
      exact ⟨⟨-1, rfl, by rw [HF.out]; rfl⟩, hbw⟩
theorem containsP_any {w : World} {g n c p : Nat} {A : Option Addr} {f : Nat → Nat} {hs : List Nat} (hl : Hid (hs.length = n)) (hn : n ≤ 4096) (hp : p < 65536) (h16 : Hid (∀ h ∈ hs, h < 65536)) (hr : Rd w w.heap.size A (psF f hs)) (bg : Bx w g 98 (psC p (hB f p 10))) :
    Calls Try.prog 130 #[.slice A n c, .func (.func 131) #[] #[.pointer (some ⟨g, 0, none⟩)]] w (Tells (hs.any (othB p)) w) := by
  go_enter Try.func130, Try.ntmps130
  go_wp2_with fail
  refine (indexP_any hl hn hp h16 hr bg).mono ?_
  rintro e w1 ⟨⟨r, rfl, hr2⟩, hb1⟩
  have HR := Lib.hid hr2
  clear hr2
  go_wp2_with fail
  go_ret
  exact ⟨ret_b HR.out, hb1⟩
theorem isPartOfAnother_any {w : World} {n c p : Nat} {A : Option Addr} {f : Nat → Nat} {hs : List Nat} (hl : Hid (hs.length = n)) (hn : n ≤ 4096) (hp : p < 65536) (h16 : Hid (∀ h ∈ hs, h < 65536)) (hr : Rd w w.heap.size A (psF f hs)) :
    Calls Try.prog 88 #[.agg (psC p (hB f p 10)), .slice A n c] w (Tells (hs.any (othB p)) w) := by
  have hmf : ∀ (fn : Fn) (first cap : Array Value) (w : World), (Instr.makeFunc fn first cap).run Try.prog w = .ok (.func fn first cap) w := fun _ _ _ _ => rfl
  have hb1 := alloc_new w (Obj.cells (psC p (hB f p 10)) 98)
  have bx := Bx.made w 98 (psC p (hB f p 10))
  obtain ⟨W1, hW⟩ : ∃ u : World, u = w.alloc (Obj.cells (psC p (hB f p 10)) 98) := ⟨_, rfl⟩
  rw [← hW] at hb1 bx
  have HR := Lib.hid ((hr.below hb1).more hb1.size)
  have hW' := hW.symm
  clear hW hr
  go_enter Try.func88, Try.ntmps88
  go_wp2_with fail
  refine (containsP_any hl hn hp h16 HR.out bx).mono ?_
  rintro e w2 ⟨rfl, hb2⟩
  go_wp2_with fail
  go_ret
  exact ⟨rfl, hb1.trans (hb2.mono hb1.size)⟩
theorem sub_bits {x h : Nat} (hx : x < 1024) (hh : h < 1024) : ((lsT x 10).all fun z => (lsT h 10).contains z) = (anB x h == 0) := by
  rw [Bool.eq_iff_iff, List.all_eq_true, beq_iff_eq]
  constructor
  · intro k
    refine Nat.eq_of_testBit_eq fun i => ?_
    rw [anB_bit (by omega) (by omega), Nat.zero_testBit]
    cases hi : x.testBit i with
    | false => rfl
    | true =>
      have hi10 : i < 10 := by
        rcases Nat.lt_or_ge i 10 with h' | h'
        · exact h'
        · rw [bit_big (show x < 2 ^ 10 from hx) h'] at hi; cases hi
      have := k i ((lsT_mem x 10 i).2 ⟨i, hi10, hi, rfl⟩)
      rw [List.contains_iff_mem, lsT_mem] at this
      obtain ⟨j, _, hj, e⟩ := this
      have : j = i := by omega
      rw [← this, hj]; rfl
  · intro k z hz
    obtain ⟨i, hi, hb, rfl⟩ := (lsT_mem x 10 z).1 hz
    have h1 : (anB x h).testBit i = false := by rw [k]; simp
    rw [anB_bit (by omega) (by omega), hb, Bool.true_and] at h1
    rw [List.contains_iff_mem, lsT_mem]
    exact ⟨i, hi, by simpa using h1, rfl⟩
theorem pref_bits {N : Int} {X : List (List Int)} {x : Nat} (hx : x ∈ allB N X) : prefP N X (lsT x 10) = !((allB N X).any (othB x)) := by
  have lt : ∀ y ∈ allB N X, y < 1024 := fun y hy => by
    obtain ⟨n, _, hn, _, h1, _⟩ := allB_ok hy
    exact Nat.lt_of_lt_of_le h1 (show 2 ^ n ≤ 2 ^ 10 from Nat.pow_le_pow_right (by decide) hn)
  have hx1 := lt x hx
  unfold prefP
  rw [← allB_ls N X]
  unfold lsB
  rw [List.all_map, List.not_any_eq_all_not]
  rw [Bool.eq_iff_iff, List.all_eq_true, List.all_eq_true]
  refine forall_congr' fun y => forall_congr' fun hy => ?_
  have hy1 := lt y hy
  rw [← Bool.eq_iff_iff]
  show (decide (lsT y 10 = lsT x 10) || !((lsT x 10).all fun z => (lsT y 10).contains z)) = !(othB x y)
  rw [sub_bits hx1 hy1]
  unfold othB
  have e : decide (lsT y 10 = lsT x 10) = (x == y) := by
    rw [Bool.eq_iff_iff, decide_eq_true_iff, beq_iff_eq]
    constructor
    · intro h; rw [← bS_lsT hx1, ← bS_lsT hy1, h]
    · rintro rfl; rfl
  rw [e]
  cases x == y <;> simp
theorem pref_ls (N : Int) (X : List (List Int)) : lsB ((allB N X).filter fun x => !((allB N X).any (othB x))) = prefL N X := by
  have h1 : prefL N X = ((allB N X).map fun x => lsT x 10).filter (prefP N X) := by
    have := allB_ls N X
    unfold lsB at this
    rw [this]; rfl
  rw [h1]
  unfold lsB
  rw [List.filter_map]
  congr 1
  exact List.filter_congr fun x hx => (pref_bits hx).symm
set_option maxHeartbeats 4000000 in
theorem impPreferred_any {w : World} {A : Option Addr} {n c : Nat} {N : Int} {X : List (List Int)} (hl : Hid (X.length = n)) (hn : n ≤ 1099511627776) (hr : RdSS w w.heap.size A X) :
    Calls Try.prog 30 #[.agg #[.int .i64 N, .slice A n c]] w (FreshSS (prefL N X) w) := by
  obtain ⟨W1, hW, bx1, hb1⟩ := one_graph w #[Value.int IntKind.i64 N, Value.slice A n c] 27
  have HR := Lib.hid ((hr.below hb1).more hb1.size)
  have hW' := hW.symm
  obtain ⟨C0, C1⟩ := bx1.two
  have HSL := Lib.hid (pref_ls N X)
  have HAL := Lib.hid (allB_len N X)
  have HLT := Lib.hid (allB_lt N X)
  clear hW hr
  go_enter Try.func30, Try.ntmps30
  go_wp2_with fail
  refine (completePos_any hl hn HR.out).mono ?_
  rintro e w5 ⟨A5, c5, rfl, hrd5, hlc5, hlo5, hb5⟩
  have hb50 := hb1.trans (hb5.mono hb1.size)
  have hm6 := alloc_new w5 (Obj.cells #[] 98)
  have br6 := Bx.made w5 98 #[]
  obtain ⟨W6, hW6⟩ : ∃ u, u = w5.alloc (Obj.cells #[] 98) := ⟨_, rfl⟩
  have hz6 : w5.heap.size < W6.heap.size := by rw [hW6]; simp
  rw [← hW6] at hm6 br6
  have hW6' := hW6.symm
  have pr6 := PGr.start (rf N X) br6
  have hrd6 := (hrd5.below hm6).more hm6.size
  have HLO := Lib.hid (show psF (rf N X) (allB N X) ≠ [] → ∀ ad, A5 = some ad → ad.block ≠ w5.heap.size from fun hne ad e => by
    obtain ⟨u, l, hul⟩ := List.exists_cons_of_ne_nil hne
    obtain ⟨ad', e', hb', _⟩ := hrd5 0 u (by rw [hul]; rfl)
    rw [e] at e'
    injection e' with e'
    subst e'
    omega)
  have hb60 := hb50.trans (hm6.mono hb50.size)
  obtain ⟨hs, hhs⟩ : ∃ hs, hs = allB N X := ⟨_, rfl⟩
  rw [← hhs] at hrd5 hrd6 hlc5 HSL HAL HLT HLO ⊢
  have hfl := Lib.hid (rf_lt N X)
  obtain ⟨f, hf⟩ : ∃ f, f = rf N X := ⟨_, rfl⟩
  rw [← hf] at hrd6 pr6 hfl HLO
  obtain ⟨L, hL⟩ : ∃ L, L = hs.length := ⟨_, rfl⟩
  rw [← hL] at hlc5 HAL ⊢
  have hL1 := HAL.out
  have HLL := Lib.hid hL
  clear hhs hf hL C0 C1 hW' bx1 hb1 hb5 hW6 hrd5 hlo5 hm6 br6
  go_wp2_with fail
  go_loopw [4, 12] (fun s i wr => ∃ k : Nat, k ≤ L ∧ i = .int .i64 k ∧ PGr W6 w5.heap.size f wr s ((hs.take k).filter fun x => !(hs.any (othB x)))) (fun _ i _ => L - (intOf i).toNat)
  case atStart => exact ⟨0, Nat.zero_le _, rfl, pr6⟩
  case round =>
    obtain ⟨k, hk, rfl, hpr⟩ := hrel
    have hsz := hpr.out.size
    by_cases hlt : k < L
    · have hkz : k < hs.length := by rw [← HLL.out]; exact hlt
      have hrdw := hpr.rd hrd6 (Nat.le_refl _) HLO.out
      obtain ⟨ad, rfl, hab, ha, hb⟩ := ps_rd hrdw hkz
      have hxl := HLT.out hs[k] (List.getElem_mem _)
      have HT := Lib.hid (List.take_succ_eq_append_getElem hkz)
      obtain ⟨x, hx⟩ : ∃ x, x = hs[k] := ⟨_, rfl⟩
      rw [← hx] at ha hb hxl HT
      obtain ⟨Y, hY⟩ : ∃ Y, Y = (hs.take k).filter fun x => !(hs.any (othB x)) := ⟨_, rfl⟩
      have hYl : Y.length ≤ k := by rw [hY]; exact Nat.le_trans (List.length_filter_le _ _) (by simp; omega)
      rw [← hY] at hpr
      have k0 : (0 : Int) ≤ (k : Int) := by omega
      have hba := alloc_new wr (Obj.cells (psC x (hB f x 10)) 98)
      have bp := Bx.made wr 98 (psC x (hB f x 10))
      have hpr2 := hpr.new hba
      have HRW := Lib.hid ((hrdw.below hba).more hba.size)
      obtain ⟨W7, hW7⟩ : ∃ u, u = wr.alloc (Obj.cells (psC x (hB f x 10)) 98) := ⟨_, rfl⟩
      rw [← hW7] at hba bp hpr2 HRW
      have hW7' := hW7.symm
      have hz7 := hba.size
      unfold psC at hW7'
      obtain ⟨bo, hbo⟩ : ∃ b, b = hs.any (othB x) := ⟨_, rfl⟩
      have HFI := Lib.hid (show ((hs.take (k + 1)).filter fun x => !(hs.any (othB x))) = Y ++ if bo then [] else [x] by rw [HT.out, List.filter_append, ← hY]; simp only [List.filter_cons, ← hbo]; cases bo <;> rfl)
      have HBO := Lib.hid hbo
      clear hW7 hx hY hbo hrdw
      go_wp2_with (first | (refine ldPS rfl (.tmp 6) rfl bp rfl rfl ?_))
      refine (isPartOfAnother_any (p := x) (f := f) (hs := hs) (Lib.hid HLL.out.symm) (by omega) hxl HLT HRW.out).mono ?_
      rintro e w8 ⟨he, hb8⟩
      rw [← HBO.out] at he
      subst he
      have hpr8 := hpr2.new hb8
      have bp8 := bp.new hb8
      have hz8 := hb8.size
      clear hW7'
      cases bo with
      | true =>
        go_wp2_with fail
        go_roundw
        case rel => exact ⟨k + 1, by omega, by go_num, by rw [HFI.out]; simpa using hpr8⟩
        case measure => simp [intOf]; omega
      | false =>
        have hm9 := alloc_new w8 (Obj.cells (psC x (hB f x 10)) 98)
        have bm9 := Bx.made w8 98 (psC x (hB f x 10))
        have hpr9 := hpr8.new hm9
        unfold psC at bm9 hpr9 hm9 bp8
        go_wp2_with (first | (refine ldPS rfl (.tmp 6) rfl bp8 rfl rfl ?_) | (at_builtin; refine wpList_appP (p := x) rfl (.tmp 20) (.tmp 22) rfl hpr9 rfl rfl bm9 (by omega) (by simp; omega) ?_; intro A9 c9 w9 hprA hz9))
        go_roundw
        case rel => exact ⟨k + 1, by omega, by go_num, by rw [HFI.out]; exact hprA⟩
        case measure => simp [intOf]; omega
    · have e : k = L := by omega
      subst e
      have HFE := Lib.hid (show ((hs.take k).filter fun x => !(hs.any (othB x))) = hs.filter fun x => !(hs.any (othB x)) by rw [List.take_of_length_le (by rw [← HLL.out]; exact Nat.le_refl _)])
      rw [HFE.out] at hpr
      obtain ⟨A9, c9, rfl, hrd9, _⟩ := hpr.read
      have hb9 : Below w.heap.size w wr := hb60.trans (hpr.out.below hb50.size hb60.size)
      go_wp2_with fail
      refine (heldIn_any (hs := hs.filter fun x => !(hs.any (othB x))) (Lib.hid rfl) (by have := List.length_filter_le (fun x => !(hs.any (othB x))) hs; have := HLL.out; omega) (Lib.hid (fun h hh => HLT.out h (List.mem_filter.1 hh).1)) hrd9).mono ?_
      rintro e w10 ⟨v, rfl, hov, hb10⟩
      rw [HSL.out] at hov
      have hs9 := hb9.size
      go_wp2_with fail
      go_ret
      exact ⟨v, rfl, hov.wide hs9 (Nat.le_refl _), hb9.trans (hb10.mono hs9)⟩
end Go.Proofs.Ytejncjjkcmhmbaa
