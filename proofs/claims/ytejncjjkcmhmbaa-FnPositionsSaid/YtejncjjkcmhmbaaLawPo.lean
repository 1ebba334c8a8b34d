/- The law of chapter 7: what stands in any case is in every position, and stable positions are preferred ones. No conditions but that the code is small. -/
import Derived.Test.YtejncjjkcmhmbaaMg24
import Derived.Test.YtejncjjkcmhmbaaHold
import Derived.Test.YtejncjjkcmhmbaaGroundSum
import Derived.Test.YtejncjjkcmhmbaaVisD
import Derived.Test.YtejncjjkcmhmbaaAllM
import Derived.Test.YtejncjjkcmhmbaaPrefC
import Derived.Test.YtejncjjkcmhmbaaStabC
import Derived.Test.YtejncjjkcmhmbaaCredC
import Derived.Test.YtejncjjkcmhmbaaInAllM
import Derived.Test.YtejncjjkcmhmbaaSame
import Derived.Deep.RegionHeld3
import Derived.BigQuiet
import Derived.Deep.Quiet
namespace Go.Proofs.Ytejncjjkcmhmbaa
open Go.ChangeShapes Go.WideShapes Go.ChangeAt Go.RowKit
set_option maxRecDepth 100000
theorem drawPreferred {w : World} {A : Option Addr} {n c : Nat} (h : Code8 w A n) :
    Calls Try.prog 27 #[.slice A n c] w (DrewGr w) := by
  have br0 := Bx.made w 27 #[Value.int .i64 0, .slice none 0 0]
  have hb0 : Below w.heap.size w (w.alloc (Obj.cells #[Value.int .i64 0, .slice none 0 0] 27)) := (Below.refl _ _).alloc (Nat.le_refl _) _
  have h0 := h.below hb0
  have hs0 : (w.alloc (Obj.cells #[Value.int .i64 0, .slice none 0 0] 27)).heap.size = w.heap.size + 1 := by simp
  go_enter Try.func27, Try.ntmps27
  go_wp2_with fail
  refine (drawGraph h0).mono ?_
  rintro e w2 ⟨N, X, v, hok, rfl, hown2, hb2⟩
  obtain ⟨Av, cv, rfl, _, _, _⟩ := hown2.rd (n := X.length) rfl
  rw [hs0] at hown2
  have br2 := br0.new hb2
  have hbw2 := hb0.trans (hb2.mono hb0.size)
  have hsz2 := hb2.size
  rw [hs0] at hsz2
  obtain ⟨R0, R1⟩ := br2.two
  have r0 := br2.free 0
  have r1 := br2.free 1
  have hHB := Lib.hid br2
  have HOK := Lib.hid hok
  clear br0 hb0 h0 br2 hok hs0 hb2
  go_wp2_with fail
  have br2 := hHB.out
  refine bodyPost_ret (resGR rfl ((br2.set 0 _).set 1 _) rfl rfl) rfl ⟨N, X, _, HOK.out, rfl, ?_, (hbw2.setCell (p := ⟨w.heap.size, 0, none⟩) (Nat.le_refl _) _).setCell (p := ⟨w.heap.size, 1, none⟩) (Nat.le_refl _) _⟩
  exact ((hown2.setFar (p := ⟨w.heap.size, 0, none⟩) (.inl (by simp)) _).setFar (p := ⟨w.heap.size, 1, none⟩) (.inl (by simp)) _).wide (by omega) (by simp)
/-- What is kept: the graph; its positions, preferred and stable ones. -/
structure PO (W : World) (g : Nat) (N : Int) (A Al Ap As : Option Addr) (n c : Nat) (X L P S : List (List Int)) (w : World) : Prop where
  bx : Bx w g 27 #[.int .i64 N, .slice A n c]
  gr : RdSS w w.heap.size A X
  al : RdSS w w.heap.size Al L
  pr : RdSS w w.heap.size Ap P
  st : RdSS w w.heap.size As S
  hb : Below W.heap.size W w
section
variable {W : World} {g : Nat} {N : Int} {A Al Ap As : Option Addr} {n c : Nat} {X L P S : List (List Int)} {w w' : World}
theorem PO.new (h : PO W g N A Al Ap As n c X L P S w) (r : Below w.heap.size w w') : PO W g N A Al Ap As n c X L P S w' :=
  ⟨h.bx.new r, rdSS_new h.gr r, rdSS_new h.al r, rdSS_new h.pr r, rdSS_new h.st r, h.hb.trans (r.mono h.hb.size)⟩
theorem PO.drew (h : PO W g N A Al Ap As n c X L P S w) : PO W g N A Al Ap As n c X L P S w.drew := h.new ((Below.refl _ _).drew)
end
section
variable {W : World} {g : Nat} {N : Int} {A Al Ap As : Option Addr} {c : Nat} {X L P S : List (List Int)} {w : World} (h : PO W g N A Al Ap As X.length c X L P S w) (hX : Hid (X.length ≤ 1099511627776))
include h hX
theorem PO.isg {b : Bool} (hb : Hid (gB N X = b)) : Calls Try.prog 32 #[.agg #[.int .i64 N, .slice A X.length c]] w (Tells b w) := by
  rw [← hb.out]
  exact impIsGraph_any (Lib.hid rfl) hX.out h.gr
theorem PO.grd : Calls Try.prog 35 #[.agg #[.int .i64 N, .slice A X.length c]] w (Fresh 3 (ivs (grd N X)) w) :=
  impGrounded_any (Lib.hid rfl) hX.out h.gr
theorem PO.cert (a : Int) {b : Bool} (hb : Hid (certB N X a = b)) : Calls Try.prog 39 #[.agg #[.int .i64 N, .slice A X.length c], .int .i64 a] w (Tells b w) := by
  rw [← hb.out]
  exact impIsCertain_any (Lib.hid rfl) hX.out h.gr
theorem PO.cred (a : Int) {b : Bool} (hb : Hid (credB N X a = b)) : Calls Try.prog 40 #[.agg #[.int .i64 N, .slice A X.length c], .int .i64 a] w (Tells b w) := by
  rw [← hb.out]
  exact impIsCredible_any (Lib.hid rfl) hX.out h.gr
end
theorem RdSS.none_ {w : World} {B : Nat} {A : Option Addr} : RdSS w B A [] := fun k x hx => by simp at hx
theorem prefL_le (N : Int) (X : List (List Int)) : (prefL N X).length ≤ (allC N X).length := List.length_filter_le _ _
theorem grd_len40 (N : Int) (X : List (List Int)) : (grd N X).length ≤ 1099511627776 := by
  have := grd_len N X
  omega
theorem any_stab {P : List (List Int)} {s : List Int} (h : s ∈ P) : (P.any fun t => decide (s = t)) = true := List.any_eq_true.2 ⟨s, h, by simp⟩
set_option maxHeartbeats 20000000 in
theorem pos_core {W : World} {A : Option Addr} {n c : Nat} (h8 : Code8 W A n) (hn : n ≤ 1048576) :
    Calls Try.prog 7 #[.slice A n c] W (fun e W' => e = .returned (.bool true) ∧ Below W.heap.size W W') := by
  go_enter Try.func7, Try.ntmps7
  go_wp2_with fail
  refine (big_no hn).mono ?_
  rintro e w1 ⟨rfl, rfl⟩
  go_wp2_with fail
  refine (drawPreferred h8).mono ?_
  rintro e w1 ⟨N, X, v, hok, rfl, hown, hb1⟩
  obtain ⟨Av, cv, rfl, hrd, _, _⟩ := hown.rd (n := X.length) rfl
  have k2 : Below w1.heap.size w1 (w1.alloc (Obj.cells #[Value.int .i64 N, .slice Av X.length cv] 27)) := (Below.refl _ _).alloc (Nat.le_refl _) _
  have bx := Bx.made w1 27 #[Value.int .i64 N, .slice Av X.length cv]
  have gr := rdSS_new hrd k2
  have hb := hb1.trans (k2.mono hb1.size)
  have hX := Lib.hid hok.1
  obtain ⟨w2, hw2⟩ : ∃ z : World, z = w1.alloc (Obj.cells #[Value.int .i64 N, .slice Av X.length cv] 27) := ⟨_, rfl⟩
  rw [← hw2] at bx gr hb
  have HW2 := Lib.hid hw2.symm
  obtain ⟨g, hg⟩ : ∃ g, g = w1.heap.size := ⟨_, rfl⟩
  rw [← hg] at bx
  have HG := Lib.hid hg.symm
  obtain ⟨D0, D1⟩ := bx.two
  have HXL := Lib.hid (show X.length ≤ 1099511627776 by have := hX.out; omega)
  clear hw2 k2 hown hb1 hok hrd hg
  go_wp2_with fail
  rw [HW2.out, HG.out]
  clear HW2 HG
  refine (impAllComplete_any (X := X) (Lib.hid rfl) HXL.out gr).mono ?_
  rintro e w3 ⟨lv, rfl, hown, r⟩
  have HL1 := Lib.hid (allC_len N X)
  have HP1 := Lib.hid (prefL_le N X)
  have HAG := Lib.hid (fun s (hs : s ∈ allC N X) => allC_g hs)
  have HAM := Lib.hid (fun s => (allC_mem (N := N) (X := X) (s := s)).1)
  have HAR := Lib.hid (allC_row (N := N) (X := X))
  have HSP := Lib.hid (fun s => stab_pref (N := N) (X := X) (s := s))
  have HAN := Lib.hid (fun h => allC_none (N := N) (X := X) h)
  have HPN := Lib.hid (fun h => prefL_none (N := N) (X := X) h)
  have HPE := Lib.hid (fun h => prefL_ne (N := N) (X := X) h)
  have HGS := Lib.hid (fun s h => grd_sub (N := N) (X := X) (s := s) h)
  have HIG := Lib.hid (fun h => (inAllL_eq (allC N X)).trans (inAll_grd (N := N) (X := X) h))
  have HSA : Hid (∀ s ∈ stabL N X, s ∈ allC N X) := Lib.hid (fun s h => (List.mem_filter.1 h).1)
  have HPA : Hid (∀ s ∈ prefL N X, s ∈ allC N X) := Lib.hid (fun s h => (List.mem_filter.1 h).1)
  have HSL : Hid ((stabL N X).length ≤ (allC N X).length) := Lib.hid (List.length_filter_le _ _)
  obtain ⟨L, hL⟩ : ∃ L, L = allC N X := ⟨_, rfl⟩
  obtain ⟨P, hP⟩ : ∃ P, P = prefL N X := ⟨_, rfl⟩
  obtain ⟨S, hS⟩ : ∃ S, S = stabL N X := ⟨_, rfl⟩
  rw [← hL] at hown HL1 HP1 HAG HAM HAR HAN HGS HIG HSA HPA HSL
  rw [← hP] at HP1 HSP HPN HPE HPA
  rw [← hS] at HSP HSA HSL
  have HQL := Lib.hid hL
  have HQP := Lib.hid hP
  have HQS := Lib.hid hS
  clear hL hP hS
  obtain ⟨Al, cl, rfl, al, hcl, _⟩ := hown.rd (n := L.length) rfl
  replace bx := bx.new r
  replace gr := rdSS_new gr r
  replace hb := hb.trans (r.mono hb.size)
  clear D0 D1 r hown
  obtain ⟨D0, D1⟩ := bx.two
  go_wp2_with fail
  refine (specAllComplete_any (X := X) (Lib.hid rfl) HXL.out gr).mono ?_
  rintro e w4 ⟨lv, rfl, hrv, r⟩
  rw [← HQL.out] at hrv
  obtain ⟨A4, c4, rfl, _, _, _⟩ := hrv.rd (n := L.length) rfl
  replace bx := bx.new r
  replace gr := rdSS_new gr r
  replace al := rdSS_new al r
  replace hb := hb.trans (r.mono hb.size)
  clear D0 D1 r hrv
  obtain ⟨D0, D1⟩ := bx.two
  go_wp2_with fail
  refine (impPreferred_any (X := X) (Lib.hid rfl) HXL.out gr).mono ?_
  rintro e w5 ⟨lv, rfl, hown, r⟩
  rw [← HQP.out] at hown
  obtain ⟨Ap, cp, rfl, pr, _, _⟩ := hown.rd (n := P.length) rfl
  replace bx := bx.new r
  replace gr := rdSS_new gr r
  replace al := rdSS_new al r
  replace hb := hb.trans (r.mono hb.size)
  clear D0 D1 r hown
  obtain ⟨D0, D1⟩ := bx.two
  go_wp2_with fail
  refine (impStableSets_any (X := X) (Lib.hid rfl) HXL.out gr).mono ?_
  rintro e w6 ⟨lv, rfl, hown, r⟩
  rw [← HQS.out] at hown
  obtain ⟨As, cs, rfl, st, _, _⟩ := hown.rd (n := S.length) rfl
  have hf : PO W g N Av Al Ap As X.length cv X L P S w6 := ⟨bx.new r, rdSS_new gr r, rdSS_new al r, rdSS_new pr r, st, hb.trans (r.mono hb.size)⟩
  clear D0 D1 r hown bx gr al pr st hb
  obtain ⟨D0, D1⟩ := hf.bx.two
  cases hgb : gB N X with
  | false =>
    have HGB := Lib.hid hgb
    have eL : L = [] := HAN.out hgb
    have eP : P = [] := HPN.out hgb
    have eS : S = [] := List.eq_nil_of_length_eq_zero (by have := HSL.out; rw [eL] at this; simpa using this)
    clear hgb HL1 HP1 HAG HAM HAR HSP HAN HPN HPE HGS HIG HSA HPA HSL HQL HQP HQS
    subst eL eP eS
    rw [show ([] : List (List Int)).length = 0 from rfl]
    go_wp2_with fail
    refine (hf.isg HXL HGB).mono ?_
    rintro e u1 ⟨rfl, r⟩
    replace hf := hf.new r
    clear D0 D1 r
    obtain ⟨D0, D1⟩ := hf.bx.two
    go_wp2_with fail
    go_loopw [7] (fun i wr => i = .int .i64 0 ∧ PO W g N Av Al Ap As X.length cv X [] [] [] wr) (fun i _ => 0)
    case atStart => exact ⟨rfl, hf⟩
    case round =>
      obtain ⟨rfl, hd⟩ := hrel
      clear D0 D1 hf
      obtain ⟨D0, D1⟩ := hd.bx.two
      have KE := fun (u : World) (q : Below wr.heap.size wr u) => show Below wr.heap.size wr u ∧ True from ⟨q, trivial⟩
      go_wp2_with fail
      refine wp_region_quiet (C := fun u => Below wr.heap.size wr u ∧ True) (by kernel_rfl) (by kernel_rfl) (KE _ (Below.refl _ _).drew) ?_
      rw [List.toList_toArray]
      go_big_quiet_want
      go_big_quiet_op
      go_big_quiet_on
      go_big_quiet_want
      apply Exists.intro
      refine ⟨fun u hu => ?_, ?_⟩
      · obtain ⟨hu0, hu1⟩ := hu
        unfold Oper.quietAt
        go_simp
        try rfl
      simp only [Act.put, List.setIfInBounds_toArray, List.set_cons_zero, List.set_cons_succ]
      go_big_quiet_on
      go_big_quiet_want
      apply Exists.intro
      refine ⟨fun u hu => ?_, ?_⟩
      · obtain ⟨hu0, hu1⟩ := hu
        unfold Oper.quietAt
        go_simp
        try rfl
      simp only [Act.put, List.setIfInBounds_toArray, List.set_cons_zero, List.set_cons_succ]
      go_big_quiet_on
      go_big_quiet_want
      go_big_quiet_op
      go_big_quiet_on
      repeat go_big_quiet_skip
      go_big_quiet_want
      apply Exists.intro
      refine ⟨fun u hu => ?_, ?_⟩
      · obtain ⟨hu0, hu1⟩ := hu
        unfold Oper.quietAt
        go_simp
        try rfl
      simp only [Act.put, List.setIfInBounds_toArray, List.set_cons_zero, List.set_cons_succ]
      go_big_quiet_on
      refine wpQuiet_nil ?_
      rintro u ⟨r, _⟩
      replace hd := hd.new r
      clear D0 D1 r KE
      obtain ⟨D0, D1⟩ := hd.bx.two
      go_wp2_with fail
      go_loopw [8] (fun i wr => i = .int .i64 0 ∧ PO W g N Av Al Ap As X.length cv X [] [] [] wr) (fun i _ => 0)
      case atStart => exact ⟨rfl, hd⟩
      case round =>
        obtain ⟨rfl, hd'⟩ := hrel
        clear D0 D1 hd
        obtain ⟨D0, D1⟩ := hd'.bx.two
        go_wp2_with fail
        go_loopw [11] (fun i wr => i = .int .i64 0 ∧ PO W g N Av Al Ap As X.length cv X [] [] [] wr) (fun i _ => 0)
        case atStart => exact ⟨rfl, hd'⟩
        case round =>
          obtain ⟨rfl, hd⟩ := hrel
          clear D0 D1 hd'
          obtain ⟨D0, D1⟩ := hd.bx.two
          by_cases h0 : 0 < N
          · go_wp2_with fail
            refine (hd.isg HXL HGB).mono ?_
            rintro e u1 ⟨rfl, r⟩
            replace hd := hd.new r
            go_wp2_with fail
            go_ret
            exact ⟨rfl, hd.hb⟩
          · go_wp2_with fail
            go_ret
            exact ⟨rfl, hd.hb⟩
  | true =>
    obtain ⟨m, rfl, hm10, _, _⟩ := gB_ok hgb
    have HGB := Lib.hid hgb
    have hP0 : 0 < P.length := List.length_pos_iff.2 (HPE.out hgb)
    have hPL := HP1.out
    have hL0 : 0 < L.length := by omega
    have HIE := Lib.hid (HIG.out hgb)
    have HCC := Lib.hid (fun (c : Int) (h : (grd m X).contains c = true) => grd_cert h hgb)
    have HCD := Lib.hid (fun (c : Int) (h : certB m X c = true) => cert_cred h)
    have HG10 := Lib.hid (grd_len m X)
    have HIL : Hid ((inAllL L).length ≤ 17592186043904) := Lib.hid (by rw [HIE.out]; have := HG10.out; omega)
    have HCL := Lib.hid hcl
    have HLL := Lib.hid HL1.out
    have dP : decide ((0 : Int) < (P.length : Int)) = true := by simpa using hP0
    have dL : decide ((0 : Int) < (L.length : Int)) = true := by simpa using hL0
    have dPL : decide ((L.length : Int) < (P.length : Int)) = false := by simp; omega
    have dPLn : decide (L.length < P.length) = false := by simp; omega
    have hll := HLL.out
    have hsl : S.length ≤ 1024 := by have := HSL.out; omega
    clear hgb hcl
    go_wp2_with fail
    refine (hf.isg HXL HGB).mono ?_
    rintro e u1 ⟨rfl, r⟩
    replace hf := hf.new r
    clear D0 D1 r
    obtain ⟨D0, D1⟩ := hf.bx.two
    go_wp2_with fail
    go_loopw [7] (fun i wr => ∃ k : Nat, k ≤ L.length ∧ i = .int .i64 k ∧ PO W g m Av Al Ap As X.length cv X L P S wr) (fun i _ => L.length - (intOf i).toNat)
    case atStart => exact ⟨0, Nat.zero_le _, rfl, hf⟩
    case round =>
      obtain ⟨k, hk, rfl, hd⟩ := hrel
      clear D0 D1 hf
      obtain ⟨D0, D1⟩ := hd.bx.two
      by_cases hlt : k < L.length
      · obtain ⟨ad, Aj, cj, rfl, hab, hc, _, _, hrs⟩ := hd.al.at_ hlt
        have hmem := List.getElem_mem hlt
        have HSC := Lib.hid (HAM.out _ hmem)
        have HSW := Lib.hid (show ((grd m X).all fun z => L[k].contains z) = true from List.all_eq_true.2 fun z hz => by rw [List.contains_iff_mem]; exact HGS.out _ hmem z hz)
        have HSN := Lib.hid (show L[k].length ≤ 1099511627776 by have := HAR.out _ hmem; omega)
        obtain ⟨s, hs⟩ : ∃ s, s = L[k] := ⟨_, rfl⟩
        rw [← hs] at hc hrs HSC HSW HSN
        have i0 : (0 : Int) ≤ (k : Int) := by omega
        have i1 : (k : Int) < (L.length : Int) := by omega
        have KE := fun (u : World) (q : Below wr.heap.size wr u) => show Below wr.heap.size wr u ∧ u.cell? ⟨g, 0, none⟩ = some (.int .i64 m) ∧ u.cell? ⟨g, 1, none⟩ = some (.slice Av X.length cv) ∧ u.cell? (ad.add k) = some (.slice Aj s.length cj) from ⟨q, (hd.bx.new q).two.1, (hd.bx.new q).two.2, (q.cell (p := ad.add k) (by rw [add_blk]; exact hab)).trans hc⟩
        clear hs hmem
        go_wp2_with fail
        go_region_held3 (fun u => Below wr.heap.size wr u ∧ u.cell? ⟨g, 0, none⟩ = some (.int .i64 m) ∧ u.cell? ⟨g, 1, none⟩ = some (.slice Av X.length cv) ∧ u.cell? (ad.add k) = some (.slice Aj s.length cj)) (first | assumption | with_reducible exact KE _ (Below.refl _ _) | with_reducible exact KE _ (Below.refl _ _).drew | with_reducible exact KE _ k9 | with_reducible exact KE _ k8 | with_reducible exact KE _ k9.drew)
          (first
            | (go_at_call 33; (with_reducible refine (impIsComplete_any (N := m) (X := X) (S := s) (Lib.hid rfl) HXL.out (rdSS_new hd.gr (‹Below wr.heap.size wr _ ∧ _›).1) (Lib.hid rfl) HSN.out (rd_new hrs (‹Below wr.heap.size wr _ ∧ _›).1)).mono ?_); rintro e u9 ⟨he, hb9⟩; rw [HSC.out] at he; subst he; have k9 := trans_new (‹Below wr.heap.size wr _ ∧ _›).1 hb9)
            | (go_at_call 35; (with_reducible refine (impGrounded_any (N := m) (X := X) (Lib.hid rfl) HXL.out (rdSS_new hd.gr (‹Below wr.heap.size wr _ ∧ _›).1)).mono ?_); rintro e u8 ⟨v8, rfl, hrow8, hb8⟩; obtain ⟨A8, c8, rfl, hr8, _, _⟩ := hrow8.rd (n := (grd m X).length) (ivs_len _); have k8 := trans_new (‹Below wr.heap.size wr _ ∧ _›).1 hb8)
            | (go_at_call 34; (with_reducible refine (within_any (S := grd m X) (T := s) (Lib.hid rfl) (grd_len40 m X) (Lib.hid rfl) HSN.out hr8 (rd_new hrs k8)).mono ?_); rintro e u7 ⟨he, rfl⟩; rw [HSW.out] at he; subst he; have k9 := k8))
        have r := k8
        replace hd := hd.new r
        clear D0 D1 r KE
        obtain ⟨D0, D1⟩ := hd.bx.two
        go_wp2_with fail
        go_roundw
        case rel => exact ⟨k + 1, by omega, by go_num, hd⟩
        case measure => simp [intOf]; omega
      · have e : k = L.length := by omega
        subst e
        go_wp2_with fail
        have KE := fun (u : World) (q : Below wr.heap.size wr u) => show Below wr.heap.size wr u ∧ u.cell? ⟨g, 0, none⟩ = some (.int .i64 m) ∧ u.cell? ⟨g, 1, none⟩ = some (.slice Av X.length cv) from ⟨q, (hd.bx.new q).two.1, (hd.bx.new q).two.2⟩
        have HRS := Lib.hid (show ∀ x ∈ L, x.length ≤ 1099511627776 from fun x hx => by have := HAR.out x hx; omega)
        have HGZ := Lib.hid (show (grd m X).length ≤ 17592186043904 by have := HG10.out; omega)
        have HSM : Hid (decide (inAllL L = grd m X) = true) := Lib.hid (by rw [HIE.out]; simp)
        have HCL2 := Lib.hid (show L.length ≤ 1099511627776 by omega)
        go_region_held3 (fun u => Below wr.heap.size wr u ∧ u.cell? ⟨g, 0, none⟩ = some (.int .i64 m) ∧ u.cell? ⟨g, 1, none⟩ = some (.slice Av X.length cv)) (first | assumption | with_reducible exact KE _ (Below.refl _ _) | with_reducible exact KE _ (Below.refl _ _).drew | with_reducible exact KE _ k9 | with_reducible exact KE _ k8)
          (first
            | (go_at_call 37; (with_reducible refine (impInAll_any (X := L) (Lib.hid rfl) HCL2.out HCL.out HRS (rdSS_new hd.al (‹Below wr.heap.size wr _ ∧ _›).1)).mono ?_); rintro e u9 ⟨v9, rfl, hrow9, hb9⟩; obtain ⟨A9, c9, rfl, hr9, _, _⟩ := hrow9.rd (n := (inAllL L).length) (ivs_len _); have k9 := trans_new (‹Below wr.heap.size wr _ ∧ _›).1 hb9)
            | (go_at_call 35; (with_reducible refine (impGrounded_any (N := m) (X := X) (Lib.hid rfl) HXL.out (rdSS_new hd.gr (‹Below wr.heap.size wr _ ∧ _›).1)).mono ?_); rintro e u8 ⟨v8, rfl, hrow8, hb8⟩; obtain ⟨A8, c8, rfl, hr8, _, _⟩ := hrow8.rd (n := (grd m X).length) (ivs_len _); have k8 := trans_new (‹Below wr.heap.size wr _ ∧ _›).1 hb8)
            | (go_at_call 36; (refine (sameInts_any (zs := inAllL L) (ys := grd m X) (Lib.hid rfl) (Lib.hid rfl) HIL.out HGZ.out (by first | exact hr9 | exact rd_new hr9 hb8) (by first | exact hr8 | exact rd_new hr8 hb9)).mono ?_); rintro e u7 ⟨he, hb7⟩; rw [HSM.out] at he; subst he; have k9 := trans_new (‹Below wr.heap.size wr _ ∧ _›).1 hb7))
        all_goals
          have r := k9
          replace hd := hd.new r
          clear D0 D1 r KE
          obtain ⟨D0, D1⟩ := hd.bx.two
          go_wp2_with fail
          go_loopw [8] (fun i wr => ∃ k : Nat, k ≤ S.length ∧ i = .int .i64 k ∧ PO W g m Av Al Ap As X.length cv X L P S wr) (fun i _ => S.length - (intOf i).toNat)
          case atStart => exact ⟨0, Nat.zero_le _, rfl, hd⟩
          case round =>
            obtain ⟨k, hk, rfl, hd⟩ := hrel
            clear D0 D1
            by_cases hlt : k < S.length
            · have hmem := HSP.out _ (List.getElem_mem hlt)
              have HAN := Lib.hid (any_stab hmem)
              have HSN := Lib.hid (show S[k].length ≤ 17592186043904 by have := HAR.out _ (HSA.out _ (List.getElem_mem hlt)); omega)
              have i0 : (0 : Int) ≤ (k : Int) := by omega
              have i1 : (k : Int) < (S.length : Int) := by omega
              clear hmem
              go_wp2_with fail
              go_loopw [9, 10] (fun b i wr => ∃ j : Nat, j ≤ P.length ∧ i = .int .i64 j ∧ b = .bool ((P.take j).any fun t => decide (S[k] = t)) ∧ PO W g m Av Al Ap As X.length cv X L P S wr) (fun _ i _ => P.length - (intOf i).toNat)
              case atStart => exact ⟨0, Nat.zero_le _, rfl, rfl, hd⟩
              case round =>
                obtain ⟨j, hj, rfl, rfl, hd⟩ := hrel
                by_cases hlj : j < P.length
                · obtain ⟨ad, Aj, cj, e1, hab, hc, _, _, hrs⟩ := hd.st.at_ hlt
                  obtain ⟨ad2, Ak, ck, e2, hab2, hc2, _, _, hrt⟩ := hd.pr.at_ hlj
                  subst e1 e2
                  have HTN := Lib.hid (show P[j].length ≤ 17592186043904 by have := HAR.out _ (HPA.out _ (List.getElem_mem hlj)); omega)
                  have HTS := Lib.hid (any_take (X := P) (f := fun t => decide (S[k] = t)) hlj)
                  have KE := fun (u : World) (q : Below wr.heap.size wr u) => show Below wr.heap.size wr u ∧ u.cell? (ad.add k) = some (.slice Aj S[k].length cj) ∧ u.cell? (ad2.add j) = some (.slice Ak P[j].length ck) from ⟨q, (q.cell (p := ad.add k) (by rw [add_blk]; exact hab)).trans hc, (q.cell (p := ad2.add j) (by rw [add_blk]; exact hab2)).trans hc2⟩
                  obtain ⟨s, hs⟩ : ∃ s, s = S[k] := ⟨_, rfl⟩
                  obtain ⟨t, ht⟩ : ∃ t, t = P[j] := ⟨_, rfl⟩
                  have HS := Lib.hid hs
                  rw [← hs] at hc hrs HSN HTS KE ⊢
                  rw [← ht] at hc2 hrt HTN HTS KE
                  obtain ⟨b, hb⟩ : ∃ b, b = (P.take j).any fun t => decide (s = t) := ⟨_, rfl⟩
                  rw [← hb] at HTS ⊢
                  obtain ⟨d, hdd⟩ : ∃ d, d = decide (s = t) := ⟨_, rfl⟩
                  rw [← hdd] at HTS
                  have HD := Lib.hid hdd
                  have j0 : (0 : Int) ≤ (j : Int) := by omega
                  have j1 : (j : Int) < (P.length : Int) := by omega
                  clear hs ht hb hdd
                  cases b with
                  | true =>
                    go_wp2_with fail
                    refine wp_region_quiet (C := fun u => Below wr.heap.size wr u ∧ u.cell? (ad.add k) = some (.slice Aj s.length cj) ∧ u.cell? (ad2.add j) = some (.slice Ak t.length ck)) (by kernel_rfl) (by kernel_rfl) (KE _ (Below.refl _ _).drew) ?_
                    rw [List.toList_toArray]
                    go_big_quiet_want
                    go_big_quiet_op
                    go_big_quiet_on
                    go_big_quiet_want
                    go_big_quiet_op
                    go_big_quiet_on
                    repeat go_big_quiet_skip
                    go_big_quiet_want
                    apply Exists.intro
                    refine ⟨fun u hu => ?_, ?_⟩
                    · obtain ⟨hu0, hu1, hu2⟩ := hu
                      unfold Oper.quietAt
                      go_simp
                      try rfl
                    simp only [Act.put, List.setIfInBounds_toArray, List.set_cons_zero, List.set_cons_succ]
                    go_big_quiet_on
                    go_big_quiet_want
                    apply Exists.intro
                    refine ⟨fun u hu => ?_, ?_⟩
                    · obtain ⟨hu0, hu1, hu2⟩ := hu
                      unfold Oper.quietAt
                      go_simp
                      try rfl
                    simp only [Act.put, List.setIfInBounds_toArray, List.set_cons_zero, List.set_cons_succ]
                    go_big_quiet_on
                    refine wpQuiet_nil ?_
                    rintro u ⟨r, _⟩
                    have hd2 := hd.new r
                    go_wp2_with fail
                    go_roundw
                    case rel => exact ⟨j + 1, by omega, by go_num, by rw [HTS.out]; rfl, hd2⟩
                    case measure => simp [intOf]; omega
                  | false =>
                    go_wp2_with fail
                    refine wp_region_quiet (C := fun u => Below wr.heap.size wr u ∧ u.cell? (ad.add k) = some (.slice Aj s.length cj) ∧ u.cell? (ad2.add j) = some (.slice Ak t.length ck)) (by kernel_rfl) (by kernel_rfl) (KE _ (Below.refl _ _).drew) ?_
                    rw [List.toList_toArray]
                    go_big_quiet_want
                    go_big_quiet_op
                    go_big_quiet_on
                    go_big_quiet_want
                    go_big_quiet_op
                    go_big_quiet_on
                    go_big_quiet_want
                    go_big_quiet_op
                    go_big_quiet_on
                    go_big_quiet_want
                    go_big_quiet_op
                    go_big_quiet_on
                    go_big_quiet_want
                    apply Exists.intro
                    refine ⟨fun u hu => ?_, ?_⟩
                    · obtain ⟨hu0, hu1, hu2⟩ := hu
                      unfold Oper.quietAt
                      go_simp
                      try rfl
                    simp only [Act.put, List.setIfInBounds_toArray, List.set_cons_zero, List.set_cons_succ]
                    go_big_quiet_on
                    go_big_quiet_want
                    apply Exists.intro
                    refine ⟨fun u hu => ?_, ?_⟩
                    · obtain ⟨hu0, hu1, hu2⟩ := hu
                      unfold Oper.quietAt
                      go_simp
                      try rfl
                    simp only [Act.put, List.setIfInBounds_toArray, List.set_cons_zero, List.set_cons_succ]
                    go_big_quiet_on
                    go_big_quiet_want
                    go_big_quiet_op
                    go_big_quiet_on
                    go_big_quiet_want
                    go_big_quiet_op
                    go_big_quiet_on
                    go_big_quiet_want
                    apply Exists.intro
                    refine ⟨fun u hu => ?_, ?_⟩
                    · obtain ⟨hu0, hu1, hu2⟩ := hu
                      unfold Oper.quietAt
                      go_simp
                      try rfl
                    simp only [Act.put, List.setIfInBounds_toArray, List.set_cons_zero, List.set_cons_succ]
                    go_big_quiet_on
                    go_big_quiet_want
                    apply Exists.intro
                    refine ⟨fun u hu => ?_, ?_⟩
                    · obtain ⟨hu0, hu1, hu2⟩ := hu
                      unfold Oper.quietAt
                      go_simp
                      try rfl
                    simp only [Act.put, List.setIfInBounds_toArray, List.set_cons_zero, List.set_cons_succ]
                    go_big_quiet_on
                    go_big_quiet_want
                    refine ⟨.bool d, fun u hu => ?_, ?_⟩
                    · obtain ⟨hu0, hu1, hu2⟩ := hu
                      unfold Oper.quietAt
                      go_simp
                      refine (sameInts_any (zs := s) (ys := t) (Lib.hid rfl) (Lib.hid rfl) HSN.out HTN.out (rd_new hrs hu0) (rd_new hrt hu0)).mono ?_
                      rintro e u9 ⟨he, hb9⟩
                      rw [← HD.out] at he
                      exact ⟨he, KE _ (trans_new hu0 hb9)⟩
                    simp only [Act.put, List.setIfInBounds_toArray, List.set_cons_zero, List.set_cons_succ]
                    go_big_quiet_on
                    go_big_quiet_want
                    apply Exists.intro
                    refine ⟨fun u hu => ?_, ?_⟩
                    · obtain ⟨hu0, hu1, hu2⟩ := hu
                      unfold Oper.quietAt
                      go_simp
                      try rfl
                    simp only [Act.put, List.setIfInBounds_toArray, List.set_cons_zero, List.set_cons_succ]
                    go_big_quiet_on
                    go_big_quiet_want
                    apply Exists.intro
                    refine ⟨fun u hu => ?_, ?_⟩
                    · obtain ⟨hu0, hu1, hu2⟩ := hu
                      unfold Oper.quietAt
                      go_simp
                      try rfl
                    simp only [Act.put, List.setIfInBounds_toArray, List.set_cons_zero, List.set_cons_succ]
                    go_big_quiet_on
                    refine wpQuiet_nil ?_
                    rintro u ⟨r, _⟩
                    have hd2 := hd.new r
                    go_wp2_with fail
                    go_roundw
                    case rel => exact ⟨j + 1, by omega, by go_num, by rw [HTS.out]; rfl, hd2⟩
                    case measure => simp [intOf]; omega
                · have e : j = P.length := by omega
                  subst e
                  rw [List.take_length, HAN.out]
                  go_wp2_with fail
                  go_roundw
                  case rel => exact ⟨k + 1, by omega, by go_num, hd⟩
                  case measure => simp [intOf]; omega
            · have e : k = S.length := by omega
              subst e
              go_wp2_with fail
              go_loopw [11] (fun i wr => ∃ k : Nat, k ≤ m ∧ i = .int .i64 k ∧ PO W g m Av Al Ap As X.length cv X L P S wr) (fun i _ => m - (intOf i).toNat)
              case atStart => exact ⟨0, Nat.zero_le _, rfl, hd⟩
              case round =>
                obtain ⟨k, hk, rfl, hd⟩ := hrel
                obtain ⟨D0, D1⟩ := hd.bx.two
                by_cases hlt : (k : Int) < m
                · have hkm : k < m := by omega
                  go_wp2_with fail
                  refine (hd.isg HXL HGB).mono ?_
                  rintro e uu ⟨rfl, r⟩
                  replace hd := hd.new r
                  clear D0 D1 r
                  obtain ⟨D0, D1⟩ := hd.bx.two
                  cases hA : (grd m X).contains (k : Int) with
                  | true =>
                    have HA := Lib.hid hA
                    have HB := Lib.hid (HCC.out _ hA)
                    have HC := Lib.hid (HCD.out _ HB.out)
                    clear hA
                    go_wp2_with fail
                    refine (hd.grd HXL).mono ?_
                    rintro e ug ⟨v9, rfl, hrow9, r⟩
                    obtain ⟨A9, c9, rfl, hr9, _, _⟩ := hrow9.rd (n := (grd m X).length) (ivs_len _)
                    replace hd := hd.new r
                    clear D0 D1 r hrow9
                    obtain ⟨D0, D1⟩ := hd.bx.two
                    go_wp2_with fail
                    refine (contains_any (S := grd m X) (a := (k : Int)) (Lib.hid rfl) (grd_len40 m X) hr9).mono ?_
                    rintro e uc ⟨rfl, rfl⟩
                    rw [HA.out]
                    go_wp2_with fail
                    refine (hd.cert HXL (k : Int) HB).mono ?_
                    rintro e uu ⟨rfl, r⟩
                    replace hd := hd.new r
                    clear D0 D1 r
                    obtain ⟨D0, D1⟩ := hd.bx.two
                    go_wp2_with fail
                    refine (hd.cert HXL (k : Int) HB).mono ?_
                    rintro e uu ⟨rfl, r⟩
                    replace hd := hd.new r
                    clear D0 D1 r
                    obtain ⟨D0, D1⟩ := hd.bx.two
                    go_wp2_with fail
                    refine (hd.cred HXL (k : Int) HC).mono ?_
                    rintro e uu ⟨rfl, r⟩
                    replace hd := hd.new r
                    clear D0 D1 r
                    obtain ⟨D0, D1⟩ := hd.bx.two
                    go_wp2_with fail
                    go_roundw
                    case rel => exact ⟨k + 1, by omega, by go_num, hd⟩
                    case measure => simp [intOf]; omega
                  | false =>
                    have HA := Lib.hid hA
                    clear hA
                    cases hB : certB m X (k : Int) with
                    | true =>
                      have HB := Lib.hid hB
                      have HC := Lib.hid (HCD.out _ HB.out)
                      clear hB
                      go_wp2_with fail
                      refine (hd.grd HXL).mono ?_
                      rintro e ug ⟨v9, rfl, hrow9, r⟩
                      obtain ⟨A9, c9, rfl, hr9, _, _⟩ := hrow9.rd (n := (grd m X).length) (ivs_len _)
                      replace hd := hd.new r
                      clear D0 D1 r hrow9
                      obtain ⟨D0, D1⟩ := hd.bx.two
                      go_wp2_with fail
                      refine (contains_any (S := grd m X) (a := (k : Int)) (Lib.hid rfl) (grd_len40 m X) hr9).mono ?_
                      rintro e uc ⟨rfl, rfl⟩
                      rw [HA.out]
                      go_wp2_with fail
                      refine (hd.cert HXL (k : Int) HB).mono ?_
                      rintro e uu ⟨rfl, r⟩
                      replace hd := hd.new r
                      clear D0 D1 r
                      obtain ⟨D0, D1⟩ := hd.bx.two
                      go_wp2_with fail
                      refine (hd.cred HXL (k : Int) HC).mono ?_
                      rintro e uu ⟨rfl, r⟩
                      replace hd := hd.new r
                      clear D0 D1 r
                      obtain ⟨D0, D1⟩ := hd.bx.two
                      go_wp2_with fail
                      go_roundw
                      case rel => exact ⟨k + 1, by omega, by go_num, hd⟩
                      case measure => simp [intOf]; omega
                    | false =>
                      have HB := Lib.hid hB
                      clear hB
                      go_wp2_with fail
                      refine (hd.grd HXL).mono ?_
                      rintro e ug ⟨v9, rfl, hrow9, r⟩
                      obtain ⟨A9, c9, rfl, hr9, _, _⟩ := hrow9.rd (n := (grd m X).length) (ivs_len _)
                      replace hd := hd.new r
                      clear D0 D1 r hrow9
                      obtain ⟨D0, D1⟩ := hd.bx.two
                      go_wp2_with fail
                      refine (contains_any (S := grd m X) (a := (k : Int)) (Lib.hid rfl) (grd_len40 m X) hr9).mono ?_
                      rintro e uc ⟨rfl, rfl⟩
                      rw [HA.out]
                      go_wp2_with fail
                      refine (hd.cert HXL (k : Int) HB).mono ?_
                      rintro e uu ⟨rfl, r⟩
                      replace hd := hd.new r
                      clear D0 D1 r
                      obtain ⟨D0, D1⟩ := hd.bx.two
                      go_wp2_with fail
                      go_roundw
                      case rel => exact ⟨k + 1, by omega, by go_num, hd⟩
                      case measure => simp [intOf]; omega
                · go_wp2_with fail
                  go_ret
                  exact ⟨rfl, hd.hb⟩
end Go.Proofs.Ytejncjjkcmhmbaa
