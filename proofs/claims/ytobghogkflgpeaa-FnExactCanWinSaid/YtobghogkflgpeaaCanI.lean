/- Contracts of the code's gameOf, CanWin and BestAnswer. Condition: the slices have at most 2^40 elements. -/
import Derived.Test.YtobghogkflgpeaaCanC
import Derived.Test.YtobghogkflgpeaaIsG2
import Derived.Test.YtobghogkflgpeaaRowsOf
import Derived.Test.YtobghogkflgpeaaFreeC
import Derived.Test.YtobghogkflgpeaaFreeD
import Derived.Test.YtobghogkflgpeaaAnsM
namespace Go.Proofs.Ytobghogkflgpeaa
open Go.ChangeShapes Go.WideShapes Go.ChangeAt Go.RowKit
set_option maxRecDepth 100000
theorem stGM {w : World} {ops : Array Oper} {rest : List Oper} {o : Oper} {a : Act} {Q : Exit → Act → World → Prop} {cs : Array Value} (hgd : o.guard = none) (x y : Operand) (ho : o.op = .store 73 x y) {g : Nat} {n : Int} {f : Nat → Nat} {B : Nat} (h : Bx w g 73 cs) (hs : cs.size = 12) (hx : a.eval x = .pointer (some ⟨g, 0, none⟩)) (hy : a.eval y = .agg (gmC n f B)) (K : wpList Try.prog ops Q rest (a.put o.dst undef) (w.setRow g (gmC n f B))) : wpList Try.prog ops Q (o :: rest) a w :=
  wpList_store_row hgd _ x y ho g (gmC n f B) hx hy _ cs h (by rw [GM_info]; rfl) (by rw [hs]; rfl) (by simp [gmC, Value.oneCell']) K
theorem resGM {w : World} {fn : Func} {p : Tmp} {tmps : Array Value} {g : Nat} {cs : Array Value} (h : fn.results = #[.cell p 73]) (hb : Bx w g 73 cs) (hs : cs.size = 12) (hp : tmps.getD p undef = .pointer (some ⟨g, 0, none⟩)) : (results fn tmps).run Try.prog w = .ok (.agg cs) w :=
  results_cell_row h tmps w g _ cs (0, 0) _ hp hb Try.underlying73 rfl (by rw [GM_info, hs])
def gm0 : Array Value := #[.int .i64 0, .int .u16 0, .int .u16 0, .int .u16 0, .int .u16 0, .int .u16 0, .int .u16 0, .int .u16 0, .int .u16 0, .int .u16 0, .int .u16 0, .map none]
theorem MapOK.out {N : Int} {X : List (List Int)} {B lo hi : Nat} {w w' : World} (h : MapOK N X B w) (o : Out lo hi w w') (hd : B < lo ∨ hi ≤ B) : MapOK N X B w' := by
  have hlt := h.lt
  obtain ⟨es, clock, h1, h2⟩ := h
  exact ⟨es, clock, (o.block B hlt hd).trans h1, h2⟩
section
variable {w : World} {A A' : Option Addr} {n c n' c' : Nat} {N : Int} {X : List (List Int)} {a : Int}
set_option maxHeartbeats 4000000 in
theorem gameOf_any (hl : Hid (X.length = n)) (hn : n ≤ 1099511627776) (hr : RdSS w w.heap.size A X) :
    Calls Try.prog 44 #[.agg #[.int .i64 N, .slice A n c]] w (fun e w' => ∃ B, e = .returned (.agg (gmC (rn N X) (rf N X) B)) ∧ w.heap.size ≤ B ∧ MapOK N X B w' ∧ Below w.heap.size w w') := by
  obtain ⟨W1, hW, b1, b2, hb1, hs1⟩ := two_blocks w #[Value.int IntKind.i64 N, Value.slice A n c] gm0 27 73
  have HR := Lib.hid ((hr.below hb1).more hb1.size)
  obtain ⟨C0, C1⟩ := b1.two
  have HS := Lib.hid hs1
  have hmm := @run_makeMap Try.prog
  unfold gm0 at hW
  clear hr hs1
  go_enter Try.func44, Try.ntmps44
  go_wp2_with fail
  refine (rowsOf_any hl hn HR.out).mono ?_
  rintro e w2 ⟨rfl, hb2⟩
  unfold arC
  have b22 := b2.new hb2
  have k3 := alloc_new w2 (.map #[] 0)
  have b23 := b22.new k3
  have hm := MapOK.made (N := N) (X := X) w2
  have hb3 := hb1.trans (hb2.mono hb1.size)
  have hb4 := hb3.trans (k3.mono hb3.size)
  have hz := HS.out
  have hz2 := hb2.size
  clear hW C0 C1
  go_wp2_with (refine stGM (n := rn N X) (f := rf N X) (B := w2.heap.size) rfl (.tmp 2) (.tmp 6) rfl b23 rfl rfl rfl ?_)
  have o5 := setRow_out (w2.alloc (.map #[] 0)) (w.heap.size + 1) (gmC (rn N X) (rf N X) w2.heap.size) (Nat.le_refl _) (Nat.lt_succ_self _)
  refine bodyPost_ret (resGM rfl (b23.setRow _) rfl rfl) rfl ⟨w2.heap.size, rfl, by omega, hm.out o5 (.inr (by omega)), hb4.trans (o5.below (by omega) hb4.size)⟩
set_option maxHeartbeats 4000000 in
theorem impCanWin_any (hl : Hid (X.length = n)) (hn : n ≤ 1099511627776) (hr : RdSS w w.heap.size A X) :
    Calls Try.prog 10 #[.agg #[.int .i64 N, .slice A n c], .int .i64 a] w (Tells (canW N X a) w) := by
  obtain ⟨W1, hW, b1, hb1⟩ := one_graph w #[Value.int IntKind.i64 N, Value.slice A n c] 27
  have HR := Lib.hid ((hr.below hb1).more hb1.size)
  have hW' := hW.symm
  obtain ⟨C0, C1⟩ := b1.two
  clear hr hW
  by_cases hg : gB N X = true
  case neg =>
    have HG : Hid (gB N X = false) := Lib.hid (by simpa using hg)
    have HV := Lib.hid (show canW N X a = false by unfold canW; rw [HG.out]; rfl)
    clear hg
    go_enter Try.func10, Try.ntmps10
    go_wp2_with fail
    refine (impIsGraph_any (N := N) (X := X) (c := c) hl hn HR.out).mono ?_
    rintro e w2 ⟨rfl, hb2⟩
    rw [HG.out]
    go_wp2_with fail
    go_ret
    exact ⟨ret_b HV.out.symm, hb1.trans (hb2.mono hb1.size)⟩
  case pos =>
    have HG := Lib.hid hg
    obtain ⟨m, rfl, hm, _⟩ := gB_ok hg
    have HN := Lib.hid (rn_eq hg)
    clear hg
    by_cases hi : inr a 0 ((m : Int) - 1) = true
    case neg =>
      have HI : Hid (inr a 0 ((m : Int) - 1) = false) := Lib.hid (by simpa using hi)
      have HV := Lib.hid (show canW m X a = false by unfold canW; rw [HI.out]; simp)
      clear hi
      go_enter Try.func10, Try.ntmps10
      go_wp2_with fail
      refine (impIsGraph_any (N := m) (X := X) (c := c) hl hn HR.out).mono ?_
      rintro e w2 ⟨rfl, hb2⟩
      rw [HG.out]
      obtain ⟨D0, D1⟩ := (b1.new hb2).two
      go_wp2_with (go_at_call 43; refine (isClaim_any (n := m) (c := a) (by omega) (by omega)).mono ?_; rintro e u9 ⟨he, rfl⟩; rw [HI.out] at he; subst he)
      go_ret
      exact ⟨ret_b HV.out.symm, hb1.trans (hb2.mono hb1.size)⟩
    case pos =>
      have HI := Lib.hid hi
      obtain ⟨k, rfl⟩ : ∃ k : Nat, a = k := ⟨a.toNat, by simp [inr] at hi; omega⟩
      have hk : k < 10 := by simp [inr] at hi; omega
      have HV := Lib.hid (show canW m X k = hldV m X 0 k by unfold canW; rw [HG.out, HI.out, canW_code hk]; rfl)
      clear hi
      go_enter Try.func10, Try.ntmps10
      go_wp2_with fail
      refine (impIsGraph_any (N := m) (X := X) (c := c) hl hn HR.out).mono ?_
      rintro e w2 ⟨rfl, hb2⟩
      rw [HG.out]
      have hb3 := hb1.trans (hb2.mono hb1.size)
      obtain ⟨D0, D1⟩ := (b1.new hb2).two
      go_wp2_with (go_at_call 43; refine (isClaim_any (n := m) (c := k) (by omega) (by omega)).mono ?_; rintro e u9 ⟨he, rfl⟩; rw [HI.out] at he; subst he)
      refine (gameOf_any (N := m) (X := X) (c := c) hl hn ((HR.out.below hb2).more hb2.size)).mono ?_
      rintro e w4 ⟨B, rfl, hB, hmap, hb4⟩
      rw [HN.out]
      have hb5 := hb3.trans (hb4.mono hb3.size)
      have HMP := Lib.hid hmap
      have hBl := hmap.lt
      clear hmap
      go_wp2_with fail
      refine (holds_any (n := m) (X := X) (u := 0) (by decide) hk HMP.out).mono ?_
      rintro e w6 ⟨rfl, _, ho⟩
      go_wp2_with fail
      go_ret
      exact ⟨ret_b HV.out.symm, hb5.trans (ho.below (by have := hb3.size; omega) hb5.size)⟩
end
theorem find_first {L : List Int} {p : Int → Bool} {k : Nat} (hk : k < L.length) (h : p L[k] = true) (hn : ∀ j (hj : j < L.length), j < k → p L[j] = false) : L.find? p = some L[k] := by
  rw [List.find?_eq_some_iff_getElem]
  exact ⟨h, k, hk, rfl, fun j hj => by rw [hn j (by omega) hj]; rfl⟩
theorem find_no {L : List Int} {p : Int → Bool} (hn : ∀ j (hj : j < L.length), p L[j] = false) : L.find? p = none := by
  rw [List.find?_eq_none]
  intro x hx
  obtain ⟨j, hj, rfl⟩ := List.getElem_of_mem hx
  rw [hn j hj]
  simp
section
variable {w : World} {A A' : Option Addr} {n c n' c' : Nat} {N : Int} {X : List (List Int)} {a : Int} {S : List Int}
set_option maxHeartbeats 8000000 in
theorem impBestAnswer_any (hl : Hid (X.length = n)) (hn : n ≤ 1099511627776) (hr : RdSS w w.heap.size A X) (hl' : Hid (S.length = n')) (hn' : n' ≤ 1099511627776) (hr' : Rd w w.heap.size A' (ivs S)) :
    Calls Try.prog 14 #[.agg #[.int .i64 N, .slice A n c], .slice A' n' c', .int .i64 a] w (fun e w' => e = .returned (.int .i64 (bestB N X S a)) ∧ Below w.heap.size w w') := by
  obtain ⟨W1, hW, b1, hb1⟩ := one_graph w #[Value.int IntKind.i64 N, Value.slice A n c] 27
  have HR := Lib.hid ((hr.below hb1).more hb1.size)
  have HR' := Lib.hid ((hr'.below hb1).more hb1.size)
  have HR0 := Lib.hid hr'
  have hW' := hW.symm
  obtain ⟨C0, C1⟩ := b1.two
  clear hr hr' hW
  go_enter Try.func14, Try.ntmps14
  go_wp2_with fail
  refine (gameOf_any (N := N) (X := X) (c := c) hl hn HR.out).mono ?_
  rintro e w2 ⟨B, rfl, hB, hmap, hb2⟩
  have hb3 := hb1.trans (hb2.mono hb1.size)
  have b12 := b1.new hb2
  have HR2 := Lib.hid ((HR.out.below hb2).more hb2.size)
  have HR2' := Lib.hid ((HR'.out.below hb2).more hb2.size)
  have k4 := alloc_new w2 (Obj.cells gm0 73)
  have b4 := Bx.made w2 73 gm0
  have z4 : (w2.alloc (Obj.cells gm0 73)).heap.size = w2.heap.size + 1 := by simp
  obtain ⟨W4, hW4⟩ : ∃ u : World, u = w2.alloc (Obj.cells gm0 73) := ⟨_, rfl⟩
  have k5 : Below w2.heap.size w2 (W4.setRow w2.heap.size (gmC (rn N X) (rf N X) B)) := by rw [hW4]; exact k4.trans ((setRow_out _ w2.heap.size (gmC (rn N X) (rf N X) B) (Nat.le_refl _) (Nat.lt_succ_self _)).below (Nat.le_refl _) k4.size)
  rw [← hW4] at k4 b4 z4
  have b5 := b4.setRow (gmC (rn N X) (rf N X) B)
  obtain ⟨W5, hW5⟩ : ∃ u : World, u = W4.setRow w2.heap.size (gmC (rn N X) (rf N X) B) := ⟨_, rfl⟩
  rw [← hW5] at k5 b5
  have HX5 := Lib.hid hW5.symm
  have hm5 := hmap.new k5
  have b15 := b12.new k5
  have hb5 := hb3.trans (k5.mono hb3.size)
  have HR5 := Lib.hid ((HR2.out.below k5).more k5.size)
  have HR5' := Lib.hid ((HR2'.out.below k5).more k5.size)
  obtain ⟨D0, D1⟩ := b15.two
  have hBl := hmap.lt
  have hW4' := hW4.symm
  unfold gm0 at hW4'
  clear hW4 hW5 k4 z4 hmap hW' C0 C1
  go_wp2_with (refine stGM (n := rn N X) (f := rf N X) (B := B) rfl (.tmp 7) (.tmp 11) rfl b4 rfl rfl rfl ?_; rw [HX5.out])
  refine (impAnswersTo_any (N := N) (X := X) (S := S) (a := a) (c := c) (c' := c') hl hn HR5.out hl' hn' HR5'.out).mono ?_
  rintro e w6 ⟨v, rfl, hrow, hb6⟩
  have HBV : Hid (bestB N X S a = ((ansL N X S a).find? fun b => winB N X (S ++ [b]) b).getD (-1)) := Lib.hid rfl
  have HCL := Lib.hid (fun (z : Int) (h : z ∈ ansL N X S a) => show gB N X = true ∧ ∃ p : Nat, z = p ∧ p < 10 from by
    obtain ⟨h1, _⟩ := ansL_mem.1 h
    obtain ⟨n, p, _, hn, e, hp⟩ := atk_claim h1
    refine ⟨?_, p, e, by omega⟩
    cases hg : gB N X with
    | true => rfl
    | false => unfold atk at h1; rw [hg] at h1; cases h1)
  have HLN := Lib.hid (show (ansL N X S a).length ≤ 10 by unfold ansL; exact Nat.le_trans (List.length_filter_le _ _) (atk_len N X a))
  obtain ⟨L, hL⟩ : ∃ L, L = ansL N X S a := ⟨_, rfl⟩
  rw [← hL] at hrow HBV HCL HLN
  obtain ⟨A6, c6, rfl, _, _, _⟩ := hrow.rd (n := L.length) (ivs_len L)
  have b6 := b5.new hb6
  have HM6 := Lib.hid (hm5.new hb6)
  have hb7 := hb5.trans (hb6.mono hb5.size)
  have HR6' := Lib.hid (HR0.out.below hb7)
  have HRW := Lib.hid hrow
  have HB6 := Lib.hid b6
  have HS5 := Lib.hid (show B < w2.heap.size ∧ w2.heap.size ≤ W5.heap.size ∧ w.heap.size < B + 1 from ⟨hBl, k5.size, by have := hb1.size; omega⟩)
  have hll := HLN.out
  have h5z := hb6.size
  have h7z := hb7.size
  obtain ⟨h51, h52, h53⟩ := HS5.out
  clear hL hrow b6 hm5 D0 D1 b5 b4 hW4' HX5 b15 b12 b1
  go_wp2_with fail
  go_loopw [17] (fun i wr => ∃ k : Nat, k ≤ L.length ∧ i = .int .i64 k ∧ Hid (MapOK N X B wr) ∧ Out B (B + 1) w6 wr ∧ Hid (∀ j (hj : j < L.length), j < k → winB N X (S ++ [L[j]]) L[j] = false)) (fun i _ => L.length - (intOf i).toNat)
  case atStart => exact ⟨0, Nat.zero_le _, rfl, HM6, Out.refl, Lib.hid (fun j _ hj => absurd hj (Nat.not_lt_zero _))⟩
  case round =>
    obtain ⟨k, hk, rfl, hm, ho, hno⟩ := hrel
    by_cases hlt : k < L.length
    · obtain ⟨hg, p, hp, hp10⟩ := HCL.out _ (List.getElem_mem hlt)
      obtain ⟨ad, rfl, hab, hc⟩ := ivs_at ((HRW.out.out ho (.inr (by omega))).rd') hlt
      have HWV := Lib.hid (best_code (N := N) (X := X) (U := S) hp10)
      have HNX := Lib.hid (fun h : winB N X (S ++ [L[k]]) L[k] = false => show ∀ j (hj : j < L.length), j < k + 1 → winB N X (S ++ [L[j]]) L[j] = false from fun j hj hjk => by
        rcases Nat.lt_or_ge j k with h' | h'
        · exact hno.out j hj h'
        · obtain rfl : j = k := by omega
          exact h)
      have HYS := Lib.hid (fun h : winB N X (S ++ [L[k]]) L[k] = true => show bestB N X S a = L[k] from by
        rw [HBV.out, find_first (p := fun b => winB N X (S ++ [b]) b) hlt h hno.out]; rfl)
      rw [hp] at hc HNX HYS
      rw [← HWV.out] at HNX HYS
      have bg := HB6.out.out ho (.inr (by omega))
      rw [show rn N X = N by unfold rn; rw [if_pos hg]] at bg
      obtain ⟨c0, c1, c2, c3, c4, c5, c6', c7, c8, c9, c10, c11⟩ := bg.twelve
      have i0 : (0 : Int) ≤ (k : Int) := by omega
      have i1 : (k : Int) < (L.length : Int) := by omega
      have hrb : Rd wr w.heap.size A' (ivs S) := Rd.out HR6'.out ho (by omega) (by omega)
      have HRB : Hid (Rd wr.drew w.heap.size A' (ivs S)) := Lib.hid (hrb.drewN 1)
      clear hrb
      have HMD := Lib.hid (show MapOK N X B wr.drew from hm.out)
      have HBS := Lib.hid (bS_lt S)
      clear hg hp hno bg
      go_wp2_with fail
      go_region_law (first
        | (go_simp; go_at_call 48; (refine (bitsOf_any hl' hn' HRB.out).mono ?_); rintro e u9 ⟨rfl, rfl⟩)
        | (go_simp; go_at_call 45; (refine (holds_any (n := N) (X := X) (B := B) (u := bS S) (c := p) HBS.out hp10 HMD.out).mono ?_); rintro e u9 ⟨rfl, hm9, ho9⟩))
      all_goals
        have HM9 := Lib.hid hm9
        have o9 : Out B (B + 1) w6 u9 := (ho.drewN 1).trans ho9
        clear hm9 c0 c1 c2 c3 c4 c5 c6' c7 c8 c9 c10 c11
        obtain ⟨b, hb⟩ : ∃ b, b = hldV N X (bS S) p := ⟨_, rfl⟩
        rw [← hb] at HNX HYS ⊢
        clear hb
        cases b with
        | true =>
          have HY := Lib.hid (HYS.out rfl)
          go_wp2_with fail
          go_ret
          exact ⟨ret_i HY.out.symm, hb7.trans (o9.below (by omega) (by omega))⟩
        | false =>
          have HN := Lib.hid (HNX.out rfl)
          go_wp2_with fail
          go_roundw
          case rel => exact ⟨k + 1, by omega, by go_num, HM9, o9, HN⟩
          case measure => simp [intOf]; omega
    · have e : k = L.length := by omega
      subst e
      have HE := Lib.hid (show bestB N X S a = -1 by rw [HBV.out, find_no (p := fun b => winB N X (S ++ [b]) b) (fun j hj => hno.out j hj hj)]; rfl)
      go_wp2_with fail
      go_ret
      exact ⟨ret_i HE.out.symm, hb7.trans (ho.below (by omega) (by omega))⟩
end
end Go.Proofs.Ytobghogkflgpeaa
