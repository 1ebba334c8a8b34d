/- Contracts of the code's gameOf, CanWin and BestAnswer. Condition: the slices have at most 2^40 elements. -/
import Derived.Test.YtobghogkflgpeaaMg30
import Derived.Test.YtobghogkflgpeaaMg5
import Derived.Test.YtobghogkflgpeaaMg6
import Derived.Test.YtobghogkflgpeaaMg20
import Derived.Test.YtobghogkflgpeaaMg27
import Derived.Test.YtobghogkflgpeaaMg24
namespace Go.Proofs.Ytobghogkflgpeaa
open Go.ChangeShapes Go.WideShapes Go.ChangeAt Go.RowKit
set_option maxRecDepth 100000
theorem stGM {w : World} {ops : Array Oper} {rest : List Oper} {o : Oper} {a : Act} {Q : Exit → Act → World → Prop} {cs : Array Value} (hgd : o.guard = none) (x y : Operand) (ho : o.op = .store 73 x y) {g : Nat} {n : Int} {f : Nat → Nat} {B : Nat} (h : Bx w g 73 cs) (hs : cs.size = 12) (hx : a.eval x = .pointer (some ⟨g, 0, none⟩)) (hy : a.eval y = .agg (gmC n f B)) (K : wpList Try.prog ops Q rest (a.put o.dst undef) (w.setRow g (gmC n f B))) : wpList Try.prog ops Q (o :: rest) a w :=
  wpList_store_row hgd _ x y ho g (gmC n f B) hx hy _ cs h (by rw [GM_info]; rfl) (by rw [hs]; rfl) (by simp [gmC, Value.oneCell']) K
theorem resGM {w : World} {fn : Func} {p : Tmp} {tmps : Array Value} {g : Nat} {cs : Array Value} (h : fn.results = #[.cell p 73]) (hb : Bx w g 73 cs) (hs : cs.size = 12) (hp : tmps.getD p undef = .pointer (some ⟨g, 0, none⟩)) : (results fn tmps).run Try.prog w = .ok (.agg cs) w :=
  results_cell_row h tmps w g _ cs (0, 0) _ hp hb Try.underlying73 rfl (by rw [GM_info, hs])
def gm0 : Array Value := #[.int .i64 0, .int .u16 0, .int .u16 0, .int .u16 0, .int .u16 0, .int .u16 0, .int .u16 0, .int .u16 0, .int .u16 0, .int .u16 0, .int .u16 0, .map none]
theorem MapOK.out {N : Int} {X : List (List Int)} {B lo hi : Nat} {w w' : World} (h : MapOK N X B w) (o : Out lo hi w w') (hd : B < lo ∨ hi ≤ B) : MapOK N X B w' := by
  have hlt := h.lt
  obtain ⟨es, clock, h1, h2⟩ := h
  exact ⟨es, clock, (o.block B hlt hd).trans h1, h2⟩
section
variable {w : World} {A A' : Option Addr} {n c n' c' : Nat} {N : Int} {X : List (List Int)} {a : Int}
set_option maxHeartbeats 4000000 in
theorem gameOf_any (hl : Hid (X.length = n)) (hn : n ≤ 1099511627776) (hr : RdSS w w.heap.size A X) :
    Calls Try.prog 44 #[.agg #[.int .i64 N, .slice A n c]] w (fun e w' => ∃ B, e = .returned (.agg (gmC (rn N X) (rf N X) B)) ∧ w.heap.size ≤ B ∧ MapOK N X B w' ∧ Below w.heap.size w w') := by
  obtain ⟨W1, hW, b1, b2, hb1, hs1⟩ := two_blocks w #[Value.int IntKind.i64 N, Value.slice A n c] gm0 27 73
  have HR := Lib.hid ((hr.below hb1).more hb1.size)
  obtain ⟨C0, C1⟩ := b1.two
  have HS := Lib.hid hs1
  have hmm := @run_makeMap Try.prog
  unfold gm0 at hW
  clear hr hs1
  go_enter Try.func44, Try.ntmps44
  go_wp2_with fail
  refine (rowsOf_any hl hn HR.out).mono ?_
  rintro e w2 ⟨rfl, hb2⟩
  unfold arC
  have b22 := b2.new hb2
  have k3 := alloc_new w2 (.map #[] 0)
  have b23 := b22.new k3
  have hm := MapOK.made (N := N) (X := X) w2
  have hb3 := hb1.trans (hb2.mono hb1.size)
  have hb4 := hb3.trans (k3.mono hb3.size)
  have hz := HS.out
  have hz2 := hb2.size
  clear hW C0 C1
  go_wp2_with (refine stGM (n := rn N X) (f := rf N X) (B := w2.heap.size) rfl (.tmp 2) (.tmp 6) rfl b23 rfl rfl rfl ?_)
  have o5 := setRow_out (w2.alloc (.map #[] 0)) (w.heap.size + 1) (gmC (rn N X) (rf N X) w2.heap.size) (Nat.le_refl _) (Nat.lt_succ_self _)
  refine bodyPost_ret (resGM rfl (b23.setRow _) rfl rfl) rfl ⟨w2.heap.size, rfl, by omega, hm.out o5 (.inr (by omega)), hb4.trans (o5.below (by omega) hb4.size)⟩
set_option maxHeartbeats 4000000 in
theorem impCanWin_any (hl : Hid (X.length = n)) (hn : n ≤ 1099511627776) (hr : RdSS w w.heap.size A X) :
    Calls Try.prog 10 #[.agg #[.int .i64 N, .slice A n c], .int .i64 a] w (Tells (canW N X a) w) := by
  obtain ⟨W1, hW, b1, hb1⟩ := one_graph w #[Value.int IntKind.i64 N, Value.slice A n c] 27
  have HR := Lib.hid ((hr.below hb1).more hb1.size)
  have hW' := hW.symm
  obtain ⟨C0, C1⟩ := b1.two
  clear hr hW
  by_cases hg : gB N X = true
  case neg =>
    have HG : Hid (gB N X = false) := Lib.hid (by simpa using hg)
    have HV := Lib.hid (show canW N X a = false by unfold canW; rw [HG.out]; rfl)
    clear hg
    go_enter Try.func10, Try.ntmps10
    go_wp2_with fail
    refine (impIsGraph_any (N := N) (X := X) (c := c) hl hn HR.out).mono ?_
    rintro e w2 ⟨rfl, hb2⟩
    rw [HG.out]
    go_wp2_with fail
    go_ret
    exact ⟨ret_b HV.out.symm, hb1.trans (hb2.mono hb1.size)⟩
  case pos =>
    have HG := Lib.hid hg
    obtain ⟨m, rfl, hm, _⟩ := gB_ok hg
    have HN := Lib.hid (rn_eq hg)
    clear hg
    by_cases hi : inr a 0 ((m : Int) - 1) = true
    case neg =>
      have HI : Hid (inr a 0 ((m : Int) - 1) = false) := Lib.hid (by simpa using hi)
      have HV := Lib.hid (show canW m X a = false by unfold canW; rw [HI.out]; simp)
      clear hi
      go_enter Try.func10, Try.ntmps10
      go_wp2_with fail
      refine (impIsGraph_any (N := m) (X := X) (c := c) hl hn HR.out).mono ?_
      rintro e w2 ⟨rfl, hb2⟩
      rw [HG.out]
      obtain ⟨D0, D1⟩ := (b1.new hb2).two
      go_wp2_with (go_at_call 43; refine (isClaim_any (n := m) (c := a) (by omega) (by omega)).mono ?_; rintro e u9 ⟨he, rfl⟩; rw [HI.out] at he; subst he)
      go_ret
      exact ⟨ret_b HV.out.symm, hb1.trans (hb2.mono hb1.size)⟩
    case pos =>
      have HI := Lib.hid hi
      obtain ⟨k, rfl⟩ : ∃ k : Nat, a = k := ⟨a.toNat, by simp [inr] at hi; omega⟩
      have hk : k < 10 := by simp [inr] at hi; omega
      have HV := Lib.hid (show canW m X k = hldV m X 0 k by unfold canW; rw [HG.out, HI.out, canW_code hk]; rfl)
      clear hi
      go_enter Try.func10, Try.ntmps10
      go_wp2_with fail
      refine (impIsGraph_any (N := m) (X := X) (c := c) hl hn HR.out).mono ?_
      rintro e w2 ⟨rfl, hb2⟩
      rw [HG.out]
      have hb3 := hb1.trans (hb2.mono hb1.size)
      obtain ⟨D0, D1⟩ := (b1.new hb2).two
      go_wp2_with (go_at_call 43; refine (isClaim_any (n := m) (c := k) (by omega) (by omega)).mono ?_; rintro e u9 ⟨he, rfl⟩; rw [HI.out] at he; subst he)
      refine (gameOf_any (N := m) (X := X) (c := c) hl hn ((HR.out.below hb2).more hb2.size)).mono ?_
      rintro e w4 ⟨B, rfl, hB, hmap, hb4⟩
      rw [HN.out]
      have hb5 := hb3.trans (hb4.mono hb3.size)
      have HMP := Lib.hid hmap
      have hBl := hmap.lt
      clear hmap
      go_wp2_with fail
      refine (holds_any (n := m) (X := X) (u := 0) (by decide) hk HMP.out).mono ?_
      rintro e w6 ⟨rfl, _, ho⟩
      go_wp2_with fail
      go_ret
      exact ⟨ret_b HV.out.symm, hb5.trans (ho.below (by have := hb3.size; omega) hb5.size)⟩
end
theorem find_first {L : List Int} {p : Int → Bool} {k : Nat} (hk : k < L.length) (h : p L[k] = true) (hn : ∀ j (hj : j < L.length), j < k → p L[j] = false) : L.find? p = some L[k] := by
  rw [List.find?_eq_some_iff_getElem]
  exact ⟨h, k, hk, rfl, fun j hj => by rw [hn j (by omega) hj]; rfl⟩
theorem find_no {L : List Int} {p : Int → Bool} (hn : ∀ j (hj : j < L.length), p L[j] = false) : L.find? p = none := by
  rw [List.find?_eq_none]
  intro x hx
  obtain ⟨j, hj, rfl⟩ := List.getElem_of_mem hx
  rw [hn j hj]
  simp
section
variable {w : World} {A A' : Option Addr} {n c n' c' : Nat} {N : Int} {X : List (List Int)} {a : Int} {S : List Int}
set_option maxHeartbeats 8000000 in
theorem impBestAnswer_any (hl : Hid (X.length = n)) (hn : n ≤ 1099511627776) (hr : RdSS w w.heap.size A X) (hl' : Hid (S.length = n')) (hn' : n' ≤ 1099511627776) (hr' : Rd w w.heap.size A' (ivs S)) :
    Calls Try.prog 14 #[.agg #[.int .i64 N, .slice A n c], .slice A' n' c', .int .i64 a] w (fun e w' => e = .returned (.int .i64 (bestB N X S a)) ∧ Below w.heap.size w w') := by
  obtain ⟨W1, hW, b1, hb1⟩ := one_graph w #[Value.int IntKind.i64 N, Value.slice A n c] 27
  have HR := Lib.hid ((hr.below hb1).more hb1.size)
  have HR' := Lib.hid ((hr'.below hb1).more hb1.size)
  have HR0 := Lib.hid hr'
  have hW' := hW.symm
  obtain ⟨C0, C1⟩ := b1.two
  clear hr hr' hW
  go_enter Try.func14, Try.ntmps14
  go_wp2_with fail
  refine (gameOf_any (N := N) (X := X) (c := c) hl hn HR.out).mono ?_
  rintro e w2 ⟨B, rfl, hB, hmap, hb2⟩
  have hb3 := hb1.trans (hb2.mono hb1.size)
  have b12 := b1.new hb2
  have HR2 := Lib.hid ((HR.out.below hb2).more hb2.size)
  have HR2' := Lib.hid ((HR'.out.below hb2).more hb2.size)
  have k4 := alloc_new w2 (Obj.cells gm0 73)
  have b4 := Bx.made w2 73 gm0
  have z4 : (w2.alloc (Obj.cells gm0 73)).heap.size = w2.heap.size + 1 := by simp
  obtain ⟨W4, hW4⟩ : ∃ u : World, u = w2.alloc (Obj.cells gm0 73) := ⟨_, rfl⟩
  have k5 : Below w2.heap.size w2 (W4.setRow w2.heap.size (gmC (rn N X) (rf N X) B)) := by rw [hW4]; exact k4.trans ((setRow_out _ w2.heap.size (gmC (rn N X) (rf N X) B) (Nat.le_refl _) (Nat.lt_succ_self _)).below (Nat.le_refl _) k4.size)
  rw [← hW4] at k4 b4 z4
  have b5 := b4.setRow (gmC (rn N X) (rf N X) B)
  obtain ⟨W5, hW5⟩ : ∃ u : World, u = W4.setRow w2.heap.size (gmC (rn N X) (rf N X) B) := ⟨_, rfl⟩
  rw [← hW5] at k5 b5
  have HX5 := Lib.hid hW5.symm
  have hm5 := hmap.new k5
  have b15 := b12.new k5
  have hb5 := hb3.trans (k5.mono hb3.size)
  have HR5 := Lib.hid ((HR2.out.below k5).more k5.size)
  have HR5' := Lib.hid ((HR2'.out.below k5).more k5.size)
  obtain ⟨D0, D1⟩ := b15.two
  have hBl := hmap.lt
  have hW4' := hW4.symm
  unfold gm0 at hW4'
  clear hW4 hW5 k4 z4 hmap hW' C0 C1
  go_wp2_with (refine stGM (n := rn N X) (f := rf N X) (B := B) rfl (.tmp 7) (.tmp 11) rfl b4 rfl rfl rfl ?_; rw [HX5.out])
  refine (impAnswersTo_any (N := N) (X := X) (S := S) (a := a) (c := c) (c' := c') hl hn HR5.out hl' hn' HR5'.out).mono ?_
  rintro e w6 ⟨v, rfl, hrow, hb6⟩
  have HBV : Hid (bestB N X S a = ((ansL N X S a).find? fun b => winB N X (S ++ [b]) b).getD (-1)) := Lib.hid rfl
  have HCL := Lib.hid (fun (z : Int) (h : z ∈ ansL N X S a) => show gB N X = true ∧ ∃ p : Nat, z = p ∧ p < 10 from by
    obtain ⟨h1, _⟩ := ansL_mem.1 h
    obtain ⟨n, p, _, hn, e, hp⟩ := atk_claim h1
    refine ⟨?_, p, e, by omega⟩
    cases hg : gB N X with
    | true => rfl
    | false => unfold atk at h1; rw [hg] at h1; cases h1)
  have HLN := Lib.hid (show (ansL N X S a).length ≤ 10 by unfold ansL; exact Nat.le_trans (List.length_filter_le _ _) (atk_len N X a))
  obtain ⟨L, hL⟩ : ∃ L, L = ansL N X S a := ⟨_, rfl⟩
  rw [← hL] at hrow HBV HCL HLN
  obtain ⟨A6, c6, rfl, _, _, _⟩ := hrow.rd (n := L.length) (ivs_len L)
  have b6 := b5.new hb6
  have HM6 := Lib.hid (hm5.new hb6)
  have hb7 := hb5.trans (hb6.mono hb5.size)
  have HR6' := Lib.hid (HR0.out.below hb7)
  have HRW := Lib.hid hrow
  have HB6 := Lib.hid b6
  have HS5 := Lib.hid (show B < w2.heap.size ∧ w2.heap.size ≤ W5.heap.size ∧ w.heap.size < B + 1 from ⟨hBl, k5.size, by have := hb1.size; omega⟩)
  have hll := HLN.out
  have h5z := hb6.size
  have h7z := hb7.size
  obtain ⟨h51, h52, h53⟩ := HS5.out
  clear hL hrow b6 hm5 D0 D1 b5 b4 hW4' HX5 b15 b12 b1
  go_wp2_with fail
  go_loopw [17] (fun i wr => ∃ k : Nat, k ≤ L.length ∧ i = .int .i64 k ∧ Hid (MapOK N X B wr) ∧ Out B (B + 1) w6 wr ∧ Hid (∀ j (hj : j < L.length), j < k → winB N X (S ++ [L[j]]) L[j] = false)) (fun i _ => L.length - (intOf i).toNat)
  case atStart => exact ⟨0, Nat.zero_le _, rfl, HM6, Out.refl, Lib.hid (fun j _ hj => absurd hj (Nat.not_lt_zero _))⟩
  case round =>
    obtain ⟨k, hk, rfl, hm, ho, hno⟩ := hrel
    by_cases hlt : k < L.length
    · obtain ⟨hg, p, hp, hp10⟩ := HCL.out _ (List.getElem_mem hlt)
      obtain ⟨ad, rfl, hab, hc⟩ := ivs_at ((HRW.out.out ho (.inr (by omega))).rd') hlt
      have HWV := Lib.hid (best_code (N := N) (X := X) (U := S) hp10)
      have HNX := Lib.hid (fun h : winB N X (S ++ [L[k]]) L[k] = false => show ∀ j (hj : j < L.length), j < k + 1 → winB N X (S ++ [L[j]]) L[j] = false from fun j hj hjk => by
        rcases Nat.lt_or_ge j k with h' | h'
        · exact hno.out j hj h'
        · obtain rfl : j = k := by omega
          exact h)
      have HYS := Lib.hid (fun h : winB N X (S ++ [L[k]]) L[k] = true => show bestB N X S a = L[k] from by
        rw [HBV.out, find_first (p := fun b => winB N X (S ++ [b]) b) hlt h hno.out]; rfl)
      rw [hp] at hc HNX HYS
      rw [← HWV.out] at HNX HYS
      have bg := HB6.out.out ho (.inr (by omega))
      rw [show rn N X = N by unfold rn; rw [if_pos hg]] at bg
      obtain ⟨c0, c1, c2, c3, c4, c5, c6', c7, c8, c9, c10, c11⟩ := bg.twelve
      have i0 : (0 : Int) ≤ (k : Int) := by omega
      have i1 : (k : Int) < (L.length : Int) := by omega
      have hrb : Rd wr w.heap.size A' (ivs S) := Rd.out HR6'.out ho (by omega) (by omega)
      have HRB : Hid (Rd wr.drew w.heap.size A' (ivs S)) := Lib.hid (hrb.drewN 1)
      clear hrb
      have HMD := Lib.hid (show MapOK N X B wr.drew from hm.out)
      have HBS := Lib.hid (bS_lt S)
      clear hg hp hno bg
      go_wp2_with fail
      go_region_law (first
        | (go_simp; go_at_call 48; (refine (bitsOf_any hl' hn' HRB.out).mono ?_); rintro e u9 ⟨rfl, rfl⟩)
        | (go_simp; go_at_call 45; (refine (holds_any (n := N) (X := X) (B := B) (u := bS S) (c := p) HBS.out hp10 HMD.out).mono ?_); rintro e u9 ⟨rfl, hm9, ho9⟩))
      all_goals
        have HM9 := Lib.hid hm9
        have o9 : Out B (B + 1) w6 u9 := (ho.drewN 1).trans ho9
        clear hm9 c0 c1 c2 c3 c4 c5 c6' c7 c8 c9 c10 c11
        obtain ⟨b, hb⟩ : ∃ b, b = hldV N X (bS S) p := ⟨_, rfl⟩
        rw [← hb] at HNX HYS ⊢
        clear hb
        cases b with
        | true =>
          have HY := Lib.hid (HYS.out rfl)
          go_wp2_with fail
          go_ret
          exact ⟨ret_i HY.out.symm, hb7.trans (o9.below (by omega) (by omega))⟩
        | false =>
          have HN := Lib.hid (HNX.out rfl)
          go_wp2_with fail
          go_roundw
          case rel => exact ⟨k + 1, by omega, by go_num, HM9, o9, HN⟩
          case measure => simp [intOf]; omega
    · have e : k = L.length := by omega
      subst e
      have HE := Lib.hid (show bestB N X S a = -1 by rw [HBV.out, find_no (p := fun b => winB N X (S ++ [b]) b) (fun j hj => hno.out j hj hj)]; rfl)
      go_wp2_with fail
      go_ret
      exact ⟨ret_i HE.out.symm, hb7.trans (ho.below (by omega) (by omega))⟩
end
end Go.Proofs.Ytobghogkflgpeaa

/- Sums of chapter 8's lines, without code. -/
namespace Go.Proofs.Ytobghogkflgpeaa
/-- The first j claims at the even places. -/
def usd (L : List Int) (j : Nat) : List Int := (List.range j).map fun t => L.getD (2 * t) 0
theorem usd_succ (L : List Int) (j : Nat) : usd L (j + 1) = usd L j ++ [L.getD (2 * j) 0] := by simp [usd, List.range_succ]
theorem usd_len (L : List Int) (j : Nat) : (usd L j).length = j := by simp [usd]
theorem usd_mem {L : List Int} {j : Nat} {x : Int} : x ∈ usd L j ↔ ∃ t, t < j ∧ L.getD (2 * t) 0 = x := by simp [usd]
def oddB (L : List Int) (i : Nat) : Bool := i % 2 == 1 || !((usd L (i / 2)).contains (L.getD i 0))
def lnkB (N : Int) (X : List (List Int)) (L : List Int) (i : Nat) : Bool := i == 0 || dA N X (L.getD i 0) (L.getD (i - 1) 0)
def stpB (N : Int) (X : List (List Int)) (L : List Int) (i : Nat) : Bool := inr (L.getD i 0) 0 (N - 1) && lnkB N X L i && oddB L i
def lineB (N : Int) (X : List (List Int)) (L : List Int) : Bool := gB N X && (List.range L.length).all (stpB N X L) && decide (0 < L.length)
def cntU (S : List Int) : Nat := (lsT (bS S) 10).length
theorem flt_add {p q : Nat → Bool} {a : Nat} (h : ∀ j, q j = (p j || j == a)) (ha : p a = false) : ∀ n, ((List.range n).filter q).length = ((List.range n).filter p).length + if a < n then 1 else 0
  | 0 => by simp
  | n + 1 => by
    have ih := flt_add h ha n
    rw [List.range_succ, List.filter_append, List.filter_append, List.length_append, List.length_append, ih]
    by_cases hn : n = a
    · subst hn
      have hq : q n = true := by rw [h]; simp
      simp [hq, ha]
    · have hq : q n = p n := by rw [h]; simp [hn]
      have hlt : (a < n + 1) ↔ (a < n) := by omega
      simp only [List.filter_cons, List.filter_nil, hq, hlt]
      omega
theorem lsT_flt (x : Nat) : (lsT x 10).length = ((List.range 10).filter (x.testBit ·)).length := by simp [lsT]
theorem cntU_nil : cntU [] = 0 := by decide
theorem cntU_add {S : List Int} {z : Int} (h0 : 0 ≤ z) (h1 : z ≤ 9) : cntU (S ++ [z]) = cntU S + if S.contains z then 0 else 1 := by
  obtain ⟨a, rfl⟩ := Int.eq_ofNat_of_zero_le h0
  have hq : ∀ j, (bS (S ++ [(a : Int)])).testBit j = ((bS S).testBit j || j == a) := by
    intro j
    rw [bS_bit, bS_bit]
    by_cases hj : j = a
    · subst hj
      have : j < 10 := by omega
      simp [this]
    · have : ¬ ((j : Int) = (a : Int)) := by omega
      simp [List.contains_eq_mem, hj, this]
  unfold cntU
  rw [lsT_flt, lsT_flt]
  by_cases hc : S.contains (a : Int) = true
  · rw [if_pos hc]
    have e : (fun j => (bS (S ++ [(a : Int)])).testBit j) = fun j => (bS S).testBit j := by
      funext j
      rw [hq]
      by_cases hj : j = a
      · subst hj
        rw [bS_bit, hc]
        have : j < 10 := by omega
        simp [this]
      · simp [hj]
    rw [e]; rfl
  · rw [if_neg hc]
    have ha : (bS S).testBit a = false := by rw [bS_bit]; simp only [Bool.not_eq_true] at hc; rw [hc]; simp
    have := flt_add (p := fun j => (bS S).testBit j) (q := fun j => (bS (S ++ [(a : Int)])).testBit j) hq ha 10
    rw [this, if_pos (by omega)]
theorem cnt_usd {L : List Int} : ∀ {j : Nat}, (∀ t < j, 0 ≤ L.getD (2 * t) 0 ∧ L.getD (2 * t) 0 ≤ 9) → cntU (usd L j) ≤ j ∧ (cntU (usd L j) = j ↔ ∀ t < j, (usd L t).contains (L.getD (2 * t) 0) = false)
  | 0, _ => by simp [usd, cntU_nil]
  | j + 1, h => by
    obtain ⟨i1, i2⟩ := cnt_usd (L := L) (j := j) fun t ht => h t (by omega)
    obtain ⟨h0, h1⟩ := h j (by omega)
    rw [usd_succ, cntU_add h0 h1]
    by_cases hc : (usd L j).contains (L.getD (2 * j) 0) = true
    · rw [if_pos hc]
      refine ⟨by omega, ?_⟩
      constructor
      · intro e; omega
      · intro hh
        have := hh j (by omega)
        rw [hc] at this
        exact absurd this (by decide)
    · rw [if_neg hc]
      have hc' : (usd L j).contains (L.getD (2 * j) 0) = false := by simpa using hc
      refine ⟨by omega, ?_⟩
      constructor
      · intro e t ht
        rcases Nat.lt_or_ge t j with h' | h'
        · exact (i2.1 (by omega)) t h'
        · obtain rfl : t = j := by omega
          exact hc'
      · intro hh
        have := i2.2 fun t ht => hh t (by omega)
        omega
section
variable {N : Int} {X : List (List Int)} {L : List Int}
theorem line_g (h : gB N X = false) : lineB N X L = false := by unfold lineB; rw [h]; rfl
theorem line_nil (h : L.length = 0) : lineB N X L = false := by unfold lineB; rw [h]; simp
theorem line_bad {i : Nat} (hi : i < L.length) (h : stpB N X L i = false) : lineB N X L = false := by
  rw [← Bool.not_eq_true]
  intro hp
  unfold lineB at hp
  rw [Bool.and_eq_true, Bool.and_eq_true] at hp
  have := List.all_eq_true.1 hp.1.2 i (by simpa using hi)
  rw [h] at this
  exact absurd this (by decide)
theorem line_yes (hg : gB N X = true) (h : ∀ i < L.length, stpB N X L i = true) : lineB N X L = decide (0 < L.length) := by
  unfold lineB
  rw [hg, List.all_eq_true.2 (fun i hi => h i (by simpa using hi))]
  rfl
theorem dA_claims (hg : gB N X = true) {a b : Int} (h : dA N X a b = true) : inr a 0 (N - 1) = true ∧ inr b 0 (N - 1) = true := by
  obtain ⟨n, rfl, hn, hp, _⟩ := gB_ok hg
  rw [dA_mem hg hp] at h
  obtain ⟨p, q, e, h1, h2⟩ := hp _ h
  injection e with e1 e
  injection e with e2 _
  subst e1 e2
  exact ⟨inr_t (by omega) (by omega), inr_t (by omega) (by omega)⟩
theorem line_code (hg : gB N X = true) (hn : 0 < L.length) (h0 : inr (L.getD 0 0) 0 (N - 1) = true) (h : ∀ i, i + 1 < L.length → dA N X (L.getD (i + 1) 0) (L.getD i 0) = true) :
    lineB N X L = decide (cntU (usd L ((L.length + 1) / 2)) = (L.length + 1) / 2) := by
  have hcl : ∀ i < L.length, inr (L.getD i 0) 0 (N - 1) = true := by
    intro i hi
    rcases Nat.eq_zero_or_pos i with rfl | hi0
    · exact h0
    · obtain ⟨k, rfl⟩ : ∃ k, i = k + 1 := ⟨i - 1, by omega⟩
      exact (dA_claims hg (h k hi)).1
  have hN : N ≤ 10 := by obtain ⟨n, rfl, hn, _, _⟩ := gB_ok hg; omega
  have hb : ∀ t < (L.length + 1) / 2, 0 ≤ L.getD (2 * t) 0 ∧ L.getD (2 * t) 0 ≤ 9 := by
    intro t ht
    have := hcl (2 * t) (by omega)
    simp only [inr, Bool.and_eq_true, decide_eq_true_iff] at this
    omega
  have key := (cnt_usd hb).2
  by_cases he : cntU (usd L ((L.length + 1) / 2)) = (L.length + 1) / 2
  · rw [decide_eq_true he, line_yes hg, decide_eq_true hn]
    intro i hi
    unfold stpB
    rw [hcl i hi]
    have hl : lnkB N X L i = true := by
      unfold lnkB
      rcases Nat.eq_zero_or_pos i with rfl | hi0
      · rfl
      · obtain ⟨k, rfl⟩ : ∃ k, i = k + 1 := ⟨i - 1, by omega⟩
        rw [Nat.add_sub_cancel, h k hi]; simp
    rw [hl]
    unfold oddB
    by_cases ho : i % 2 = 1
    · rw [ho]; rfl
    · obtain ⟨t, rfl⟩ : ∃ t, i = 2 * t := ⟨i / 2, by omega⟩
      have hx := key.1 he t (by omega)
      rw [show 2 * t / 2 = t by omega, hx]
      simp
  · rw [decide_eq_false he]
    have : ¬ ∀ t < (L.length + 1) / 2, (usd L t).contains (L.getD (2 * t) 0) = false := fun hh => he (key.2 hh)
    obtain ⟨t, ht⟩ := Classical.not_forall.1 this
    rw [Classical.not_imp] at ht
    obtain ⟨ht, hx⟩ := ht
    refine line_bad (i := 2 * t) (by omega) ?_
    unfold stpB oddB
    have hx' : (usd L t).contains (L.getD (2 * t) 0) = true := by simpa using hx
    rw [show 2 * t / 2 = t by omega, hx', show (2 * t % 2 == 1) = false by simp]
    simp
end
end Go.Proofs.Ytobghogkflgpeaa

/- Sums of WinnerOf: who wins on a line. -/
namespace Go.Proofs.Ytobghogkflgpeaa
def frsT : List UInt8 := [102, 105, 114, 115, 116]
def sctT : List UInt8 := [115, 101, 99, 111, 110, 100]
def nonT : List UInt8 := [110, 111, 110, 101]
/-- The claims that the one who is to answer has used. -/
def winU (L : List Int) : List Int := if L.length % 2 = 0 then usd L (L.length / 2) else []
def winL (N : Int) (X : List (List Int)) (L : List Int) : List Int := ansL N X (winU L) (L.getD (L.length - 1) 0)
def winT (N : Int) (X : List (List Int)) (L : List Int) : List UInt8 :=
  if lineB N X L then (if (winL N X L).length = 0 then (if L.length % 2 = 0 then sctT else frsT) else nonT) else []
theorem ansL_nil (N : Int) (X : List (List Int)) (c : Int) : ansL N X [] c = atk N X c := by
  unfold ansL
  rw [List.filter_eq_self]
  intro a _
  rfl
section
variable {N : Int} {X : List (List Int)} {L : List Int}
theorem winT_no (h : lineB N X L = false) : winT N X L = [] := by unfold winT; rw [h]; rfl
theorem winT_none (h : lineB N X L = true) (h0 : 0 < (winL N X L).length) : winT N X L = nonT := by unfold winT; rw [if_pos h, if_neg (by omega)]
theorem winT_sct (h : lineB N X L = true) (h0 : (winL N X L).length = 0) (h2 : L.length % 2 = 0) : winT N X L = sctT := by unfold winT; rw [if_pos h, if_pos h0, if_pos h2]
theorem winT_frs (h : lineB N X L = true) (h0 : (winL N X L).length = 0) (h2 : L.length % 2 ≠ 0) : winT N X L = frsT := by unfold winT; rw [if_pos h, if_pos h0, if_neg h2]
theorem winU_even (h2 : L.length % 2 = 0) : winU L = usd L (L.length / 2) := by unfold winU; rw [if_pos h2]
theorem winU_odd (h2 : L.length % 2 ≠ 0) : winU L = [] := by unfold winU; rw [if_neg h2]
theorem winU_len : (winU L).length ≤ L.length := by
  unfold winU
  split
  · rw [usd_len]; omega
  · simp
theorem line_pos (h : lineB N X L = true) : 0 < L.length := by
  unfold lineB at h
  rw [Bool.and_eq_true, decide_eq_true_iff] at h
  exact h.2
end
end Go.Proofs.Ytobghogkflgpeaa
