/- Contracts of the draws of formulas: l10Letters, DrawValue, DrawJoin. Condition: the code's bytes lie in old memory. -/
import Derived.Test.YtobghogkflgpeaaMg9
import Derived.Test.YtobghogkflgpeaaMg5
import Derived.Test.YtobghogkflgpeaaMg2
import Derived.Deep.RegionWith
namespace Go.Proofs.Ytobghogkflgpeaa
open Go.ChangeShapes Go.WideShapes Go.ChangeAt Go.RowKit
set_option maxRecDepth 100000
/-- A row of letters' values was drawn; its memory is new. -/
def DrewL (B : Nat) (A : Option Addr) (n c : Nat) (w : World) (e : Ending) (w' : World) : Prop :=
  ∃ (ls : List Bool) (v : Value), ls.length ≤ 6 ∧ e = .returned v ∧ Row w' w.heap.size w'.heap.size 4 v (bls ls) ∧ w.grownBy w' (some B) ∧ Cur w' B A n c
set_option maxHeartbeats 8000000 in
theorem letters_any {w : World} {B : Nat} {A : Option Addr} {n c : Nat} (h : Cur w B A n c) :
    Calls Try.prog 64 #[.pointer (some ⟨B, 0, none⟩)] w (DrewL B A n c w) := by
  obtain ⟨i0, hi, hz0, hz1, hz2⟩ := info_parts BoolS_info
  have hB := h.lt
  have hrow0 := (Row.made (w := w) w.heap.size #[] 0 4 (Nat.le_refl _) rfl (Nat.zero_le _)).wide (hi' := (w.alloc (Obj.cells #[] 4)).heap.size) (Nat.le_refl _) (by simp)
  have k0 := alloc_new w (Obj.cells #[] 4)
  have cur0 := h.below k0
  have hg0 : w.grownBy _ (some B) := only_new k0 _
  have hs0 := k0.size
  go_enter Try.func64, Try.ntmps64
  go_wp2_with fail
  refine (below_any cur0 7 (by omega)).mono ?_
  rintro e w1 ⟨y, ⟨hy0, hy1⟩, rfl, hg1, cur1⟩
  obtain ⟨i, rfl⟩ := Int.eq_ofNat_of_zero_le hy0
  have row1 := (hrow0.out (Out.of_only hg1) (.inr (by omega))).wide (Nat.le_refl _) hg1.size
  have hgw1 := only_trans hg0 hg1
  clear hrow0 k0 cur0 hg0 hg1 h
  go_wp2_with fail
  go_loopw [3, 4] (fun l i wr => ∃ (j : Nat) (ls : List Bool), i = .int .i64 j ∧ ls.length + j ≤ 6 ∧ Row wr w.heap.size wr.heap.size 4 l (bls ls) ∧ w.grownBy wr (some B) ∧ Cur wr B A n c) (fun _ i _ => (intOf i).toNat)
  case atStart => exact ⟨i, [], rfl, by simp; omega, row1, hgw1, cur1⟩
  case round =>
    obtain ⟨j, ls, rfl, hj, hrow, hgw, hcur⟩ := hrel
    clear row1 hgw1 cur1
    have hsz := hgw.size
    by_cases hj0 : j = 0
    · subst hj0
      go_wp2_with fail
      go_ret
      exact ⟨ls, _, by omega, rfl, hrow, hgw, hcur⟩
    · obtain ⟨j', rfl⟩ : ∃ j', j = j' + 1 := ⟨j - 1, by omega⟩
      have hjp : (0 : Int) < ((j' + 1 : Nat) : Int) := by omega
      have L1 := Lib.hid (show (bls ls).length + 1 ≤ maxLen ∧ ((bls ls).length + 1) * 1 ≤ 140737488355328 by rw [bls_len]; unfold maxLen; omega)
      go_wp2_with fail
      refine (once_any hcur 2 (by omega)).mono ?_
      rintro e w2 ⟨b, rfl, hg2, cur2⟩
      have hs2 := hg2.size
      have hbl := alloc_new w2 (Obj.cells #[Value.bool b] 4)
      have row2 := (hrow.out (Out.of_only hg2) (.inr (by omega))).new hbl
      have hmade := Rd.made w2 #[Value.bool b] 4
      have hgw2 := only_trans hgw hg2
      clear hrow
      go_wp2_with (at_builtin; refine wpList_app rfl (.tmp 12) (.tmp 15) 51 rfl 4 i0 _ 1 Try.underlying51 hi hz0 hz1 hz2 rfl rfl rfl row2 rfl hmade (by simp [Value.oneCell']) L1.out.1 L1.out.2 (by simp; omega) ?_; intro v1 w3 row3 ho3)
      have hb3 : Below w.heap.size w2 w3 := (hbl.mono (by omega)).trans (ho3.below (Nat.le_refl _) (by simp; omega))
      go_roundw
      case rel => exact ⟨j', ls ++ [b], by go_num, by rw [List.length_append]; simp; omega, by rw [show bls (ls ++ [b]) = bls ls ++ [Value.bool b] by simp [bls]]; exact row3, only_then hgw2 hb3, cur2.below' hb3 hB⟩
      case measure => simp [intOf] <;> omega
/-- A formula and its letters' values were drawn; nothing old has turned. -/
def DrewFL (w : World) (e : Ending) (w' : World) : Prop :=
  ∃ (zs : List Int) (ls : List Bool) (A A' : Option Addr) (c c' : Nat), zs.length ≤ 15 ∧ ls.length ≤ 6 ∧ e = .returned (.tuple #[.slice A zs.length c, .slice A' ls.length c']) ∧ zs.length ≤ c ∧ c ≤ maxLen ∧ Rd w' w'.heap.size A (ivs zs) ∧ Rd w' w'.heap.size A' (bls ls) ∧ Below w.heap.size w w'
set_option maxHeartbeats 8000000 in
theorem drawValue {w : World} {A : Option Addr} {n c : Nat} (h : Code8 w A n) :
    Calls Try.prog 27 #[.slice A n c] w (DrewFL w) := by
  go_enter Try.func27, Try.ntmps27
  go_wp2_with fail
  refine (new_any h).mono ?_
  rintro e w1 ⟨rfl, hb1, cur1⟩
  have hs1 := hb1.size
  have hl1 := cur1.lt
  go_wp2_with fail
  refine (any10_any cur1).mono ?_
  rintro e w2 ⟨zs, v, hzl, rfl, hf, hg2, cur2⟩
  have hb2 := cur_below hb1 hg2 (Nat.le_refl _)
  have hs2 := hg2.size
  obtain ⟨A2, c2, rfl, hc2, hm2, _⟩ := hf.rd (Nat.le_refl _)
  have HC2 := Lib.hid (And.intro hc2 hm2)
  have HF := Lib.hid hf
  have HZ := Lib.hid hzl
  clear hc2 hm2 hf hzl
  go_wp2_with fail
  refine (letters_any cur2).mono ?_
  rintro e w3 ⟨ls, v3, hll, rfl, hrow, hg3, cur3⟩
  have hb3 := cur_below hb2 hg3 (Nat.le_refl _)
  have hs3 := hg3.size
  have hf3 := HF.out.only hg3 (by omega)
  obtain ⟨A', c', rfl, hr', _, _⟩ := hrow.rd (n := ls.length) (bls_len ls)
  obtain ⟨A3, c3, e3, _, _, hr3⟩ := hf3.rd (by omega)
  injection e3 with e4 e5 e6
  subst e4 e6
  have HL := Lib.hid hll
  clear hll hrow hf3
  go_wp2_with fail
  refine bodyPost_ret (results_tmp2 rfl _ _ _) rfl ?_
  exact ⟨zs, ls, A2, A', c2, c', HZ.out, HL.out, rfl, HC2.out.1, HC2.out.2, hr3, hr', hb3⟩
/-- Two formulas and an integer were drawn; nothing old has turned. -/
def DrewFFI (w : World) (e : Ending) (w' : World) : Prop :=
  ∃ (zs ys : List Int) (x : Int) (A A' : Option Addr) (c c' : Nat), zs.length ≤ 15 ∧ ys.length ≤ 15 ∧ e = .returned (.tuple #[.slice A zs.length c, .slice A' ys.length c', .int .i64 x]) ∧ zs.length ≤ c ∧ c ≤ maxLen ∧ ys.length ≤ c' ∧ c' ≤ maxLen ∧ Rd w' w'.heap.size A (ivs zs) ∧ Rd w' w'.heap.size A' (ivs ys) ∧ Below w.heap.size w w'
set_option maxHeartbeats 8000000 in
theorem drawJoin {w : World} {A : Option Addr} {n c : Nat} (h : Code8 w A n) :
    Calls Try.prog 33 #[.slice A n c] w (DrewFFI w) := by
  go_enter Try.func33, Try.ntmps33
  go_wp2_with fail
  refine (new_any h).mono ?_
  rintro e w1 ⟨rfl, hb1, cur1⟩
  have hs1 := hb1.size
  have hl1 := cur1.lt
  go_wp2_with fail
  refine (any10_any cur1).mono ?_
  rintro e w2 ⟨zs, v, hzl, rfl, hf, hg2, cur2⟩
  have hb2 := cur_below hb1 hg2 (Nat.le_refl _)
  have hs2 := hg2.size
  obtain ⟨A2, c2, rfl, hc2, hm2, _⟩ := hf.rd (Nat.le_refl _)
  have HC2 := Lib.hid (And.intro hc2 hm2)
  have HF := Lib.hid hf
  have HZ := Lib.hid hzl
  clear hc2 hm2 hf hzl
  go_wp2_with fail
  refine (any10_any cur2).mono ?_
  rintro e w3 ⟨ys, v, hyl, rfl, hf, hg3, cur3⟩
  have hb3 := cur_below hb2 hg3 (Nat.le_refl _)
  have hs3 := hg3.size
  have hl3 := cur3.lt
  obtain ⟨A3, c3, rfl, hc3, hm3, _⟩ := hf.rd (Nat.le_refl _)
  have HC3 := Lib.hid (And.intro hc3 hm3)
  have HG := Lib.hid hf
  have HF3 := Lib.hid (HF.out.only hg3 (by omega))
  have HY := Lib.hid hyl
  have hne : w.heap.size ≠ w3.heap.size := by omega
  have hir := introw_alloc (fun _ => True) w3 [-2, -3, -4, -1, -5, 0] 3 (by simp)
  have k4 := alloc_new w3 (Obj.cells ([-2, -3, -4, -1, -5, 0].map (Value.int .i64)).toArray 3)
  have hb4 := hb3.trans (k4.mono hb3.size)
  have cur4 := cur3.below k4
  have HR := Lib.hid hir
  have hz4 := k4.size
  clear hc3 hm3 hf hyl hir
  go_wp2_with fail
  refine (int_any (fun _ => True) cur4 _ 6 (Ne.symm hne) (by omega) (by omega) HR.out).mono ?_
  rintro e w5 ⟨x, _, rfl, hg5, cur5⟩
  have hb5 := cur_below hb4 hg5 (Nat.le_refl _)
  have hs5 := hg5.size
  obtain ⟨A5, c5, e5, _, _, hr5⟩ := ((HF3.out.new k4).only hg5 (by omega)).rd (by omega)
  obtain ⟨A6, c6, e6, _, _, hr6⟩ := ((HG.out.new k4).only hg5 (by omega)).rd (by omega)
  injection e5 with q1 q2 q3
  injection e6 with q4 q5 q6
  subst q1 q3 q4 q6
  go_wp2_with fail
  refine bodyPost_ret (results_tmp3 rfl _ _ _) rfl ?_
  exact ⟨zs, ys, x, A2, A3, c2, c3, HZ.out, HY.out, rfl, HC2.out.1, HC2.out.2, HC3.out.1, HC3.out.2, hr5, hr6, hb5⟩
end Go.Proofs.Ytobghogkflgpeaa

/- Contracts of the laws' own helpers over Graph: toGraph, eqGraph, markGraph, heldGraph, szGraph. For every graph whose slices have at most 2^40 elements; no other condition. -/
namespace Go.Proofs.Ytobghogkflgpeaa
open Go.ChangeShapes Go.WideShapes Go.ChangeAt Go.RowKit
/-- Block g is just the cells cs. -/
def Bx (w : World) (g : Nat) (t : TypeId) (cs : Array Value) : Prop := w.heap[g]? = some (.cells cs t (0, 0))
section
variable {w w' : World} {g : Nat} {t : TypeId} {cs : Array Value}
theorem Bx.lt (h : Bx w g t cs) : g < w.heap.size := (Array.getElem?_eq_some_iff.1 h).1
theorem Bx.made (w : World) (t : TypeId) (cs : Array Value) : Bx (w.alloc (.cells cs t)) w.heap.size t cs := heap_alloc_new w _
theorem Bx.new (h : Bx w g t cs) (hb : Below w.heap.size w w') : Bx w' g t cs := (hb.block g h.lt).trans h
theorem Bx.out {lo hi : Nat} (h : Bx w g t cs) (o : Out lo hi w w') (hd : g < lo ∨ hi ≤ g) : Bx w' g t cs := (o.block g h.lt hd).trans h
theorem Bx.two {a b : Value} (h : Bx w g t #[a, b]) : w.cell? ⟨g, 0, none⟩ = some a ∧ w.cell? ⟨g, 1, none⟩ = some b :=
  ⟨by rw [cell_of_row w g 0 _ t (0, 0) h]; rfl, by rw [cell_of_row w g 1 _ t (0, 0) h]; rfl⟩
theorem trans_new {a b c : World} (h : Below a.heap.size a b) (k : Below b.heap.size b c) : Below a.heap.size a c := h.trans (k.mono h.size)
theorem arg_rd {W a b : World} {A : Option Addr} {X : List (List Int)} (R : RdSS W W.heap.size A X) (B : Below W.heap.size W a) (h : Below a.heap.size a b) : RdSS b b.heap.size A X :=
  (R.below (B.trans (h.mono B.size))).more (Nat.le_trans B.size h.size)
end
theorem bcell {W w1 : World} (hb : Below W.heap.size W w1) : (∀ b o, b < W.heap.size → w1.cell? ⟨b, o, none⟩ = W.cell? ⟨b, o, none⟩) ∧ (∀ b o, b < W.heap.size → w1.frozen? ⟨b, o, none⟩ = W.frozen? ⟨b, o, none⟩) :=
  ⟨fun b o h => hb.cell (p := ⟨b, o, none⟩) h, fun b o h => hb.frozen (p := ⟨b, o, none⟩) h⟩
theorem OwnSS.setFar {w : World} {lo hi : Nat} {v : Value} {X : List (List Int)} (h : OwnSS w lo hi v X) {p : Addr} (hp : p.block < lo ∨ hi ≤ p.block) (u : Value) : OwnSS (w.setCell p u) lo hi v X :=
  Owns.keep h SSR_frames fun b h1 h2 _ => Below.heap_setCell w p u b (by omega)
/-- A graph whose slices are new is returned. -/
def FreshG (N : Int) (X : List (List Int)) (w : World) (e : Ending) (w' : World) : Prop :=
  ∃ v, e = .returned (.agg #[.int .i64 N, v]) ∧ OwnSS w' w.heap.size w'.heap.size v X ∧ Below w.heap.size w w'
set_option maxHeartbeats 1600000 in
theorem toGraph_any {w : World} {A : Option Addr} {n c : Nat} {N : Int} {X : List (List Int)} (hl : Hid (X.length = n)) (hn : n ≤ 1099511627776) (hs : Hid (∀ x ∈ X, x.length ≤ 1099511627776)) (hr : RdSS w w.heap.size A X) :
    Calls Try.prog 9 #[.agg #[.int .i64 N, .slice A n c]] w (FreshG N X w) := by
  have hb0 : Below w.heap.size w (((w.alloc (Obj.cells #[Value.int IntKind.i64 N, Value.slice A n c] 24)).alloc (Obj.cells #[Value.int IntKind.i64 0, Value.slice none 0 0] 27)).alloc (Obj.cells #[Value.int IntKind.i64 N, Value.slice none 0 0] 27)) :=
    (((Below.refl _ _).alloc (Nat.le_refl _) _).alloc (by simp) _).alloc (by simp; omega) _
  go_enter Try.func9, Try.ntmps9
  go_wp2_with fail
  refine (toIntSS_any hl hn hs ((hr.below hb0).more hb0.size)).mono ?_
  rintro e w4 ⟨v, rfl, hown, hb4⟩
  obtain ⟨A4, c4, rfl, _, _, _⟩ := hown.rd hl.out
  obtain ⟨hc, hf⟩ := bcell hb4
  have hz : w.heap.size + 3 ≤ w4.heap.size := by have := hb4.size; simpa using this
  have HB := Lib.hid hb4
  have HO := Lib.hid hown
  clear hb4 hown
  go_wp2_with fail
  refine bodyPost_ret (v := .agg #[.int .i64 N, .slice A4 n c4]) (by simp [results, Try.results9, go_sem, hc]) rfl ⟨_, rfl, ?_, ?_⟩
  · have ho := HO.out
    simp only [World.size_alloc] at ho
    exact (((ho.setFar (by simp) _).setFar (by simp) _).setFar (by simp) _).wide (by omega) (by simp)
  · exact (((hb0.trans (HB.out.mono (by simp; omega))).setCell (by simp; omega) _).setCell (by simp) _).setCell (by simp) _
set_option maxHeartbeats 1600000 in
theorem eqGraph_same {w : World} {A A' : Option Addr} {n c c' : Nat} {N : Int} {X : List (List Int)} (hl : Hid (X.length = n)) (hn : n ≤ 1099511627776) (hs : Hid (∀ x ∈ X, x.length ≤ 1099511627776)) (hr : RdSS w w.heap.size A X) (hr' : RdSS w w.heap.size A' X) :
    Calls Try.prog 11 #[.agg #[.int .i64 N, .slice A n c], .agg #[.int .i64 N, .slice A' n c']] w (Tells true w) := by
  have hb0 : Below w.heap.size w ((w.alloc (Obj.cells #[Value.int IntKind.i64 N, Value.slice A n c] 27)).alloc (Obj.cells #[Value.int IntKind.i64 N, Value.slice A' n c'] 27)) :=
    ((Below.refl _ _).alloc (Nat.le_refl _) _).alloc (by simp) _
  have C := eqIntSS_q (c := c) (c' := c') hl hl hn hs hs hn ((hr.below hb0).more hb0.size) ((hr'.below hb0).more hb0.size)
  rw [decide_eq_true (rfl : X = X)] at C
  have HC := Lib.hid C
  clear C
  go_enter Try.func11, Try.ntmps11
  go_wp2_with (go_at_call 46; refine HC.out.mono ?_; rintro e w1 ⟨rfl, m, rfl⟩)
  go_ret
  exact ⟨rfl, below_drewN hb0 m⟩
def MarkedG (q : Int) (lo hi : Nat) (v : Value) (X : List (List Int)) (w : World) (e : Ending) (w' : World) : Prop :=
  e = .returned (.int .i64 q) ∧ OwnSS w' lo hi v X ∧ Out lo hi w w'
/-- What is left of q when a slice's elements are counted off. -/
def szd (q : Int) (n : Nat) : Int := if q - (n : Int) < 0 then -1 else q - (n : Int)
theorem szIntS_any {w : World} {A : Option Addr} {n c : Nat} {q : Int} (hn : n ≤ 9223372036854775807) (h0 : 0 ≤ q) (hq : q ≤ 1000000000000000) :
    Calls Try.prog 69 #[.slice A n c, .int .i64 q] w (fun e w' => e = .returned (.int .i64 (szd q n)) ∧ w = w') := by
  by_cases h : q - (n : Int) < 0
  · have HS : Hid (szd q n = -1) := if_pos h
    go_enter Try.func69, Try.ntmps69
    go_wp2
    go_ret
    exact ⟨ret_i HS.out.symm, rfl⟩
  · have HS : Hid (szd q n = q - (n : Int)) := if_neg h
    have h' : (n : Int) ≤ q := by omega
    clear h
    go_enter Try.func69, Try.ntmps69
    go_wp2
    go_ret
    exact ⟨ret_i HS.out.symm, rfl⟩
/-- Either all is counted, or there is too much. -/
def SzP (q : Int) (X : List (List Int)) (w : World) (e : Ending) (w' : World) : Prop :=
  ∃ r : Int, e = .returned (.int .i64 r) ∧ Below w.heap.size w w' ∧ (r = -1 ∨ 0 ≤ r ∧ r + (X.length : Int) + (psum X X.length : Int) ≤ q)
set_option maxHeartbeats 1600000 in
theorem szIntSS_any {w : World} {A : Option Addr} {n c : Nat} {q : Int} {X : List (List Int)} (hl : Hid (X.length = n)) (hn : n ≤ 9223372036854775807) (h0 : 0 ≤ q) (hq : q ≤ 1000000000000000) (hr : RdSS w w.heap.size A X) :
    Calls Try.prog 37 #[.slice A n c, .int .i64 q] w (SzP q X w) := by
  by_cases h : q - (n : Int) < 0
  · clear hr
    go_enter Try.func37, Try.ntmps37
    go_wp2
    go_ret
    exact ⟨-1, rfl, Below.refl _ _, .inl rfl⟩
  · have h' : (n : Int) ≤ q := by omega
    clear h
    go_enter Try.func37, Try.ntmps37
    go_wp2
    go_loop [1, 5] (fun m i => ∃ (k : Nat) (r : Int), k ≤ n ∧ i = .int .i64 k ∧ m = .int .i64 r ∧ 0 ≤ r ∧ r + (n : Int) + (psum X k : Int) = q) (fun _ i => n - (intOf i).toNat)
    case atStart => exact ⟨0, _, Nat.zero_le _, rfl, rfl, by omega, by rw [psum_zero]; omega⟩
    case round =>
      obtain ⟨k, r, hk, rfl, rfl, hr0, hrq⟩ := hrel
      have HQ := Lib.hid hrq
      have hrb : r ≤ q := by omega
      clear hrq
      by_cases hlt : k < n
      · have hkz : k < X.length := by rw [hl.out]; exact hlt
        obtain ⟨ad, Aj, cj, rfl, hab, hc, hcl, hcm, hrd⟩ := hr.at_ hkz
        have hps := Lib.hid (psum_succ X k hkz)
        have hxl : X[k].length ≤ 9223372036854775807 := by unfold maxLen at hcm; omega
        obtain ⟨x, hx⟩ : ∃ x, x = X[k] := ⟨_, rfl⟩
        rw [← hx] at hc hps hxl
        clear hx hrd hcl hcm hr
        by_cases hneg : r - (x.length : Int) < 0
        · have HS := Lib.hid (show szd r x.length = -1 from if_pos hneg)
          have C := szIntS_any (w := w) (A := Aj) (c := cj) hxl hr0 (by omega : r ≤ 1000000000000000)
          rw [HS.out] at C
          have HC := Lib.hid C
          clear C hneg
          go_wp2_with (go_at_call 69; refine HC.out.mono ?_; rintro e w1 ⟨rfl, rfl⟩)
          go_ret
          exact ⟨-1, rfl, Below.refl _ _, .inl rfl⟩
        · have HS := Lib.hid (show szd r x.length = r - (x.length : Int) from if_neg hneg)
          have C := szIntS_any (w := w) (A := Aj) (c := cj) hxl hr0 (by omega : r ≤ 1000000000000000)
          rw [HS.out] at C
          have HC := Lib.hid C
          have hneg' : (x.length : Int) ≤ r := by omega
          clear C hneg
          go_wp2_with (go_at_call 69; refine HC.out.mono ?_; rintro e w1 ⟨rfl, rfl⟩)
          go_round
          case rel => exact ⟨k + 1, _, by omega, by go_num, rfl, by omega, by have := HQ.out; rw [hps.out]; omega⟩
          case measure => simp [intOf]; omega
      · have e : k = n := by omega
        subst e
        go_wp2
        go_ret
        exact ⟨r, rfl, Below.refl _ _, .inr ⟨hr0, by have := HQ.out; rw [hl.out]; omega⟩⟩
theorem szGraph_any {w : World} {A : Option Addr} {n c : Nat} {q N : Int} {X : List (List Int)} (hl : Hid (X.length = n)) (hn : n ≤ 9223372036854775807) (h0 : 0 ≤ q) (hq : q ≤ 1000000000000000) (hr : RdSS w w.heap.size A X) :
    Calls Try.prog 7 #[.agg #[.int .i64 N, .slice A n c], .int .i64 q] w (SzP q X w) := by
  have hb0 : Below w.heap.size w (w.alloc (Obj.cells #[Value.int IntKind.i64 N, Value.slice A n c] 24)) := (Below.refl _ _).alloc (Nat.le_refl _) _
  have C := Lib.hid (szIntSS_any (c := c) hl hn h0 hq ((hr.below hb0).more hb0.size))
  clear hr
  go_enter Try.func7, Try.ntmps7
  go_wp2_with fail
  refine C.out.mono ?_
  rintro e w1 ⟨r, rfl, hb1, hr⟩
  have hb2 := hb0.trans (hb1.mono hb0.size)
  rcases hr with rfl | ⟨hr, hle⟩
  · go_wp2_with fail
    go_ret
    exact ⟨-1, rfl, hb2, .inl rfl⟩
  · have HL := Lib.hid hle
    clear hle
    go_wp2_with fail
    go_ret
    exact ⟨r, rfl, hb2, .inr ⟨hr, HL.out⟩⟩
end Go.Proofs.Ytobghogkflgpeaa

/- Contracts of chapter 4's models. No conditions but that the slices have at most 2^40 elements. -/
namespace Go.Proofs.Ytobghogkflgpeaa
open Go.ChangeShapes Go.WideShapes Go.ChangeAt Go.RowKit
def okA (M : Int) (a : List Int) : Bool := decide (a.length = 2) && inr (a.getD 0 0) 0 M && inr (a.getD 1 0) 0 M
def ltP (b a : List Int) : Bool := !(decide (a.getD 0 0 < b.getD 0 0) || decide (b.getD 0 0 = a.getD 0 0) && decide (a.getD 1 0 ≤ b.getD 1 0))
def okI (M : Int) (X : List (List Int)) (i : Nat) : Bool := okA M (X.getD i []) && (decide (i = 0) || ltP (X.getD (i - 1) []) (X.getD i []))
def GPre (M : Int) (X : List (List Int)) (k : Nat) : Prop := ∀ i, i < k → okI M X i = true
instance (M : Int) (X : List (List Int)) (k : Nat) : Decidable (GPre M X k) := inferInstanceAs (Decidable (∀ i, i < k → okI M X i = true))
def gB (N : Int) (X : List (List Int)) : Bool := decide (GPre (IntKind.i64.wrap (N - 1)) X X.length) && inr N 0 10
theorem gB_bad {N : Int} {X : List (List Int)} {k : Nat} (hk : k < X.length) (h : okI (IntKind.i64.wrap (N - 1)) X k = false) : gB N X = false := by
  have : ¬ GPre (IntKind.i64.wrap (N - 1)) X X.length := fun hp => by rw [hp k hk] at h; cases h
  simp [gB, this]
theorem gB_end {N : Int} {X : List (List Int)} (h : GPre (IntKind.i64.wrap (N - 1)) X X.length) : gB N X = inr N 0 10 := by simp [gB, h]
theorem GPre.succ {M : Int} {X : List (List Int)} {k : Nat} (h : GPre M X k) (hk : okI M X k = true) : GPre M X (k + 1) := fun i hi => by
  rcases Nat.lt_or_ge i k with h' | h'
  · exact h i h'
  · have : i = k := by omega
    subst this; exact hk
theorem getD_at {X : List (List Int)} {k : Nat} (h : k < X.length) : X.getD k [] = X[k] := by simp [List.getD, h]
theorem okI_two {M : Int} {X : List (List Int)} {k : Nat} (h : okI M X k = true) (hk : k < X.length) : ∃ p q, X[k] = [p, q] := by
  unfold okI okA at h
  simp only [Bool.and_eq_true, decide_eq_true_eq, getD_at hk] at h
  obtain ⟨⟨⟨h1, _⟩, _⟩, _⟩ := h
  match hx : X[k], (show X[k].length = 2 from h1) with
  | [p, q], _ => exact ⟨p, q, rfl⟩
theorem rd2 {w : World} {B : Nat} {A : Option Addr} {p q : Int} (h : Rd w B A (ivs [p, q])) : ∃ g o, A = some ⟨g, o, none⟩ ∧ g < B ∧ w.cell? ⟨g, o, none⟩ = some (.int .i64 p) ∧ w.cell? ⟨g, o + 1, none⟩ = some (.int .i64 q) := by
  obtain ⟨ad, e, hb, hc⟩ := h 0 _ rfl
  obtain ⟨ad', e', _, hc'⟩ := h 1 _ rfl
  have : ad' = ad := by rw [e] at e'; injection e' with e'; exact e'.symm
  subst this
  obtain ⟨g, o, s⟩ := ad'
  have hs : s = none := by simpa [Addr.add] using World.cell?_spot hc
  subst hs
  rw [Addr.add_lit] at hc hc'
  exact ⟨g, o, e, hb, hc, hc'⟩
theorem l1In_Q {w : World} (a lo hi : Int) {b : Bool} (hb : inr a lo hi = b) : ∀ m, Calls Try.prog 39 #[.int .i64 a, .int .i64 lo, .int .i64 hi] (w.drewN m) (fun e w' => e = .returned (.bool b) ∧ ∃ m', w' = (w.drewN m).drewN m') := fun m =>
  (l1In_any a lo hi _).mono fun e w' ⟨h1, h2⟩ => ⟨by rw [h1, hb], 0, h2.symm⟩
set_option maxHeartbeats 8000000 in
set_option maxRecDepth 100000 in
theorem specIsGraph_any {w : World} {A : Option Addr} {n c : Nat} {N : Int} {X : List (List Int)} (hl : Hid (X.length = n)) (hn : n ≤ 1099511627776) (hr : RdSS w w.heap.size A X) :
    Calls Try.prog 38 #[.agg #[.int .i64 N, .slice A n c]] w (Tells (gB N X) w) := by
  have hb0 : Below w.heap.size w (w.alloc (Obj.cells #[Value.int IntKind.i64 N, Value.slice A n c] 27)) := (Below.refl _ _).alloc (Nat.le_refl _) _
  have hr1 := hr.below hb0
  clear hr
  obtain ⟨M, hM⟩ : ∃ M, IntKind.i64.wrap (N - 1) = M := ⟨_, rfl⟩
  have HM := Lib.hid hM
  go_enter Try.func38, Try.ntmps38
  go_wp2
  obtain ⟨W1, hW⟩ : ∃ u : World, u = w.alloc (Obj.cells #[Value.int IntKind.i64 N, Value.slice A n c] 27) := ⟨_, rfl⟩
  rw [← hW] at hr1 hb0 ⊢
  have hbx : Bx W1 w.heap.size 27 #[Value.int IntKind.i64 N, Value.slice A n c] := by rw [hW]; exact Bx.made _ _ _
  obtain ⟨C0, C1⟩ := hbx.two
  clear hW hbx
  go_loopw [3] (fun i wr => ∃ k m : Nat, k ≤ n ∧ i = .int .i64 k ∧ wr = W1.drewN m ∧ Hid (GPre (M) X k)) (fun i _ => n - (intOf i).toNat)
  case atStart => exact ⟨0, 0, Nat.zero_le _, rfl, rfl, Lib.hid (fun i hi => absurd hi (by omega))⟩
  case round =>
    obtain ⟨k, m, hk, rfl, rfl, hpre⟩ := hrel
    by_cases hlt : k < n
    · have hkz : k < X.length := by rw [hl.out]; exact hlt
      obtain ⟨ad, Aj, cj, rfl, hab, hc, _, _, hrd⟩ := hr1.at_ hkz
      by_cases h2 : X[k].length = 2
      · obtain ⟨p, q, hx⟩ : ∃ p q, X[k] = [p, q] := by
          match hx : X[k], h2 with
          | [p, q], _ => exact ⟨p, q, rfl⟩
        have hxD := Lib.hid (show X.getD k [] = [p, q] by rw [getD_at hkz, hx])
        rw [hx] at hc hrd
        obtain ⟨ag, ao, rfl, ha2, e0, e1⟩ := rd2 hrd
        clear h2 hx hrd
        rw [show ([p, q] : List Int).length = 2 from rfl] at hc
        by_cases i1 : inr p 0 (M) = true
        · have J1 := Lib.hid (l1In_Q (w := W1) p 0 (M) i1)
          by_cases i2 : inr q 0 (M) = true
          · have J2 := Lib.hid (l1In_Q (w := W1) q 0 (M) i2)
            have I1 := Lib.hid i1
            have I2 := Lib.hid i2
            clear i1 i2
            go_wp2
            go_quiet ((first | (go_at_call_of 39 (Value.int IntKind.i64 p); with_reducible exact quiet_addQ J1.out) | (go_at_call_of 39 (Value.int IntKind.i64 q); with_reducible exact quiet_addQ J2.out)))
            by_cases hk0 : k = 0
            · subst hk0
              have HP := Lib.hid (hpre.out.succ (by unfold okI okA; rw [hxD.out]; simp [I1.out, I2.out]))
              go_wp2
              go_roundw
              case rel => exact ⟨1, _, by omega, by go_num, rfl, HP.out⟩
              case measure => simp [intOf]; omega
            · have hkp : 0 < k := by omega
              have hk1 : k - 1 < X.length := by omega
              obtain ⟨p', q', hx'⟩ := okI_two (hpre.out (k - 1) (by omega)) hk1
              obtain ⟨ad', Aj', cj', had, hab', hc', _, _, hrd'⟩ := hr1.at_ hk1
              injection had with had
              subst had
              have hxD' := Lib.hid (show X.getD (k - 1) [] = [p', q'] by rw [getD_at hk1, hx'])
              rw [hx'] at hc' hrd'
              obtain ⟨bg, bo, rfl, hb2, f0, f1⟩ := rd2 hrd'
              rw [show ([p', q'] : List Int).length = 2 from rfl] at hc'
              clear hx' hrd' hb2 hab'
              by_cases g1 : p < p'
              · have HB := Lib.hid (gB_bad (N := N) hkz (by rw [HM.out]; unfold okI ltP; rw [hxD.out, hxD'.out]; simp [g1]; omega))
                have d1 : decide (p < p') = true := decide_eq_true g1
                go_wp2
                go_quiet (fail)
                go_wp2
                go_ret
                exact ⟨ret_b HB.out.symm, below_drewN (below_drewN hb0 _) _⟩
              · have d1 : decide (p < p') = false := decide_eq_false g1
                have g1' : p' ≤ p := by omega
                by_cases g2 : p' = p
                · subst g2
                  by_cases g3 : q ≤ q'
                  · have HB := Lib.hid (gB_bad (N := N) hkz (by rw [HM.out]; unfold okI ltP; rw [hxD.out, hxD'.out]; simp [g3]; omega))
                    go_wp2
                    go_quiet (fail)
                    go_wp2
                    go_ret
                    exact ⟨ret_b HB.out.symm, below_drewN (below_drewN hb0 _) _⟩
                  · have HP := Lib.hid (hpre.out.succ (by unfold okI okA ltP; rw [hxD.out, hxD'.out]; simp [I1.out, I2.out, g3]))
                    have g3' : q' < q := by omega
                    go_wp2
                    go_quiet (fail)
                    go_wp2
                    go_roundw
                    case rel => exact ⟨k + 1, _, by omega, by go_num, rfl, HP.out⟩
                    case measure => simp [intOf]; omega
                · have HP := Lib.hid (hpre.out.succ (by unfold okI okA ltP; rw [hxD.out, hxD'.out]; simp [I1.out, I2.out, g1, g2]))
                  have g2' : p' < p := by omega
                  have g4 : (p' == p) = false := by simpa using g2
                  go_wp2
                  go_quiet (fail)
                  go_wp2
                  go_roundw
                  case rel => exact ⟨k + 1, _, by omega, by go_num, rfl, HP.out⟩
                  case measure => simp [intOf]; omega
          · have i2' : inr q 0 (M) = false := by simpa using i2
            have J2 := Lib.hid (l1In_Q (w := W1) q 0 (M) i2')
            have HB := Lib.hid (gB_bad (N := N) hkz (by rw [HM.out]; unfold okI okA; rw [hxD.out]; simp [i2']))
            clear i1 i2 i2'
            go_wp2
            go_quiet ((first | (go_at_call_of 39 (Value.int IntKind.i64 p); with_reducible exact quiet_addQ J1.out) | (go_at_call_of 39 (Value.int IntKind.i64 q); with_reducible exact quiet_addQ J2.out)))
            go_wp2
            go_ret
            exact ⟨ret_b HB.out.symm, below_drewN (below_drewN hb0 _) _⟩
        · have i1' : inr p 0 (M) = false := by simpa using i1
          have J1 := Lib.hid (l1In_Q (w := W1) p 0 (M) i1')
          have HB := Lib.hid (gB_bad (N := N) hkz (by rw [HM.out]; unfold okI okA; rw [hxD.out]; simp [i1']))
          clear i1 i1'
          go_wp2
          go_quiet ((go_at_call 39; with_reducible exact quiet_addQ J1.out))
          go_wp2
          go_ret
          exact ⟨ret_b HB.out.symm, below_drewN (below_drewN hb0 _) _⟩
      · have HB := Lib.hid (gB_bad (N := N) hkz (by rw [HM.out]; unfold okI okA; rw [getD_at hkz]; simp [h2]))
        have h2' : ¬ ((X[k].length : Int) = 2) := by omega
        obtain ⟨x, hx⟩ : ∃ x, x = X[k] := ⟨_, rfl⟩
        rw [← hx] at hc h2 h2'
        have h2b : ((x.length : Int) == 2) = false := by simpa using h2'
        have h2c : ((x.length : Int) != 2) = true := by simpa using h2'
        have h2d : (x.length == 2) = false := by simpa using h2
        have h2e : (x.length != 2) = true := by simpa using h2
        clear hx hrd
        go_wp2
        go_quiet (fail)
        go_wp2
        go_ret
        exact ⟨ret_b HB.out.symm, below_drewN (below_drewN hb0 _) _⟩
    · have e : k = n := by omega
      subst e
      have HE := Lib.hid (gB_end (N := N) (X := X) (by rw [hl.out, HM.out]; exact hpre.out))
      go_wp2_with (go_at_call 39; refine (l1In_any _ _ _ _).mono ?_; rintro e w1 ⟨rfl, rfl⟩)
      go_ret
      exact ⟨ret_b HE.out.symm, below_drewN hb0 m⟩
end Go.Proofs.Ytobghogkflgpeaa
