/- Contracts of the laws' own helpers over Graph: toGraph, eqGraph, markGraph, heldGraph, szGraph. For every graph whose slices have at most 2^40 elements; no other condition. -/
import Derived.Test.YthkigilegnjglaaMg2
import Derived.Test.YthkigilegnjglaaMg4
import Derived.BigQuiet
import Derived.Deep.Quiet
namespace Go.Proofs.Ythkigilegnjglaa
open Go.ChangeShapes Go.WideShapes Go.ChangeAt Go.RowKit
/-- Block g is just the cells cs. -/
def Bx (w : World) (g : Nat) (t : TypeId) (cs : Array Value) : Prop := w.heap[g]? = some (.cells cs t (0, 0))
section
variable {w w' : World} {g : Nat} {t : TypeId} {cs : Array Value}
theorem Bx.lt (h : Bx w g t cs) : g < w.heap.size := (Array.getElem?_eq_some_iff.1 h).1
theorem Bx.made (w : World) (t : TypeId) (cs : Array Value) : Bx (w.alloc (.cells cs t)) w.heap.size t cs := heap_alloc_new w _
theorem Bx.new (h : Bx w g t cs) (hb : Below w.heap.size w w') : Bx w' g t cs := (hb.block g h.lt).trans h
theorem Bx.out {lo hi : Nat} (h : Bx w g t cs) (o : Out lo hi w w') (hd : g < lo ∨ hi ≤ g) : Bx w' g t cs := (o.block g h.lt hd).trans h
theorem Bx.two {a b : Value} (h : Bx w g t #[a, b]) : w.cell? ⟨g, 0, none⟩ = some a ∧ w.cell? ⟨g, 1, none⟩ = some b :=
  ⟨by rw [cell_of_row w g 0 _ t (0, 0) h]; rfl, by rw [cell_of_row w g 1 _ t (0, 0) h]; rfl⟩
theorem trans_new {a b c : World} (h : Below a.heap.size a b) (k : Below b.heap.size b c) : Below a.heap.size a c := h.trans (k.mono h.size)
theorem arg_rd {W a b : World} {A : Option Addr} {X : List (List Int)} (R : RdSS W W.heap.size A X) (B : Below W.heap.size W a) (h : Below a.heap.size a b) : RdSS b b.heap.size A X :=
  (R.below (B.trans (h.mono B.size))).more (Nat.le_trans B.size h.size)
end
theorem bcell {W w1 : World} (hb : Below W.heap.size W w1) : (∀ b o, b < W.heap.size → w1.cell? ⟨b, o, none⟩ = W.cell? ⟨b, o, none⟩) ∧ (∀ b o, b < W.heap.size → w1.frozen? ⟨b, o, none⟩ = W.frozen? ⟨b, o, none⟩) :=
  ⟨fun b o h => hb.cell (p := ⟨b, o, none⟩) h, fun b o h => hb.frozen (p := ⟨b, o, none⟩) h⟩
theorem OwnSS.setFar {w : World} {lo hi : Nat} {v : Value} {X : List (List Int)} (h : OwnSS w lo hi v X) {p : Addr} (hp : p.block < lo ∨ hi ≤ p.block) (u : Value) : OwnSS (w.setCell p u) lo hi v X :=
  Owns.keep h SSR_frames fun b h1 h2 _ => Below.heap_setCell w p u b (by omega)
/-- A graph whose slices are new is returned. -/
def FreshG (N : Int) (X : List (List Int)) (w : World) (e : Ending) (w' : World) : Prop :=
  ∃ v, e = .returned (.agg #[.int .i64 N, v]) ∧ OwnSS w' w.heap.size w'.heap.size v X ∧ Below w.heap.size w w'
def MarkedG (q : Int) (lo hi : Nat) (v : Value) (X : List (List Int)) (w : World) (e : Ending) (w' : World) : Prop :=
  e = .returned (.int .i64 q) ∧ OwnSS w' lo hi v X ∧ Out lo hi w w'
/-- What is left of q when a slice's elements are counted off. -/
def szd (q : Int) (n : Nat) : Int := if q - (n : Int) < 0 then -1 else q - (n : Int)
theorem szIntS_any {w : World} {A : Option Addr} {n c : Nat} {q : Int} (hn : n ≤ 9223372036854775807) (h0 : 0 ≤ q) (hq : q ≤ 1000000000000000) :
    Calls Try.prog 61 #[.slice A n c, .int .i64 q] w (fun e w' => e = .returned (.int .i64 (szd q n)) ∧ w = w') := by
  by_cases h : q - (n : Int) < 0
  · have HS : Hid (szd q n = -1) := if_pos h
    go_enter Try.func61, Try.ntmps61
    go_wp2
    go_ret
    exact ⟨ret_i HS.out.symm, rfl⟩
  · have HS : Hid (szd q n = q - (n : Int)) := if_neg h
    have h' : (n : Int) ≤ q := by omega
    clear h
    go_enter Try.func61, Try.ntmps61
    go_wp2
    go_ret
    exact ⟨ret_i HS.out.symm, rfl⟩
/-- Either all is counted, or there is too much. -/
def SzP (q : Int) (X : List (List Int)) (w : World) (e : Ending) (w' : World) : Prop :=
  ∃ r : Int, e = .returned (.int .i64 r) ∧ Below w.heap.size w w' ∧ (r = -1 ∨ 0 ≤ r ∧ r + (X.length : Int) + (psum X X.length : Int) ≤ q)
set_option maxHeartbeats 1600000 in
theorem szIntSS_any {w : World} {A : Option Addr} {n c : Nat} {q : Int} {X : List (List Int)} (hl : Hid (X.length = n)) (hn : n ≤ 9223372036854775807) (h0 : 0 ≤ q) (hq : q ≤ 1000000000000000) (hr : RdSS w w.heap.size A X) :
    Calls Try.prog 15 #[.slice A n c, .int .i64 q] w (SzP q X w) := by
  by_cases h : q - (n : Int) < 0
  · clear hr
    go_enter Try.func15, Try.ntmps15
    go_wp2
    go_ret
    exact ⟨-1, rfl, Below.refl _ _, .inl rfl⟩
  · have h' : (n : Int) ≤ q := by omega
    clear h
    go_enter Try.func15, Try.ntmps15
    go_wp2
    go_loop [1, 5] (fun m i => ∃ (k : Nat) (r : Int), k ≤ n ∧ i = .int .i64 k ∧ m = .int .i64 r ∧ 0 ≤ r ∧ r + (n : Int) + (psum X k : Int) = q) (fun _ i => n - (intOf i).toNat)
    case atStart => exact ⟨0, _, Nat.zero_le _, rfl, rfl, by omega, by rw [psum_zero]; omega⟩
    case round =>
      obtain ⟨k, r, hk, rfl, rfl, hr0, hrq⟩ := hrel
      have HQ := Lib.hid hrq
      have hrb : r ≤ q := by omega
      clear hrq
      by_cases hlt : k < n
      · have hkz : k < X.length := by rw [hl.out]; exact hlt
        obtain ⟨ad, Aj, cj, rfl, hab, hc, hcl, hcm, hrd⟩ := hr.at_ hkz
        have hps := Lib.hid (psum_succ X k hkz)
        have hxl : X[k].length ≤ 9223372036854775807 := by unfold maxLen at hcm; omega
        obtain ⟨x, hx⟩ : ∃ x, x = X[k] := ⟨_, rfl⟩
        rw [← hx] at hc hps hxl
        clear hx hrd hcl hcm hr
        by_cases hneg : r - (x.length : Int) < 0
        · have HS := Lib.hid (show szd r x.length = -1 from if_pos hneg)
          have C := szIntS_any (w := w) (A := Aj) (c := cj) hxl hr0 (by omega : r ≤ 1000000000000000)
          rw [HS.out] at C
          have HC := Lib.hid C
          clear C hneg
          go_wp2_with (go_at_call 61; refine HC.out.mono ?_; rintro e w1 ⟨rfl, rfl⟩)
          go_ret
          exact ⟨-1, rfl, Below.refl _ _, .inl rfl⟩
        · have HS := Lib.hid (show szd r x.length = r - (x.length : Int) from if_neg hneg)
          have C := szIntS_any (w := w) (A := Aj) (c := cj) hxl hr0 (by omega : r ≤ 1000000000000000)
          rw [HS.out] at C
          have HC := Lib.hid C
          have hneg' : (x.length : Int) ≤ r := by omega
          clear C hneg
          go_wp2_with (go_at_call 61; refine HC.out.mono ?_; rintro e w1 ⟨rfl, rfl⟩)
          go_round
          case rel => exact ⟨k + 1, _, by omega, by go_num, rfl, by omega, by have := HQ.out; rw [hps.out]; omega⟩
          case measure => simp [intOf]; omega
      · have e : k = n := by omega
        subst e
        go_wp2
        go_ret
        exact ⟨r, rfl, Below.refl _ _, .inr ⟨hr0, by have := HQ.out; rw [hl.out]; omega⟩⟩
end Go.Proofs.Ythkigilegnjglaa

/- Contracts of the laws' own functions over teams: toTeam, toTeamS, szTeam, szTeamS, eqTeam, eqTeamS. No conditions but that the slices have at most 2^40 elements. -/
namespace Go.Proofs.Ythkigilegnjglaa
open Go.ChangeShapes Go.WideShapes Go.ChangeAt Go.RowKit
set_option maxRecDepth 100000
def Tm.v (x : Tm) (u : Value) : Value := .agg #[.int .i64 x.id, .int .i64 x.club, .int .i64 x.wins, .int .i64 x.pts, .int .i64 x.firsts, u]
set_option maxHeartbeats 1600000 in
theorem toTeam_any {w : World} {A : Option Addr} {c : Nat} {x : Tm} (hn : x.met.length ≤ 1099511627776) (hr : Rd w w.heap.size A (ivs x.met)) :
    Calls Try.prog 74 #[.agg #[.int .i64 x.id, .int .i64 x.club, .int .i64 x.wins, .int .i64 x.pts, .int .i64 x.firsts, .slice A x.met.length c]] w (fun e w' => ∃ A' c', e = .returned (.agg #[.int .i64 x.id, .int .i64 x.club, .int .i64 x.wins, .int .i64 x.pts, .int .i64 x.firsts, .slice A' x.met.length c']) ∧ Row w' w.heap.size w'.heap.size 3 (.slice A' x.met.length c') (ivs x.met) ∧ Below w.heap.size w w') := by
  have hb0 : Below w.heap.size w (((w.alloc (Obj.cells #[Value.int IntKind.i64 x.id, Value.int IntKind.i64 x.club, Value.int IntKind.i64 x.wins, Value.int IntKind.i64 x.pts, Value.int IntKind.i64 x.firsts, Value.slice A x.met.length c] 81)).alloc (Obj.cells #[Value.int IntKind.i64 0, Value.int IntKind.i64 0, Value.int IntKind.i64 0, Value.int IntKind.i64 0, Value.int IntKind.i64 0, Value.slice none 0 0] 82)).alloc (Obj.cells #[Value.int IntKind.i64 x.id, Value.int IntKind.i64 x.club, Value.int IntKind.i64 x.wins, Value.int IntKind.i64 x.pts, Value.int IntKind.i64 x.firsts, Value.slice none 0 0] 82)) :=
    (((Below.refl _ _).alloc (Nat.le_refl _) _).alloc (by simp) _).alloc (by simp; omega) _
  go_enter Try.func74, Try.ntmps74
  go_wp2_with fail
  refine (toIntS_any (Lib.hid rfl) (by omega) ((hr.below hb0).more hb0.size)).mono ?_
  rintro e w4 ⟨v, rfl, hown, hb4⟩
  obtain ⟨A4, c4, rfl, _, _, _⟩ := hown.rd (ivs_len _)
  obtain ⟨hc, hf⟩ := bcell hb4
  have hz : w.heap.size + 3 ≤ w4.heap.size := by have := hb4.size; simpa using this
  have HB := Lib.hid hb4
  have HO := Lib.hid hown
  clear hb4 hown
  go_wp2_with fail
  refine bodyPost_ret (v := .agg #[.int .i64 x.id, .int .i64 x.club, .int .i64 x.wins, .int .i64 x.pts, .int .i64 x.firsts, .slice A4 x.met.length c4]) (by simp [results, Try.results74, go_sem, hc]) rfl ⟨_, _, rfl, ?_, ?_⟩
  · have ho := HO.out
    simp only [World.size_alloc] at ho
    refine Row.wide (lo := w.heap.size + 1 + 1 + 1) (hi := w4.heap.size) (ho.keep fun b h1 h2 h3 => ?_) (by omega) (by simp)
    repeat rw [Below.heap_setCell _ _ _ _ (by simp; omega)]
  · iterate 7 refine Below.setCell ?_ (by first | (simp; omega) | simp) _
    exact hb0.trans (HB.out.mono (by simp; omega))
theorem szTeam_any {w : World} {A : Option Addr} {c : Nat} {x : Tm} {q : Int} (hn : x.met.length ≤ 9223372036854775807) (h0 : 0 ≤ q) (hq : q ≤ 1000000000000000) :
    Calls Try.prog 70 #[.agg #[.int .i64 x.id, .int .i64 x.club, .int .i64 x.wins, .int .i64 x.pts, .int .i64 x.firsts, .slice A x.met.length c], .int .i64 q] w (fun e w' => e = .returned (.int .i64 (szd q x.met.length)) ∧ Below w.heap.size w w') := by
  have hb0 : Below w.heap.size w (w.alloc (Obj.cells #[Value.int IntKind.i64 x.id, Value.int IntKind.i64 x.club, Value.int IntKind.i64 x.wins, Value.int IntKind.i64 x.pts, Value.int IntKind.i64 x.firsts, Value.slice A x.met.length c] 81)) := (Below.refl _ _).alloc (Nat.le_refl _) _
  obtain ⟨n, hne⟩ : ∃ n, x.met.length = n := ⟨_, rfl⟩
  rw [hne] at hn hb0 ⊢
  by_cases h : q - (n : Int) < 0
  · have HS := Lib.hid (show szd q n = -1 by unfold szd; rw [if_pos (by omega)])
    clear h
    go_enter Try.func70, Try.ntmps70
    go_wp2_with fail
    refine (szIntS_any hn h0 hq).mono ?_
    rintro e w1 ⟨rfl, rfl⟩
    rw [HS.out]
    go_wp2_with fail
    go_ret
    exact ⟨ret_i HS.out.symm, hb0⟩
  · obtain ⟨r, hr⟩ : ∃ r, szd q n = r := ⟨_, rfl⟩
    have hr0 : 0 ≤ r := by rw [← hr]; unfold szd; rw [if_neg (by omega)]; omega
    have HS := Lib.hid hr
    clear h hr
    go_enter Try.func70, Try.ntmps70
    go_wp2_with fail
    refine (szIntS_any hn h0 hq).mono ?_
    rintro e w1 ⟨rfl, rfl⟩
    rw [HS.out]
    go_wp2_with fail
    go_ret
    exact ⟨ret_i HS.out.symm, hb0⟩
set_option maxHeartbeats 1600000 in
theorem eqTeam_same {w : World} {A A' : Option Addr} {c c' : Nat} {x : Tm} (hn : x.met.length ≤ 1099511627776) (hr : Rd w w.heap.size A (ivs x.met)) (hr' : Rd w w.heap.size A' (ivs x.met)) :
    Calls Try.prog 79 #[.agg #[.int .i64 x.id, .int .i64 x.club, .int .i64 x.wins, .int .i64 x.pts, .int .i64 x.firsts, .slice A x.met.length c], .agg #[.int .i64 x.id, .int .i64 x.club, .int .i64 x.wins, .int .i64 x.pts, .int .i64 x.firsts, .slice A' x.met.length c']] w (Tells true w) := by
  have hb0 : Below w.heap.size w ((w.alloc (Obj.cells #[Value.int IntKind.i64 x.id, Value.int IntKind.i64 x.club, Value.int IntKind.i64 x.wins, Value.int IntKind.i64 x.pts, Value.int IntKind.i64 x.firsts, Value.slice A x.met.length c] 82)).alloc (Obj.cells #[Value.int IntKind.i64 x.id, Value.int IntKind.i64 x.club, Value.int IntKind.i64 x.wins, Value.int IntKind.i64 x.pts, Value.int IntKind.i64 x.firsts, Value.slice A' x.met.length c'] 82)) :=
    ((Below.refl _ _).alloc (Nat.le_refl _) _).alloc (by simp) _
  have C := eqIntS_any (c := c) (c' := c') (zs := x.met) (ys := x.met) (Lib.hid rfl) (Lib.hid rfl) (by omega) (by omega) ((hr.below hb0).more hb0.size) ((hr'.below hb0).more hb0.size)
  rw [decide_eq_true (rfl : x.met = x.met)] at C
  have HC := Lib.hid C
  clear C
  go_enter Try.func79, Try.ntmps79
  go_wp2_with (go_at_call 38; refine HC.out.mono ?_; rintro e w1 ⟨rfl, hb9⟩)
  go_ret
  exact ⟨rfl, hb0.trans (hb9.mono hb0.size)⟩
theorem Tm_mets_get {X : List Tm} {k : Nat} (h : k < X.length) : psum (X.map Tm.met) (k + 1) = psum (X.map Tm.met) k + X[k].met.length := by
  rw [psum_succ _ k (by simpa using h)]; simp
theorem Tm_mets_mem {X : List Tm} {k : Nat} (h : k < X.length) : X[k].met.length ≤ psum (X.map Tm.met) X.length := by
  have := psum_mem (X.map Tm.met) X[k].met (List.mem_map.2 ⟨X[k], List.getElem_mem _, rfl⟩)
  simpa using this
/-- Either all is counted, or there is too much. -/
def SzT (q : Int) (X : List Tm) (w : World) (e : Ending) (w' : World) : Prop :=
  ∃ r : Int, e = .returned (.int .i64 r) ∧ Below w.heap.size w w' ∧ (r = -1 ∨ 0 ≤ r ∧ r + (X.length : Int) + (psum (X.map Tm.met) X.length : Int) ≤ q)
set_option maxHeartbeats 1600000 in
theorem szTeamS_any {w : World} {A : Option Addr} {n c : Nat} {q : Int} {X : List Tm} (hl : Hid (X.length = n)) (hn : n ≤ 9223372036854775807) (h0 : 0 ≤ q) (hq : q ≤ 1000000000000000) (hr : RdT w w.heap.size A X) :
    Calls Try.prog 20 #[.slice A n c, .int .i64 q] w (SzT q X w) := by
  by_cases h : q - (n : Int) < 0
  · clear hr
    go_enter Try.func20, Try.ntmps20
    go_wp2_with fail
    go_ret
    exact ⟨-1, rfl, Below.refl _ _, .inl rfl⟩
  · have h' : (n : Int) ≤ q := by omega
    clear h
    go_enter Try.func20, Try.ntmps20
    go_wp2_with fail
    go_loopw [1, 5] (fun m i wr => ∃ (k : Nat) (r : Int), k ≤ n ∧ i = .int .i64 k ∧ m = .int .i64 r ∧ 0 ≤ r ∧ Below w.heap.size w wr ∧ Hid (r + (n : Int) + (psum (X.map Tm.met) k : Int) = q) ∧ r ≤ q) (fun _ i _ => n - (intOf i).toNat)
    case atStart => exact ⟨0, _, Nat.zero_le _, rfl, rfl, by omega, Below.refl _ _, Lib.hid (by rw [psum_zero]; omega), by omega⟩
    case round =>
      obtain ⟨k, r, hk, rfl, rfl, hr0, hb, HQ, hrb⟩ := hrel
      by_cases hlt : k < n
      · have hkz : k < X.length := by rw [hl.out]; exact hlt
        obtain ⟨ad, p, rfl, hp, hab, Aj, cj, c0, c1, c2, c3, c4, c5, hcl, hcm, hrd⟩ := ((hr.below hb).more hb.size).at_ hkz
        have hps := Lib.hid (Tm_mets_get hkz)
        have hxl : X[k].met.length ≤ 9223372036854775807 := by unfold maxLen at hcm; omega
        obtain ⟨x, hx⟩ : ∃ x, x = X[k] := ⟨_, rfl⟩
        rw [← hx] at c0 c1 c2 c3 c4 c5 hps hxl
        have i0 : (0 : Int) ≤ (k : Int) := by omega
        have i1 : (k : Int) < (n : Int) := by omega
        clear hx hrd hcl hcm
        go_wp2_with fail
        refine (szTeam_any hxl hr0 (by omega)).mono ?_
        rintro e w1 ⟨rfl, hb1⟩
        have hb2 := hb.trans (hb1.mono hb.size)
        by_cases hneg : r - (x.met.length : Int) < 0
        · rw [show szd r x.met.length = -1 from if_pos hneg]
          clear hneg
          go_wp2_with fail
          go_ret
          exact ⟨-1, rfl, hb2, .inl rfl⟩
        · rw [show szd r x.met.length = r - (x.met.length : Int) from if_neg hneg]
          obtain ⟨r2, hr2⟩ : ∃ r2, r - (x.met.length : Int) = r2 := ⟨_, rfl⟩
          have hr20 : 0 ≤ r2 := by omega
          have hr2b : r2 ≤ q := by omega
          have HR := Lib.hid hr2
          rw [hr2]
          clear hneg hr2
          go_wp2_with fail
          go_roundw
          case rel => exact ⟨k + 1, r2, by omega, by go_num, rfl, hr20, hb2, Lib.hid (by have := HQ.out; have := HR.out; rw [hps.out]; omega), hr2b⟩
          case measure => simp [intOf]; omega
      · have e : k = n := by omega
        subst e
        go_wp2_with fail
        go_ret
        exact ⟨r, rfl, hb, .inr ⟨hr0, by have := HQ.out; rw [hl.out]; omega⟩⟩
set_option maxHeartbeats 4000000 in
theorem eqTeamS_same {w : World} {A A' : Option Addr} {n c c' : Nat} {X : List Tm} (hl : Hid (X.length = n)) (hn : n ≤ 1099511627776) (hs : Hid (∀ x ∈ X, x.met.length ≤ 1099511627776))
    (hr : RdT w w.heap.size A X) (hr' : RdT w w.heap.size A' X) :
    Calls Try.prog 24 #[.slice A n c, .slice A' n c'] w (Tells true w) := by
  go_enter Try.func24, Try.ntmps24
  go_wp2_with fail
  go_loopw [5] (fun i wr => ∃ k : Nat, k ≤ n ∧ i = .int .i64 k ∧ Below w.heap.size w wr) (fun i _ => n - (intOf i).toNat)
  case atStart => exact ⟨0, Nat.zero_le _, rfl, Below.refl _ _⟩
  case round =>
    obtain ⟨k, hk, rfl, hb⟩ := hrel
    by_cases hlt : k < n
    · have hkz : k < X.length := by rw [hl.out]; exact hlt
      obtain ⟨ad, p, rfl, hp, hab, Aj, cj, c0, c1, c2, c3, c4, c5, _, _, hrd⟩ := ((hr.below hb).more hb.size).at_ hkz
      obtain ⟨ad', p', rfl, hp', hab', Aj', cj', d0, d1, d2, d3, d4, d5, _, _, hrd'⟩ := ((hr'.below hb).more hb.size).at_ hkz
      have hxl := hs.out X[k] (List.getElem_mem _)
      obtain ⟨x, hx⟩ : ∃ x, x = X[k] := ⟨_, rfl⟩
      rw [← hx] at c0 c1 c2 c3 c4 c5 d0 d1 d2 d3 d4 d5 hrd hrd' hxl
      have i0 : (0 : Int) ≤ (k : Int) := by omega
      have i1 : (k : Int) < (n : Int) := by omega
      have KE := fun (u : World) (q : Below wr.heap.size wr u) => show Below wr.heap.size wr u ∧ u.cell? p = some (.int .i64 x.id) ∧ u.cell? ⟨p.block, p.off + 1, none⟩ = some (.int .i64 x.club) ∧ u.cell? ⟨p.block, p.off + 2, none⟩ = some (.int .i64 x.wins) ∧ u.cell? ⟨p.block, p.off + 3, none⟩ = some (.int .i64 x.pts) ∧ u.cell? ⟨p.block, p.off + 4, none⟩ = some (.int .i64 x.firsts) ∧ u.cell? ⟨p.block, p.off + 5, none⟩ = some (.slice Aj x.met.length cj) ∧ u.cell? p' = some (.int .i64 x.id) ∧ u.cell? ⟨p'.block, p'.off + 1, none⟩ = some (.int .i64 x.club) ∧ u.cell? ⟨p'.block, p'.off + 2, none⟩ = some (.int .i64 x.wins) ∧ u.cell? ⟨p'.block, p'.off + 3, none⟩ = some (.int .i64 x.pts) ∧ u.cell? ⟨p'.block, p'.off + 4, none⟩ = some (.int .i64 x.firsts) ∧ u.cell? ⟨p'.block, p'.off + 5, none⟩ = some (.slice Aj' x.met.length cj') from ⟨q, (q.cell (p := p) hab).trans c0, (q.cell (p := ⟨p.block, p.off + 1, none⟩) hab).trans c1, (q.cell (p := ⟨p.block, p.off + 2, none⟩) hab).trans c2, (q.cell (p := ⟨p.block, p.off + 3, none⟩) hab).trans c3, (q.cell (p := ⟨p.block, p.off + 4, none⟩) hab).trans c4, (q.cell (p := ⟨p.block, p.off + 5, none⟩) hab).trans c5, (q.cell (p := p') hab').trans d0, (q.cell (p := ⟨p'.block, p'.off + 1, none⟩) hab').trans d1, (q.cell (p := ⟨p'.block, p'.off + 2, none⟩) hab').trans d2, (q.cell (p := ⟨p'.block, p'.off + 3, none⟩) hab').trans d3, (q.cell (p := ⟨p'.block, p'.off + 4, none⟩) hab').trans d4, (q.cell (p := ⟨p'.block, p'.off + 5, none⟩) hab').trans d5⟩
      clear hx
      go_wp2_with fail
      refine wp_region_quiet (C := fun u => Below wr.heap.size wr u ∧ u.cell? p = some (.int .i64 x.id) ∧ u.cell? ⟨p.block, p.off + 1, none⟩ = some (.int .i64 x.club) ∧ u.cell? ⟨p.block, p.off + 2, none⟩ = some (.int .i64 x.wins) ∧ u.cell? ⟨p.block, p.off + 3, none⟩ = some (.int .i64 x.pts) ∧ u.cell? ⟨p.block, p.off + 4, none⟩ = some (.int .i64 x.firsts) ∧ u.cell? ⟨p.block, p.off + 5, none⟩ = some (.slice Aj x.met.length cj) ∧ u.cell? p' = some (.int .i64 x.id) ∧ u.cell? ⟨p'.block, p'.off + 1, none⟩ = some (.int .i64 x.club) ∧ u.cell? ⟨p'.block, p'.off + 2, none⟩ = some (.int .i64 x.wins) ∧ u.cell? ⟨p'.block, p'.off + 3, none⟩ = some (.int .i64 x.pts) ∧ u.cell? ⟨p'.block, p'.off + 4, none⟩ = some (.int .i64 x.firsts) ∧ u.cell? ⟨p'.block, p'.off + 5, none⟩ = some (.slice Aj' x.met.length cj')) (by kernel_rfl) (by kernel_rfl) (KE _ (Below.refl _ _).drew) ?_
      rw [List.toList_toArray]
      go_big_quiet_want
      go_big_quiet_op
      go_big_quiet_on
      go_big_quiet_want
      go_big_quiet_op
      go_big_quiet_on
      go_big_quiet_want
      apply Exists.intro
      refine ⟨fun u hu => ?_, ?_⟩
      · obtain ⟨hu0, hu1, hu2, hu3, hu4, hu5, hu6, hu7, hu8, hu9, hu10, hu11, hu12⟩ := hu
        unfold Oper.quietAt
        go_simp
        try rfl
      simp only [Act.put, List.setIfInBounds_toArray, List.set_cons_zero, List.set_cons_succ]
      go_big_quiet_on
      go_big_quiet_want
      apply Exists.intro
      refine ⟨fun u hu => ?_, ?_⟩
      · obtain ⟨hu0, hu1, hu2, hu3, hu4, hu5, hu6, hu7, hu8, hu9, hu10, hu11, hu12⟩ := hu
        unfold Oper.quietAt
        go_simp
        try rfl
      simp only [Act.put, List.setIfInBounds_toArray, List.set_cons_zero, List.set_cons_succ]
      go_big_quiet_on
      go_big_quiet_want
      go_big_quiet_op
      go_big_quiet_on
      go_big_quiet_want
      go_big_quiet_op
      go_big_quiet_on
      go_big_quiet_want
      apply Exists.intro
      refine ⟨fun u hu => ?_, ?_⟩
      · obtain ⟨hu0, hu1, hu2, hu3, hu4, hu5, hu6, hu7, hu8, hu9, hu10, hu11, hu12⟩ := hu
        unfold Oper.quietAt
        go_simp
        try rfl
      simp only [Act.put, List.setIfInBounds_toArray, List.set_cons_zero, List.set_cons_succ]
      go_big_quiet_on
      go_big_quiet_want
      apply Exists.intro
      refine ⟨fun u hu => ?_, ?_⟩
      · obtain ⟨hu0, hu1, hu2, hu3, hu4, hu5, hu6, hu7, hu8, hu9, hu10, hu11, hu12⟩ := hu
        unfold Oper.quietAt
        go_simp
        try rfl
      simp only [Act.put, List.setIfInBounds_toArray, List.set_cons_zero, List.set_cons_succ]
      go_big_quiet_on
      go_big_quiet_want
      refine ⟨.bool true, fun u hu => ?_, ?_⟩
      · obtain ⟨hu0, hu1, hu2, hu3, hu4, hu5, hu6, hu7, hu8, hu9, hu10, hu11, hu12⟩ := hu
        unfold Oper.quietAt
        go_simp
        refine (eqTeam_same hxl ((hrd.below hu0).more hu0.size) ((hrd'.below hu0).more hu0.size)).mono ?_
        rintro e u9 ⟨he, hb9⟩
        exact ⟨he, KE _ (trans_new hu0 hb9)⟩
      simp only [Act.put, List.setIfInBounds_toArray, List.set_cons_zero, List.set_cons_succ]
      go_big_quiet_on
      go_big_quiet_want
      apply Exists.intro
      refine ⟨fun u hu => ?_, ?_⟩
      · obtain ⟨hu0, hu1, hu2, hu3, hu4, hu5, hu6, hu7, hu8, hu9, hu10, hu11, hu12⟩ := hu
        unfold Oper.quietAt
        go_simp
        try rfl
      simp only [Act.put, List.setIfInBounds_toArray, List.set_cons_zero, List.set_cons_succ]
      go_big_quiet_on
      refine wpQuiet_nil ?_
      rintro u ⟨r, _⟩
      go_wp2_with fail
      go_roundw
      case rel => exact ⟨k + 1, by omega, by go_num, hb.trans (r.mono hb.size)⟩
      case measure => simp [intOf]; omega
    · have e : k = n := by omega
      subst e
      go_wp2_with fail
      go_ret
      exact ⟨rfl, hb⟩
def FreshT (X : List Tm) (w : World) (e : Ending) (w' : World) : Prop :=
  ∃ v, e = .returned v ∧ OwnT w' w.heap.size w'.heap.size v X ∧ Below w.heap.size w w'
set_option maxHeartbeats 4000000 in
theorem toTeamS_any {w : World} {A : Option Addr} {n c : Nat} {X : List Tm} (hl : Hid (X.length = n)) (hn : n ≤ 1099511627776) (hs : Hid (∀ x ∈ X, x.met.length ≤ 1099511627776)) (hr : RdT w w.heap.size A X) :
    Calls Try.prog 22 #[.slice A n c] w (FreshT X w) := by
  obtain ⟨i0, hi, hz0, hz1, hz2⟩ := info_parts Team_info
  go_enter Try.func22, Try.ntmps22
  go_wp2_with (first | (at_make; refine wpList_make_full _ rfl _ _ 30 rfl w.heap.size 82 i0 _ 6 Try.underlying30 hi hz0 hz1 _ _ _ _ n rfl rfl rfl rfl (by rw [hz2]; omega) (by unfold maxLen; omega) (Nat.le_refl _) ?_; intro w1 hown1 hg1))
  have hb1 : Below w.heap.size w w1 := (Below.refl _ _).grown hg1 (Nat.le_refl _) (by simp)
  have hsz := (hown1.lt w.heap.size rfl).2
  have hown2 : w1.ownsRow w.heap.size 82 6 (.slice (some ⟨w.heap.size, 0, none⟩) n n) n (List.replicate n [.int .i64 0, .int .i64 0, .int .i64 0, .int .i64 0, .int .i64 0, .slice none 0 0]).flatten := by
    have e1 := madeCells_flat [.int .i64 0, .int .i64 0, .int .i64 0, .int .i64 0, .int .i64 0, .slice none 0 0] (by simp) n
    rw [← e1]; exact hown1
  have hss : OwnT w1 w.heap.size w1.heap.size (.slice (some ⟨w.heap.size, 0, none⟩) n n) (List.replicate n ⟨0, 0, 0, 0, 0, []⟩) :=
    ⟨[w.heap.size], RowsR.madeK rfl hown2 ⟨_, rfl, ⟨_, rfl, by simpa using World.ownsRow_nil w1 0 3 1, rfl⟩⟩, by simp, by simp; omega⟩
  have HO := Lib.hid hss
  clear hown1 hown2 hss
  go_loopw [4] (fun i wr => ∃ k : Nat, k ≤ n ∧ i = .int .i64 k ∧ Below w.heap.size w wr ∧ w.heap.size < wr.heap.size ∧ OwnT wr w.heap.size wr.heap.size (.slice (some ⟨w.heap.size, 0, none⟩) n n) (X.take k ++ (List.replicate n ⟨0, 0, 0, 0, 0, []⟩).drop k)) (fun i _ => n - (intOf i).toNat)
  case atStart => exact ⟨0, Nat.zero_le _, rfl, hb1, hsz, by simpa using HO.out⟩
  case round =>
    obtain ⟨k, hk, rfl, hb, hsz2, hown⟩ := hrel
    have hrl : (List.replicate n (⟨0, 0, 0, 0, 0, []⟩ : Tm)).length = X.length := by rw [List.length_replicate, hl.out]
    have hml : (X.take k ++ (List.replicate n (⟨0, 0, 0, 0, 0, []⟩ : Tm)).drop k).length = n := by rw [mix_len _ _ _ hrl, hl.out]
    have HR := Lib.hid hrl
    have HM := Lib.hid hml
    clear hrl hml
    by_cases hlt : k < n
    · have hkz : k < X.length := by rw [hl.out]; exact hlt
      obtain ⟨ad, p, rfl, hp, hab, Aj, cj, c0, c1, c2, c3, c4, c5, _, _, hrd⟩ := ((hr.below hb).more hb.size).at_ hkz
      have hm := Lib.hid (set_mixG X (List.replicate n ⟨0, 0, 0, 0, 0, []⟩) k X[k] hkz HR.out (List.getElem?_eq_getElem hkz))
      have hxl := hs.out X[k] (List.getElem_mem _)
      obtain ⟨x, hx⟩ : ∃ x, x = X[k] := ⟨_, rfl⟩
      rw [← hx] at c0 c1 c2 c3 c4 c5 hrd hxl hm
      have hs1 := hb.size
      obtain ⟨L, hL⟩ : ∃ L, L = X.take k ++ (List.replicate n (⟨0, 0, 0, 0, 0, []⟩ : Tm)).drop k := ⟨_, rfl⟩
      rw [← hL] at hown hm HM
      obtain rfl : L.length = n := HM.out
      have i0 : (0 : Int) ≤ (k : Int) := by omega
      have i1 : (k : Int) < (L.length : Int) := by omega
      have HOW := Lib.hid hown
      clear hx hL HO hown
      go_wp2_with fail
      refine (toTeam_any hxl hrd).mono ?_
      rintro e w2 ⟨A9, c9, rfl, hrow, hb2⟩
      have hown2 := HOW.out.new hb2
      have hcs := hown2.rd'.at_ hlt
      obtain ⟨ag, pg, eg, hpg, hgb, Ag, cg, g0, g1, g2, g3, g4, g5, _, _, _⟩ := hcs
      injection eg with eg
      subst eg
      have hpe : pg = ⟨w.heap.size, k * 6, none⟩ := by rw [← hpg]; unfold Addr.add; split <;> simp_all
      subst hpe
      obtain ⟨g9, cap9, e9, _, _, _, _, _, hfz⟩ := hown2.base rfl (by omega)
      have e9' : g9 = w.heap.size := by injection e9 with e9; injection e9 with e9; injection e9 with e9; exact e9.symm
      subst e9'
      have f0 := hfz (k * 6)
      have f1 := hfz (k * 6 + 1)
      have f2 := hfz (k * 6 + 2)
      have f3 := hfz (k * 6 + 3)
      have f4 := hfz (k * 6 + 4)
      have f5 := hfz (k * 6 + 5)
      have hq := hown2.putAll (y := x) (i := k) rfl hlt hrow (by omega) (Nat.le_refl _) hb2.size (by omega)
      rw [hm.out] at hq
      have hb3 : Below w.heap.size w ((((((w2.setCell ⟨w.heap.size, k * 6, none⟩ (.int .i64 x.id)).setCell ⟨w.heap.size, k * 6 + 1, none⟩ (.int .i64 x.club)).setCell ⟨w.heap.size, k * 6 + 2, none⟩ (.int .i64 x.wins)).setCell ⟨w.heap.size, k * 6 + 3, none⟩ (.int .i64 x.pts)).setCell ⟨w.heap.size, k * 6 + 4, none⟩ (.int .i64 x.firsts)).setCell ⟨w.heap.size, k * 6 + 5, none⟩ (.slice A9 x.met.length c9)) := by
        iterate 6 refine Below.setCell ?_ (by exact Nat.le_refl _) _
        exact hb.trans (hb2.mono hs1)
      have HB := Lib.hid (And.intro hq hb3)
      have hz2 := hb2.size
      clear hown2 hq hb3 hrow hrd hpg e9
      go_wp2_with fail
      go_roundw
      case rel => exact ⟨k + 1, by omega, by go_num, HB.out.2, by simp; omega, by simpa using HB.out.1⟩
      case measure => simp [intOf]; omega
    · have e : k = n := by omega
      subst e
      have H5 := Lib.hid hown
      clear hown
      go_wp2_with fail
      go_ret
      have ho := H5.out
      rw [List.take_of_length_le (by rw [hl.out]; omega), List.drop_eq_nil_of_le (by simp), List.append_nil] at ho
      exact ⟨.slice (some ⟨w.heap.size, 0, none⟩) k k, rfl, ho, hb⟩
end Go.Proofs.Ythkigilegnjglaa

/- Sums of chapter 15, without code: orders of speeches; and all that its law says. -/
namespace Go.Proofs.Ythkigilegnjglaa
/-- The two who speak in turn i. -/
def ordQ (a b : List Int) (n i : Nat) : Int × Int := if i + 1 = n then (b.getD i 0, a.getD i 0) else (a.getD i 0, b.getD i 0)
def ordF (p : Int × Int) : List Int := [p.1, p.2]
/-- The order of the first k turns. -/
def ordP (a b : List Int) (n k : Nat) : List Int := (List.range k).flatMap fun i => ordF (ordQ a b n i)
def turO (a b : List Int) : Bool := decide (a.length = b.length) && (decide (1 ≤ a.length ∧ a.length ≤ 6) && decide (ordP a b a.length a.length).Nodup)
def turX (a b : List Int) : List Int := if turO a b then ordP a b a.length a.length else []
def valO (a : List Int) (x : Int) : Int := if a.contains x then 1 else -1
def sumO (a o : List Int) (k : Nat) : Int := (o.take k).foldl (fun n x => n + valO a x) 0
def fairB (o a : List Int) : Bool := (List.range o.length).all fun k => inr (sumO a o (k + 1)) (-1) 1
def nexI (o : List Int) (w : Int) : Option Nat := (List.range (o.length - 1)).find? fun i => o.getD i 0 == w
def nexN (o : List Int) (w : Int) : Int := match nexI o w with | some i => o.getD (i + 1) 0 | none => 0
def rigL (o a : List Int) : List Int := (o.reverse.find? fun x => !(a.contains x)).toList ++ (o.reverse.find? fun x => a.contains x).toList
def cntO (o s : List Int) : Int := ((o.filter fun x => s.contains x).length : Int)
theorem ordP_succ (a b : List Int) (n k : Nat) : ordP a b n (k + 1) = ordP a b n k ++ [(ordQ a b n k).1, (ordQ a b n k).2] := by
  unfold ordP
  rw [List.range_succ, List.flatMap_append]
  simp [ordF]
theorem ordP_len (a b : List Int) (n : Nat) : ∀ k, (ordP a b n k).length = 2 * k
  | 0 => rfl
  | k + 1 => by rw [ordP_succ, List.length_append, ordP_len a b n k]; simp; omega
theorem nd_two {p : List Int} {x y : Int} : (p ++ [x, y]).Nodup ↔ p.Nodup ∧ p.contains x = false ∧ p.contains y = false ∧ x ≠ y := by
  rw [List.nodup_append]
  simp only [List.nodup_cons, List.not_mem_nil, not_false_eq_true, List.nodup_nil, and_true, List.mem_cons, or_false, List.contains_eq_mem, decide_eq_false_iff_not]
  constructor
  · rintro ⟨h1, h2, h3⟩
    exact ⟨h1, fun h => h3 x h x (.inl rfl) rfl, fun h => h3 y h y (.inr rfl) rfl, h2⟩
  · rintro ⟨h1, h2, h3, h4⟩
    refine ⟨h1, h4, fun z hz u hu e => ?_⟩
    rcases hu with rfl | rfl
    · subst e; exact h2 hz
    · subst e; exact h3 hz
theorem ordP_sub (a b : List Int) (n : Nat) : ∀ d k, (ordP a b n k).Sublist (ordP a b n (k + d))
  | 0, k => List.Sublist.refl _
  | d + 1, k => (ordP_sub a b n d k).trans (by rw [show k + (d + 1) = (k + d) + 1 by omega, ordP_succ]; exact List.sublist_append_left _ _)
theorem ordP_no {a b : List Int} {n k : Nat} (hk : k ≤ n) (h : ¬ (ordP a b n k).Nodup) : ¬ (ordP a b n n).Nodup := fun h2 => h (h2.sublist (by
  have := ordP_sub a b n (n - k) k
  rwa [show k + (n - k) = n by omega] at this))
section
variable {a b : List Int} (h : turO a b = true)
include h
theorem tur_parts : a.length = b.length ∧ 1 ≤ a.length ∧ a.length ≤ 6 ∧ (ordP a b a.length a.length).Nodup := by
  unfold turO at h
  simp only [Bool.and_eq_true, decide_eq_true_eq] at h
  exact ⟨h.1, h.2.1.1, h.2.1.2, h.2.2⟩
theorem ord_ne (i j : Nat) (hi : i < a.length) (hj : j < a.length) : a.getD i 0 ≠ b.getD j 0 := by
  obtain ⟨_, _, _, hn⟩ := tur_parts h
  unfold ordP at hn
  rw [List.nodup_iff_pairwise_ne, List.pairwise_flatMap] at hn
  obtain ⟨h1, h2⟩ := hn
  rw [List.pairwise_iff_getElem] at h2
  have hin : ∀ i, a.getD i 0 ∈ ordF (ordQ a b a.length i) ∧ b.getD i 0 ∈ ordF (ordQ a b a.length i) := fun i => by
    unfold ordQ ordF
    split <;> simp
  rcases Nat.lt_trichotomy i j with hij | rfl | hij
  · have := h2 i j (by simpa using hi) (by simpa using hj) hij
    simp only [List.getElem_range] at this
    exact this _ (hin i).1 _ (hin j).2
  · have := h1 i (List.mem_range.2 hi)
    unfold ordQ ordF at this
    split at this
    · simp only [List.pairwise_cons] at this
      exact fun e => (this.1 _ (by simp)) e.symm
    · simp only [List.pairwise_cons] at this
      exact this.1 _ (by simp)
  · have := h2 j i (by simpa using hj) (by simpa using hi) hij
    simp only [List.getElem_range] at this
    exact fun e => this _ (hin j).2 _ (hin i).1 e.symm
theorem ord_in (i : Nat) (hi : i < a.length) : a.contains (a.getD i 0) = true ∧ a.contains (b.getD i 0) = false ∧ b.contains (b.getD i 0) = true ∧ b.contains (a.getD i 0) = false := by
  obtain ⟨hl, _, _, _⟩ := tur_parts h
  have ga : ∀ j (hj : j < a.length), a.getD j 0 = a[j] := fun j hj => by simp [List.getD, hj]
  have gb : ∀ j (hj : j < b.length), b.getD j 0 = b[j] := fun j hj => by simp [List.getD, hj]
  refine ⟨?_, ?_, ?_, ?_⟩
  · rw [List.contains_iff_mem, ga i hi]; exact List.getElem_mem _
  · rw [← Bool.not_eq_true, List.contains_iff_mem]
    intro hm
    obtain ⟨j, hj, e⟩ := List.getElem_of_mem hm
    exact ord_ne h j i hj hi ((ga j hj).trans e)
  · rw [List.contains_iff_mem, gb i (by omega)]; exact List.getElem_mem _
  · rw [← Bool.not_eq_true, List.contains_iff_mem]
    intro hm
    obtain ⟨j, hj, e⟩ := List.getElem_of_mem hm
    exact ord_ne h i j hi (by omega) (((gb j hj).trans e).symm)
theorem ord_cnt : cntO (ordP a b a.length a.length) a = (a.length : Int) ∧ cntO (ordP a b a.length a.length) b = (b.length : Int) := by
  obtain ⟨hl, _, _, _⟩ := tur_parts h
  have key : ∀ k, k ≤ a.length → ((ordP a b a.length k).filter fun x => a.contains x).length = k ∧ ((ordP a b a.length k).filter fun x => b.contains x).length = k := by
    intro k
    induction k with
    | zero => intro _; exact ⟨rfl, rfl⟩
    | succ k ih =>
      intro hk
      obtain ⟨i1, i2⟩ := ih (by omega)
      obtain ⟨c1, c2, c3, c4⟩ := ord_in h k (by omega)
      rw [ordP_succ, List.filter_append, List.filter_append, List.length_append, List.length_append, i1, i2]
      unfold ordQ
      generalize a.getD k 0 = x at c1 c2 c3 c4 ⊢
      generalize b.getD k 0 = y at c1 c2 c3 c4 ⊢
      split
      · rw [List.filter_cons, List.filter_cons, List.filter_cons, List.filter_cons, c1, c2, c3, c4]; exact ⟨rfl, rfl⟩
      · rw [List.filter_cons, List.filter_cons, List.filter_cons, List.filter_cons, c1, c2, c3, c4]; exact ⟨rfl, rfl⟩
  obtain ⟨k1, k2⟩ := key a.length (Nat.le_refl _)
  unfold cntO
  rw [k1, k2, hl]
  exact ⟨rfl, rfl⟩
end
/-- Sums of turns of two who take each other away. -/
theorem turns (v : Int → Int) : ∀ (P : List (Int × Int)), (∀ p ∈ P, v p.1 + v p.2 = 0 ∧ (v p.1 = 1 ∨ v p.1 = -1)) → ∀ (k : Nat) (n : Int), n = 0 → -1 ≤ ((P.flatMap ordF).take k).foldl (fun n x => n + v x) n ∧ ((P.flatMap ordF).take k).foldl (fun n x => n + v x) n ≤ 1
  | [], _, k, n, hn => by simp [hn]
  | p :: P, h, k, n, hn => by
    have hp := h p List.mem_cons_self
    have ih := turns v P fun q hq => h q (List.mem_cons_of_mem _ hq)
    rw [List.flatMap_cons, show ordF p = [p.1, p.2] from rfl]
    match k with
    | 0 => simp [hn]
    | 1 => simp [hn]; omega
    | k + 2 =>
      have := ih k (n + v p.1 + v p.2) (by omega)
      simpa using this
theorem ord_fair {a b : List Int} (h : turO a b = true) (c : List Int) (hc : c = a ∨ c = b) : fairB (ordP a b a.length a.length) c = true := by
  have hP : ∀ p ∈ (List.range a.length).map (ordQ a b a.length), valO c p.1 + valO c p.2 = 0 ∧ (valO c p.1 = 1 ∨ valO c p.1 = -1) := by
    intro p hp
    obtain ⟨i, hi, rfl⟩ := List.mem_map.1 hp
    obtain ⟨c1, c2, c3, c4⟩ := ord_in h i (List.mem_range.1 hi)
    unfold ordQ valO
    rcases hc with rfl | rfl
    · split <;> (dsimp only; simp only [c2]; decide)
    · split <;> (dsimp only; simp only [c4]; decide)
  have e : ordP a b a.length a.length = ((List.range a.length).map (ordQ a b a.length)).flatMap ordF := by
    unfold ordP
    rw [List.flatMap_map]
  unfold fairB
  rw [List.all_eq_true]
  intro k _
  have := turns (valO c) _ hP (k + 1) 0 rfl
  rw [← e] at this
  unfold inr sumO
  simp only [Bool.and_eq_true, decide_eq_true_eq]
  exact this
theorem ord_rig {a b : List Int} (h : turO a b = true) : rigL (ordP a b a.length a.length) a = [b.getD (a.length - 1) 0, a.getD (a.length - 1) 0] := by
  obtain ⟨hl, h1, _, _⟩ := tur_parts h
  obtain ⟨m, hm⟩ : ∃ m, a.length = m + 1 := ⟨a.length - 1, by omega⟩
  obtain ⟨c1, c2, _, _⟩ := ord_in h m (by omega)
  have e : ordP a b a.length a.length = ordP a b a.length m ++ [b.getD m 0, a.getD m 0] := by
    conv => lhs; rw [show ordP a b a.length a.length = ordP a b a.length (m + 1) by rw [← hm]]
    rw [ordP_succ]
    unfold ordQ
    rw [if_pos hm.symm]
  rw [e, show a.length - 1 = m by omega]
  unfold rigL
  rw [List.reverse_append]
  generalize a.getD m 0 = x at c1 c2 ⊢
  generalize b.getD m 0 = y at c1 c2 ⊢
  rw [show [y, x].reverse = [x, y] from rfl, List.cons_append, List.cons_append, List.nil_append, List.find?_cons, List.find?_cons, List.find?_cons, c1, c2]
  rfl
theorem nex_in {o : List Int} {w : Int} (h : nexN o w ≠ 0) : o.contains (nexN o w) = true ∧ o.contains w = true := by
  unfold nexN at h ⊢
  cases hi : nexI o w with
  | none => rw [hi] at h; exact absurd rfl h
  | some i =>
    unfold nexI at hi
    have hm := List.mem_range.1 (List.mem_of_find?_eq_some hi)
    have hp := List.find?_some hi
    have g : ∀ j (hj : j < o.length), o.getD j 0 = o[j] := fun j hj => by simp [List.getD, hj]
    rw [g i (by omega), beq_iff_eq] at hp
    simp only
    rw [g (i + 1) (by omega), List.contains_iff_mem, List.contains_iff_mem]
    exact ⟨List.getElem_mem _, hp ▸ List.getElem_mem _⟩
end Go.Proofs.Ythkigilegnjglaa
