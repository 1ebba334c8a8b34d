/- Contracts of the laws' own helpers over Graph: toGraph, eqGraph, markGraph, heldGraph, szGraph. For every graph whose slices have at most 2^40 elements; no other condition. -/
import Derived.Test.YtdpaoaoipnoiiaaIntSS
namespace Go.Proofs.Ytdpaoaoipnoiiaa
open Go.ChangeShapes Go.WideShapes Go.ChangeAt Go.RowKit
/-- Block g is just the cells cs. -/
def Bx (w : World) (g : Nat) (t : TypeId) (cs : Array Value) : Prop := w.heap[g]? = some (.cells cs t (0, 0))
section
variable {w w' : World} {g : Nat} {t : TypeId} {cs : Array Value}
theorem Bx.lt (h : Bx w g t cs) : g < w.heap.size := (Array.getElem?_eq_some_iff.1 h).1
theorem Bx.made (w : World) (t : TypeId) (cs : Array Value) : Bx (w.alloc (.cells cs t)) w.heap.size t cs := heap_alloc_new w _
theorem Bx.new (h : Bx w g t cs) (hb : Below w.heap.size w w') : Bx w' g t cs := (hb.block g h.lt).trans h
theorem Bx.out {lo hi : Nat} (h : Bx w g t cs) (o : Out lo hi w w') (hd : g < lo ∨ hi ≤ g) : Bx w' g t cs := (o.block g h.lt hd).trans h
theorem Bx.two {a b : Value} (h : Bx w g t #[a, b]) : w.cell? ⟨g, 0, none⟩ = some a ∧ w.cell? ⟨g, 1, none⟩ = some b :=
  ⟨by rw [cell_of_row w g 0 _ t (0, 0) h]; rfl, by rw [cell_of_row w g 1 _ t (0, 0) h]; rfl⟩
theorem trans_new {a b c : World} (h : Below a.heap.size a b) (k : Below b.heap.size b c) : Below a.heap.size a c := h.trans (k.mono h.size)
theorem arg_rd {W a b : World} {A : Option Addr} {X : List (List Int)} (R : RdSS W W.heap.size A X) (B : Below W.heap.size W a) (h : Below a.heap.size a b) : RdSS b b.heap.size A X :=
  (R.below (B.trans (h.mono B.size))).more (Nat.le_trans B.size h.size)
end
theorem bcell {W w1 : World} (hb : Below W.heap.size W w1) : (∀ b o, b < W.heap.size → w1.cell? ⟨b, o, none⟩ = W.cell? ⟨b, o, none⟩) ∧ (∀ b o, b < W.heap.size → w1.frozen? ⟨b, o, none⟩ = W.frozen? ⟨b, o, none⟩) :=
  ⟨fun b o h => hb.cell (p := ⟨b, o, none⟩) h, fun b o h => hb.frozen (p := ⟨b, o, none⟩) h⟩
theorem OwnSS.setFar {w : World} {lo hi : Nat} {v : Value} {X : List (List Int)} (h : OwnSS w lo hi v X) {p : Addr} (hp : p.block < lo ∨ hi ≤ p.block) (u : Value) : OwnSS (w.setCell p u) lo hi v X :=
  Owns.keep h SSR_frames fun b h1 h2 _ => Below.heap_setCell w p u b (by omega)
/-- A graph whose slices are new is returned. -/
def FreshG (N : Int) (X : List (List Int)) (w : World) (e : Ending) (w' : World) : Prop :=
  ∃ v, e = .returned (.agg #[.int .i64 N, v]) ∧ OwnSS w' w.heap.size w'.heap.size v X ∧ Below w.heap.size w w'
def MarkedG (q : Int) (lo hi : Nat) (v : Value) (X : List (List Int)) (w : World) (e : Ending) (w' : World) : Prop :=
  e = .returned (.int .i64 q) ∧ OwnSS w' lo hi v X ∧ Out lo hi w w'
/-- What is left of q when a slice's elements are counted off. -/
def szd (q : Int) (n : Nat) : Int := if q - (n : Int) < 0 then -1 else q - (n : Int)
theorem szIntS_any {w : World} {A : Option Addr} {n c : Nat} {q : Int} (hn : n ≤ 9223372036854775807) (h0 : 0 ≤ q) (hq : q ≤ 1000000000000000) :
    Calls Try.prog 75 #[.slice A n c, .int .i64 q] w (fun e w' => e = .returned (.int .i64 (szd q n)) ∧ w = w') := by
  by_cases h : q - (n : Int) < 0
  · have HS : Hid (szd q n = -1) := if_pos h
    go_enter Try.func75, Try.ntmps75
    go_wp2
    go_ret
    exact ⟨ret_i HS.out.symm, rfl⟩
  · have HS : Hid (szd q n = q - (n : Int)) := if_neg h
    have h' : (n : Int) ≤ q := by omega
    clear h
    go_enter Try.func75, Try.ntmps75
    go_wp2
    go_ret
    exact ⟨ret_i HS.out.symm, rfl⟩
/-- Either all is counted, or there is too much. -/
def SzP (q : Int) (X : List (List Int)) (w : World) (e : Ending) (w' : World) : Prop :=
  ∃ r : Int, e = .returned (.int .i64 r) ∧ Below w.heap.size w w' ∧ (r = -1 ∨ 0 ≤ r ∧ r + (X.length : Int) + (psum X X.length : Int) ≤ q)
set_option maxHeartbeats 1600000 in
theorem szIntSS_any {w : World} {A : Option Addr} {n c : Nat} {q : Int} {X : List (List Int)} (hl : Hid (X.length = n)) (hn : n ≤ 9223372036854775807) (h0 : 0 ≤ q) (hq : q ≤ 1000000000000000) (hr : RdSS w w.heap.size A X) :
    Calls Try.prog 34 #[.slice A n c, .int .i64 q] w (SzP q X w) := by
  by_cases h : q - (n : Int) < 0
  · clear hr
    go_enter Try.func34, Try.ntmps34
    go_wp2
    go_ret
    exact ⟨-1, rfl, Below.refl _ _, .inl rfl⟩
  · have h' : (n : Int) ≤ q := by omega
    clear h
    go_enter Try.func34, Try.ntmps34
    go_wp2
    go_loop [1, 5] (fun m i => ∃ (k : Nat) (r : Int), k ≤ n ∧ i = .int .i64 k ∧ m = .int .i64 r ∧ 0 ≤ r ∧ r + (n : Int) + (psum X k : Int) = q) (fun _ i => n - (intOf i).toNat)
    case atStart => exact ⟨0, _, Nat.zero_le _, rfl, rfl, by omega, by rw [psum_zero]; omega⟩
    case round =>
      obtain ⟨k, r, hk, rfl, rfl, hr0, hrq⟩ := hrel
      have HQ := Lib.hid hrq
      have hrb : r ≤ q := by omega
      clear hrq
      by_cases hlt : k < n
      · have hkz : k < X.length := by rw [hl.out]; exact hlt
        obtain ⟨ad, Aj, cj, rfl, hab, hc, hcl, hcm, hrd⟩ := hr.at_ hkz
        have hps := Lib.hid (psum_succ X k hkz)
        have hxl : X[k].length ≤ 9223372036854775807 := by unfold maxLen at hcm; omega
        obtain ⟨x, hx⟩ : ∃ x, x = X[k] := ⟨_, rfl⟩
        rw [← hx] at hc hps hxl
        clear hx hrd hcl hcm hr
        by_cases hneg : r - (x.length : Int) < 0
        · have HS := Lib.hid (show szd r x.length = -1 from if_pos hneg)
          have C := szIntS_any (w := w) (A := Aj) (c := cj) hxl hr0 (by omega : r ≤ 1000000000000000)
          rw [HS.out] at C
          have HC := Lib.hid C
          clear C hneg
          go_wp2_with (go_at_call 75; refine HC.out.mono ?_; rintro e w1 ⟨rfl, rfl⟩)
          go_ret
          exact ⟨-1, rfl, Below.refl _ _, .inl rfl⟩
        · have HS := Lib.hid (show szd r x.length = r - (x.length : Int) from if_neg hneg)
          have C := szIntS_any (w := w) (A := Aj) (c := cj) hxl hr0 (by omega : r ≤ 1000000000000000)
          rw [HS.out] at C
          have HC := Lib.hid C
          have hneg' : (x.length : Int) ≤ r := by omega
          clear C hneg
          go_wp2_with (go_at_call 75; refine HC.out.mono ?_; rintro e w1 ⟨rfl, rfl⟩)
          go_round
          case rel => exact ⟨k + 1, _, by omega, by go_num, rfl, by omega, by have := HQ.out; rw [hps.out]; omega⟩
          case measure => simp [intOf]; omega
      · have e : k = n := by omega
        subst e
        go_wp2
        go_ret
        exact ⟨r, rfl, Below.refl _ _, .inr ⟨hr0, by have := HQ.out; rw [hl.out]; omega⟩⟩
end Go.Proofs.Ytdpaoaoipnoiiaa
