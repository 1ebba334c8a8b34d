/- Contracts of the laws' own helpers over Graph: toGraph, eqGraph, markGraph, heldGraph, szGraph. For every graph whose slices have at most 2^40 elements; no other condition. -/
import Derived.Test.YtobghogkflgpeaaMg2
import Derived.Test.YtobghogkflgpeaaRows
import Derived.WalkKit
import Derived.ProofKit
import Derived.OpenShut
import Derived.LoopN
import Derived.Handy
import Derived.Lib.Hide
import Derived.IntWalk
import Derived.Test.YtobghogkflgpeaaMg0
import Derived.Deep.RegionLaw
import Derived.Deep.RegionHeld3
namespace Go.Proofs.Ytobghogkflgpeaa
open Go.ChangeShapes Go.WideShapes Go.ChangeAt Go.RowKit
/-- Block g is just the cells cs. -/
def Bx (w : World) (g : Nat) (t : TypeId) (cs : Array Value) : Prop := w.heap[g]? = some (.cells cs t (0, 0))
section
variable {w w' : World} {g : Nat} {t : TypeId} {cs : Array Value}
theorem Bx.lt (h : Bx w g t cs) : g < w.heap.size := (Array.getElem?_eq_some_iff.1 h).1
theorem Bx.made (w : World) (t : TypeId) (cs : Array Value) : Bx (w.alloc (.cells cs t)) w.heap.size t cs := heap_alloc_new w _
theorem Bx.new (h : Bx w g t cs) (hb : Below w.heap.size w w') : Bx w' g t cs := (hb.block g h.lt).trans h
theorem Bx.out {lo hi : Nat} (h : Bx w g t cs) (o : Out lo hi w w') (hd : g < lo ∨ hi ≤ g) : Bx w' g t cs := (o.block g h.lt hd).trans h
theorem Bx.two {a b : Value} (h : Bx w g t #[a, b]) : w.cell? ⟨g, 0, none⟩ = some a ∧ w.cell? ⟨g, 1, none⟩ = some b :=
  ⟨by rw [cell_of_row w g 0 _ t (0, 0) h]; rfl, by rw [cell_of_row w g 1 _ t (0, 0) h]; rfl⟩
theorem trans_new {a b c : World} (h : Below a.heap.size a b) (k : Below b.heap.size b c) : Below a.heap.size a c := h.trans (k.mono h.size)
theorem arg_rd {W a b : World} {A : Option Addr} {X : List (List Int)} (R : RdSS W W.heap.size A X) (B : Below W.heap.size W a) (h : Below a.heap.size a b) : RdSS b b.heap.size A X :=
  (R.below (B.trans (h.mono B.size))).more (Nat.le_trans B.size h.size)
end
theorem bcell {W w1 : World} (hb : Below W.heap.size W w1) : (∀ b o, b < W.heap.size → w1.cell? ⟨b, o, none⟩ = W.cell? ⟨b, o, none⟩) ∧ (∀ b o, b < W.heap.size → w1.frozen? ⟨b, o, none⟩ = W.frozen? ⟨b, o, none⟩) :=
  ⟨fun b o h => hb.cell (p := ⟨b, o, none⟩) h, fun b o h => hb.frozen (p := ⟨b, o, none⟩) h⟩
theorem OwnSS.setFar {w : World} {lo hi : Nat} {v : Value} {X : List (List Int)} (h : OwnSS w lo hi v X) {p : Addr} (hp : p.block < lo ∨ hi ≤ p.block) (u : Value) : OwnSS (w.setCell p u) lo hi v X :=
  Owns.keep h SSR_frames fun b h1 h2 _ => Below.heap_setCell w p u b (by omega)
/-- A graph whose slices are new is returned. -/
def FreshG (N : Int) (X : List (List Int)) (w : World) (e : Ending) (w' : World) : Prop :=
  ∃ v, e = .returned (.agg #[.int .i64 N, v]) ∧ OwnSS w' w.heap.size w'.heap.size v X ∧ Below w.heap.size w w'
set_option maxHeartbeats 1600000 in
theorem toGraph_any {w : World} {A : Option Addr} {n c : Nat} {N : Int} {X : List (List Int)} (hl : Hid (X.length = n)) (hn : n ≤ 1099511627776) (hs : Hid (∀ x ∈ X, x.length ≤ 1099511627776)) (hr : RdSS w w.heap.size A X) :
    Calls Try.prog 9 #[.agg #[.int .i64 N, .slice A n c]] w (FreshG N X w) := by
  have hb0 : Below w.heap.size w (((w.alloc (Obj.cells #[Value.int IntKind.i64 N, Value.slice A n c] 24)).alloc (Obj.cells #[Value.int IntKind.i64 0, Value.slice none 0 0] 27)).alloc (Obj.cells #[Value.int IntKind.i64 N, Value.slice none 0 0] 27)) :=
    (((Below.refl _ _).alloc (Nat.le_refl _) _).alloc (by simp) _).alloc (by simp; omega) _
  go_enter Try.func9, Try.ntmps9
  go_wp2_with fail
  refine (toIntSS_any hl hn hs ((hr.below hb0).more hb0.size)).mono ?_
  rintro e w4 ⟨v, rfl, hown, hb4⟩
  obtain ⟨A4, c4, rfl, _, _, _⟩ := hown.rd hl.out
  obtain ⟨hc, hf⟩ := bcell hb4
  have hz : w.heap.size + 3 ≤ w4.heap.size := by have := hb4.size; simpa using this
  have HB := Lib.hid hb4
  have HO := Lib.hid hown
  clear hb4 hown
  go_wp2_with fail
  refine bodyPost_ret (v := .agg #[.int .i64 N, .slice A4 n c4]) (by simp [results, Try.results9, go_sem, hc]) rfl ⟨_, rfl, ?_, ?_⟩
  · have ho := HO.out
    simp only [World.size_alloc] at ho
    exact (((ho.setFar (by simp) _).setFar (by simp) _).setFar (by simp) _).wide (by omega) (by simp)
  · exact (((hb0.trans (HB.out.mono (by simp; omega))).setCell (by simp; omega) _).setCell (by simp) _).setCell (by simp) _
set_option maxHeartbeats 1600000 in
theorem eqGraph_same {w : World} {A A' : Option Addr} {n c c' : Nat} {N : Int} {X : List (List Int)} (hl : Hid (X.length = n)) (hn : n ≤ 1099511627776) (hs : Hid (∀ x ∈ X, x.length ≤ 1099511627776)) (hr : RdSS w w.heap.size A X) (hr' : RdSS w w.heap.size A' X) :
    Calls Try.prog 11 #[.agg #[.int .i64 N, .slice A n c], .agg #[.int .i64 N, .slice A' n c']] w (Tells true w) := by
  have hb0 : Below w.heap.size w ((w.alloc (Obj.cells #[Value.int IntKind.i64 N, Value.slice A n c] 27)).alloc (Obj.cells #[Value.int IntKind.i64 N, Value.slice A' n c'] 27)) :=
    ((Below.refl _ _).alloc (Nat.le_refl _) _).alloc (by simp) _
  have C := eqIntSS_q (c := c) (c' := c') hl hl hn hs hs hn ((hr.below hb0).more hb0.size) ((hr'.below hb0).more hb0.size)
  rw [decide_eq_true (rfl : X = X)] at C
  have HC := Lib.hid C
  clear C
  go_enter Try.func11, Try.ntmps11
  go_wp2_with (go_at_call 46; refine HC.out.mono ?_; rintro e w1 ⟨rfl, m, rfl⟩)
  go_ret
  exact ⟨rfl, below_drewN hb0 m⟩
def MarkedG (q : Int) (lo hi : Nat) (v : Value) (X : List (List Int)) (w : World) (e : Ending) (w' : World) : Prop :=
  e = .returned (.int .i64 q) ∧ OwnSS w' lo hi v X ∧ Out lo hi w w'
/-- What is left of q when a slice's elements are counted off. -/
def szd (q : Int) (n : Nat) : Int := if q - (n : Int) < 0 then -1 else q - (n : Int)
theorem szIntS_any {w : World} {A : Option Addr} {n c : Nat} {q : Int} (hn : n ≤ 9223372036854775807) (h0 : 0 ≤ q) (hq : q ≤ 1000000000000000) :
    Calls Try.prog 69 #[.slice A n c, .int .i64 q] w (fun e w' => e = .returned (.int .i64 (szd q n)) ∧ w = w') := by
  by_cases h : q - (n : Int) < 0
  · have HS : Hid (szd q n = -1) := if_pos h
    go_enter Try.func69, Try.ntmps69
    go_wp2
    go_ret
    exact ⟨ret_i HS.out.symm, rfl⟩
  · have HS : Hid (szd q n = q - (n : Int)) := if_neg h
    have h' : (n : Int) ≤ q := by omega
    clear h
    go_enter Try.func69, Try.ntmps69
    go_wp2
    go_ret
    exact ⟨ret_i HS.out.symm, rfl⟩
/-- Either all is counted, or there is too much. -/
def SzP (q : Int) (X : List (List Int)) (w : World) (e : Ending) (w' : World) : Prop :=
  ∃ r : Int, e = .returned (.int .i64 r) ∧ Below w.heap.size w w' ∧ (r = -1 ∨ 0 ≤ r ∧ r + (X.length : Int) + (psum X X.length : Int) ≤ q)
set_option maxHeartbeats 1600000 in
theorem szIntSS_any {w : World} {A : Option Addr} {n c : Nat} {q : Int} {X : List (List Int)} (hl : Hid (X.length = n)) (hn : n ≤ 9223372036854775807) (h0 : 0 ≤ q) (hq : q ≤ 1000000000000000) (hr : RdSS w w.heap.size A X) :
    Calls Try.prog 37 #[.slice A n c, .int .i64 q] w (SzP q X w) := by
  by_cases h : q - (n : Int) < 0
  · clear hr
    go_enter Try.func37, Try.ntmps37
    go_wp2
    go_ret
    exact ⟨-1, rfl, Below.refl _ _, .inl rfl⟩
  · have h' : (n : Int) ≤ q := by omega
    clear h
    go_enter Try.func37, Try.ntmps37
    go_wp2
    go_loop [1, 5] (fun m i => ∃ (k : Nat) (r : Int), k ≤ n ∧ i = .int .i64 k ∧ m = .int .i64 r ∧ 0 ≤ r ∧ r + (n : Int) + (psum X k : Int) = q) (fun _ i => n - (intOf i).toNat)
    case atStart => exact ⟨0, _, Nat.zero_le _, rfl, rfl, by omega, by rw [psum_zero]; omega⟩
    case round =>
      obtain ⟨k, r, hk, rfl, rfl, hr0, hrq⟩ := hrel
      have HQ := Lib.hid hrq
      have hrb : r ≤ q := by omega
      clear hrq
      by_cases hlt : k < n
      · have hkz : k < X.length := by rw [hl.out]; exact hlt
        obtain ⟨ad, Aj, cj, rfl, hab, hc, hcl, hcm, hrd⟩ := hr.at_ hkz
        have hps := Lib.hid (psum_succ X k hkz)
        have hxl : X[k].length ≤ 9223372036854775807 := by unfold maxLen at hcm; omega
        obtain ⟨x, hx⟩ : ∃ x, x = X[k] := ⟨_, rfl⟩
        rw [← hx] at hc hps hxl
        clear hx hrd hcl hcm hr
        by_cases hneg : r - (x.length : Int) < 0
        · have HS := Lib.hid (show szd r x.length = -1 from if_pos hneg)
          have C := szIntS_any (w := w) (A := Aj) (c := cj) hxl hr0 (by omega : r ≤ 1000000000000000)
          rw [HS.out] at C
          have HC := Lib.hid C
          clear C hneg
          go_wp2_with (go_at_call 69; refine HC.out.mono ?_; rintro e w1 ⟨rfl, rfl⟩)
          go_ret
          exact ⟨-1, rfl, Below.refl _ _, .inl rfl⟩
        · have HS := Lib.hid (show szd r x.length = r - (x.length : Int) from if_neg hneg)
          have C := szIntS_any (w := w) (A := Aj) (c := cj) hxl hr0 (by omega : r ≤ 1000000000000000)
          rw [HS.out] at C
          have HC := Lib.hid C
          have hneg' : (x.length : Int) ≤ r := by omega
          clear C hneg
          go_wp2_with (go_at_call 69; refine HC.out.mono ?_; rintro e w1 ⟨rfl, rfl⟩)
          go_round
          case rel => exact ⟨k + 1, _, by omega, by go_num, rfl, by omega, by have := HQ.out; rw [hps.out]; omega⟩
          case measure => simp [intOf]; omega
      · have e : k = n := by omega
        subst e
        go_wp2
        go_ret
        exact ⟨r, rfl, Below.refl _ _, .inr ⟨hr0, by have := HQ.out; rw [hl.out]; omega⟩⟩
theorem szGraph_any {w : World} {A : Option Addr} {n c : Nat} {q N : Int} {X : List (List Int)} (hl : Hid (X.length = n)) (hn : n ≤ 9223372036854775807) (h0 : 0 ≤ q) (hq : q ≤ 1000000000000000) (hr : RdSS w w.heap.size A X) :
    Calls Try.prog 7 #[.agg #[.int .i64 N, .slice A n c], .int .i64 q] w (SzP q X w) := by
  have hb0 : Below w.heap.size w (w.alloc (Obj.cells #[Value.int IntKind.i64 N, Value.slice A n c] 24)) := (Below.refl _ _).alloc (Nat.le_refl _) _
  have C := Lib.hid (szIntSS_any (c := c) hl hn h0 hq ((hr.below hb0).more hb0.size))
  clear hr
  go_enter Try.func7, Try.ntmps7
  go_wp2_with fail
  refine C.out.mono ?_
  rintro e w1 ⟨r, rfl, hb1, hr⟩
  have hb2 := hb0.trans (hb1.mono hb0.size)
  rcases hr with rfl | ⟨hr, hle⟩
  · go_wp2_with fail
    go_ret
    exact ⟨-1, rfl, hb2, .inl rfl⟩
  · have HL := Lib.hid hle
    clear hle
    go_wp2_with fail
    go_ret
    exact ⟨r, rfl, hb2, .inr ⟨hr, HL.out⟩⟩
end Go.Proofs.Ytobghogkflgpeaa

/- Contracts of the smallest functions of chapter 1 (InRange, Min, Max, CeilDiv, Mod) and of their models: each returns the integer or truth value that a plain Lean function names, for every input. No conditions. -/
namespace Go.Proofs.Ytobghogkflgpeaa
open Go.ChangeShapes Go.WideShapes Go.ChangeAt Go.RowKit
def mn (a b : Int) : Int := if b < a then b else a
def mx (a b : Int) : Int := if b > a then b else a
theorem mn_t {a b : Int} (h : b < a) : mn a b = b := if_pos h
theorem mn_f {a b : Int} (h : ¬ b < a) : mn a b = a := if_neg h
theorem mx_t {a b : Int} (h : b < a) : mx a b = a := if_neg (by omega)
theorem mx_f {a b : Int} (h : ¬ b < a) : mx a b = b := by unfold mx; split <;> omega
def inr (n lo hi : Int) : Bool := decide (lo ≤ n) && decide (n ≤ hi)
theorem inr_t {n lo hi : Int} (h1 : lo ≤ n) (h2 : n ≤ hi) : inr n lo hi = true := by simp [inr, h1, h2]
theorem inr_f {n lo hi : Int} (h : n < lo ∨ hi < n) : inr n lo hi = false := by
  rcases h with h | h <;> simp [inr] <;> omega
theorem inRange_any (n lo hi : Int) (w : World) :
    Calls Try.prog 71 #[.int .i64 n, .int .i64 lo, .int .i64 hi] w fun e w' => e = .returned (.bool (inr n lo hi)) ∧ w = w' := by
  by_cases h1 : lo ≤ n
  · have d1 : decide (lo ≤ n) = true := by simpa using h1
    go_enter Try.func71, Try.ntmps71
    go_wp2
    all_goals go_ret
    all_goals exact ⟨ret_b (by simp [inr, h1]), rfl⟩
  · have d1 : decide (lo ≤ n) = false := by simpa using h1
    go_enter Try.func71, Try.ntmps71
    go_wp2
    all_goals go_ret
    all_goals exact ⟨ret_b (by simp [inr]; omega), rfl⟩
theorem l1In_any (n lo hi : Int) (w : World) :
    Calls Try.prog 39 #[.int .i64 n, .int .i64 lo, .int .i64 hi] w fun e w' => e = .returned (.bool (inr n lo hi)) ∧ w = w' := by
  by_cases h1 : lo ≤ n
  · have d1 : decide (lo ≤ n) = true := by simpa using h1
    go_enter Try.func39, Try.ntmps39
    go_wp2
    all_goals go_ret
    all_goals exact ⟨ret_b (by simp [inr, h1]), rfl⟩
  · have d1 : decide (lo ≤ n) = false := by simpa using h1
    go_enter Try.func39, Try.ntmps39
    go_wp2
    all_goals go_ret
    all_goals exact ⟨ret_b (by simp [inr]; omega), rfl⟩
def cdiv (a b : Int) : Int := if inr a 0 1000000000000 && inr b 1 1000000000000 then (a + b - 1) / b else 0
def md (p q : Int) : Int := if inr q 1 1000000000000 then p % q else 0
theorem tmod_fix {p q : Int} (hq : 0 < q) : (p.tmod q < 0 → p.tmod q + q = p % q) ∧ (0 ≤ p.tmod q → p.tmod q = p % q) := by
  have h1 := Int.emod_nonneg p (show q ≠ 0 by omega)
  have h2 := Int.emod_lt_of_pos p hq
  rw [Int.tmod_eq_emod]
  split <;> constructor <;> intro h <;> omega
theorem smod_eq {p q : Int} (e2 : inr q 1 1000000000000 = true) (hq : 0 < q) : (p.tmod q + q) % q = md p q := by
  obtain ⟨f1, f2⟩ := tmod_fix (p := p) hq
  rw [Int.add_emod_right]
  simp only [md, e2, if_true]
  by_cases h : p.tmod q < 0
  · rw [← f1 h, ← Int.add_emod_right (p.tmod q) q]
    have := f1 h
    rw [this, Int.emod_emod]
  · rw [f2 (by omega), Int.emod_emod]
end Go.Proofs.Ytobghogkflgpeaa

/- The law of append of XAppend as a step of a region that draws its order, and words for what such a region keeps: over any program. -/
namespace Go.Proofs.Ytobghogkflgpeaa
open Go.ChangeShapes Go.WideShapes Go.ChangeAt Go.RowKit
theorem step_app {P : Program} {w : World} {ops : Array Oper} {o : Oper} {a : Act} {K : Act → World → Prop} {Q : Exit → Act → World → Prop} {E : Prop} (hgd : o.guard = none) (s x : Operand) (t : TypeId)
    (ho : o.op = .call { callee := .builtin .append, args := #[s, x], argTypes := #[t, t] })
    (e : TypeId) (i : TypeInfo) (z : Value) (bytes : Nat) (ht : P.underlying t = some (.slice e)) (hi : P.info? e = some i) (hz : i.zero = some z) (hsize : i.size = 1) (hby : i.bytes = bytes) (hzs : z.cells.size = 1)
    {lo hi' B m c : Nat} {v : Value} {xs news : List Value} {A : Option Addr} (hs : a.eval s = v) (hx : a.eval x = .slice A m c) (hrow : Row w lo hi' e v xs) (hm : news.length = m) (hr : Rd w B A news) (h1 : ∀ u ∈ news, u.oneCell' = true)
    (h63 : xs.length + m ≤ maxLen) (hbytes : (xs.length + m) * bytes ≤ 140737488355328) (hlo : lo ≤ w.heap.size)
    (h : ∀ v' w', Row w' lo w'.heap.size e v' (xs ++ news) → Out lo hi' w w' → K (a.put o.dst v') w') :
    if Region.wanted o (yielded ops a.tmps) = true then Oper.wp P o a w K Q else E := by
  obtain ⟨v', w', hrun, h2, h3⟩ := run_app (P := P) t o.type e i z bytes ht hi hz hsize hby hzs (c := c) hrow hm hr h1 h63 hbytes hlo
  have hw : Region.wanted o (yielded ops a.tmps) = true := by simp [Region.wanted, hgd]
  rw [if_pos hw]
  unfold Oper.wp
  simp [execOp, ho, resolve, invoke, builtin, hs, hx, hrun, Result.andThen]
  exact h v' w' h2 h3
/-- wpList_app where the operation is guarded, and its guard says yes. -/
theorem wpList_app_w {P : Program} {w : World} {ops : Array Oper} {rest : List Oper} {o : Oper} {a : Act} {Q : Exit → Act → World → Prop} (hw : Region.wanted o (yielded ops a.tmps) = true) (s x : Operand) (t : TypeId)
    (ho : o.op = .call { callee := .builtin .append, args := #[s, x], argTypes := #[t, t] })
    (e : TypeId) (i : TypeInfo) (z : Value) (bytes : Nat) (ht : P.underlying t = some (.slice e)) (hi : P.info? e = some i) (hz : i.zero = some z) (hsize : i.size = 1) (hby : i.bytes = bytes) (hzs : z.cells.size = 1)
    {lo hi' B m c : Nat} {v : Value} {xs news : List Value} {A : Option Addr} (hs : a.eval s = v) (hx : a.eval x = .slice A m c) (hrow : Row w lo hi' e v xs) (hm : news.length = m) (hr : Rd w B A news) (h1 : ∀ u ∈ news, u.oneCell' = true)
    (h63 : xs.length + m ≤ maxLen) (hbytes : (xs.length + m) * bytes ≤ 140737488355328) (hlo : lo ≤ w.heap.size)
    (K : ∀ v' w', Row w' lo w'.heap.size e v' (xs ++ news) → Out lo hi' w w' → wpList P ops Q rest (a.put o.dst v') w') : wpList P ops Q (o :: rest) a w := by
  obtain ⟨v', w', hrun, h2, h3⟩ := run_app (P := P) t o.type e i z bytes ht hi hz hsize hby hzs (c := c) hrow hm hr h1 h63 hbytes hlo
  unfold wpList
  rw [if_pos hw]
  refine .inl ?_
  unfold Oper.wp
  simp [execOp, ho, resolve, invoke, builtin, hs, hx, hrun, Result.andThen]
  exact K v' w' h2 h3
section
variable {w w1 w2 : World} {a : Addr} {v : Value}
/-- A cell is as it was, and so is all old memory. -/
theorem hc_call (hl : a.block < w.heap.size) (h : w1.cell? a = some v ∧ Below w.heap.size w w1) (hb : Below w1.heap.size w1 w2) : w2.cell? a = some v ∧ Below w.heap.size w w2 := by
  have h3 := h.2.trans (hb.mono h.2.size)
  exact ⟨(World.cell?_of_block (hb.block _ (Nat.lt_of_lt_of_le hl h.2.size))).trans h.1, h3⟩
theorem hc_start (h : w.cell? a = some v) : w.drew.cell? a = some v ∧ Below w.heap.size w w.drew := ⟨h, (Below.refl _ _).drew⟩
theorem hc_refl (h : w.cell? a = some v) : w.cell? a = some v ∧ Below w.heap.size w w := ⟨h, Below.refl _ _⟩
theorem hc_drew (h : w1.cell? a = some v ∧ Below w.heap.size w w1) : w1.drew.cell? a = some v ∧ Below w.heap.size w w1.drew := ⟨h.1, h.2.drew⟩
theorem hc_alloc (hl : a.block < w.heap.size) (h : w1.cell? a = some v ∧ Below w.heap.size w w1) (o : Obj) : (w1.alloc o).cell? a = some v ∧ Below w.heap.size w (w1.alloc o) :=
  hc_call hl h ((Below.refl _ _).alloc (Nat.le_refl _) _)
theorem hc_out {lo hi : Nat} (hl : a.block < w.heap.size) (h : w1.cell? a = some v ∧ Below w.heap.size w w1) (o : Out lo hi w1 w2) (hlo : w.heap.size ≤ lo) : w2.cell? a = some v ∧ Below w.heap.size w w2 := by
  have hb := o.below hlo h.2.size
  exact ⟨(World.cell?_of_block (hb.block _ hl)).trans h.1, h.2.trans hb⟩
theorem hc_at (h : w1.cell? a = some v) (hb : Below w.heap.size w w1) : w1.cell? a = some v ∧ Below w.heap.size w w1 := ⟨h, hb⟩
theorem hc_atd (h : w1.cell? a = some v) (hb : Below w.heap.size w w1) : w1.drew.cell? a = some v ∧ Below w.heap.size w w1.drew := ⟨h, hb.drew⟩
end
end Go.Proofs.Ytobghogkflgpeaa
