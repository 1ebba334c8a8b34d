/- Contracts of the smallest functions of chapter 1 (InRange, Min, Max, CeilDiv, Mod) and of their models: each returns the integer or truth value that a plain Lean function names, for every input. No conditions. -/
import Derived.Test.YtjhknafajfpldaaDoorRows
import Derived.WalkKit
import Derived.ProofKit
import Derived.OpenShut
import Derived.LoopN
import Derived.Handy
import Derived.Lib.Hide
import Derived.IntWalk
import Derived.Test.YtjhknafajfpldaaDoorMg0
import Derived.Test.YtjhknafajfpldaaDoorMg2
import Derived.Deep.RegionWith
import Derived.Test.YtjhknafajfpldaaDoorMg1
import Derived.Deep.RegionLaw
import Derived.Deep.RegionHeld3
namespace Go.Proofs.YtjhknafajfpldaaDoor
open Go.ChangeShapes Go.WideShapes Go.ChangeAt Go.RowKit
def mn (a b : Int) : Int := if b < a then b else a
def mx (a b : Int) : Int := if b > a then b else a
theorem mn_t {a b : Int} (h : b < a) : mn a b = b := if_pos h
theorem mn_f {a b : Int} (h : ¬ b < a) : mn a b = a := if_neg h
theorem mx_t {a b : Int} (h : b < a) : mx a b = a := if_neg (by omega)
theorem mx_f {a b : Int} (h : ¬ b < a) : mx a b = b := by unfold mx; split <;> omega
theorem smin_any (a b : Int) (w : World) :
    Calls Tryd.prog 27 #[.int .i64 a, .int .i64 b] w fun e w' => e = .returned (.int .i64 (mn a b)) ∧ w = w' := by
  by_cases h : b < a
  all_goals
    first | (have H := mn_t h) | (have H := mn_f h)
    have HH := Lib.hid H
    clear H
    go_enter Tryd.func27, Tryd.ntmps27
    go_wp2
    go_ret
    exact ⟨ret_i (HH.out).symm, rfl⟩
def inr (n lo hi : Int) : Bool := decide (lo ≤ n) && decide (n ≤ hi)
theorem inr_t {n lo hi : Int} (h1 : lo ≤ n) (h2 : n ≤ hi) : inr n lo hi = true := by simp [inr, h1, h2]
theorem inr_f {n lo hi : Int} (h : n < lo ∨ hi < n) : inr n lo hi = false := by
  rcases h with h | h <;> simp [inr] <;> omega
theorem inRange_any (n lo hi : Int) (w : World) :
    Calls Tryd.prog 33 #[.int .i64 n, .int .i64 lo, .int .i64 hi] w fun e w' => e = .returned (.bool (inr n lo hi)) ∧ w = w' := by
  by_cases h1 : lo ≤ n
  · have d1 : decide (lo ≤ n) = true := by simpa using h1
    go_enter Tryd.func33, Tryd.ntmps33
    go_wp2
    all_goals go_ret
    all_goals exact ⟨ret_b (by simp [inr, h1]), rfl⟩
  · have d1 : decide (lo ≤ n) = false := by simpa using h1
    go_enter Tryd.func33, Tryd.ntmps33
    go_wp2
    all_goals go_ret
    all_goals exact ⟨ret_b (by simp [inr]; omega), rfl⟩
theorem l1In_any (n lo hi : Int) (w : World) :
    Calls Tryd.prog 28 #[.int .i64 n, .int .i64 lo, .int .i64 hi] w fun e w' => e = .returned (.bool (inr n lo hi)) ∧ w = w' := by
  by_cases h1 : lo ≤ n
  · have d1 : decide (lo ≤ n) = true := by simpa using h1
    go_enter Tryd.func28, Tryd.ntmps28
    go_wp2
    all_goals go_ret
    all_goals exact ⟨ret_b (by simp [inr, h1]), rfl⟩
  · have d1 : decide (lo ≤ n) = false := by simpa using h1
    go_enter Tryd.func28, Tryd.ntmps28
    go_wp2
    all_goals go_ret
    all_goals exact ⟨ret_b (by simp [inr]; omega), rfl⟩
def cdiv (a b : Int) : Int := if inr a 0 1000000000000 && inr b 1 1000000000000 then (a + b - 1) / b else 0
def md (p q : Int) : Int := if inr q 1 1000000000000 then p % q else 0
theorem tmod_fix {p q : Int} (hq : 0 < q) : (p.tmod q < 0 → p.tmod q + q = p % q) ∧ (0 ≤ p.tmod q → p.tmod q = p % q) := by
  have h1 := Int.emod_nonneg p (show q ≠ 0 by omega)
  have h2 := Int.emod_lt_of_pos p hq
  rw [Int.tmod_eq_emod]
  split <;> constructor <;> intro h <;> omega
theorem smod_eq {p q : Int} (e2 : inr q 1 1000000000000 = true) (hq : 0 < q) : (p.tmod q + q) % q = md p q := by
  obtain ⟨f1, f2⟩ := tmod_fix (p := p) hq
  rw [Int.add_emod_right]
  simp only [md, e2, if_true]
  by_cases h : p.tmod q < 0
  · rw [← f1 h, ← Int.add_emod_right (p.tmod q) q]
    have := f1 h
    rw [this, Int.emod_emod]
  · rw [f2 (by omega), Int.emod_emod]
end Go.Proofs.YtjhknafajfpldaaDoor

/- Contracts of chapter 4's models. No conditions but that the slices have at most 2^40 elements. -/
namespace Go.Proofs.YtjhknafajfpldaaDoor
open Go.ChangeShapes Go.WideShapes Go.ChangeAt Go.RowKit
def okA (M : Int) (a : List Int) : Bool := decide (a.length = 2) && inr (a.getD 0 0) 0 M && inr (a.getD 1 0) 0 M
def ltP (b a : List Int) : Bool := !(decide (a.getD 0 0 < b.getD 0 0) || decide (b.getD 0 0 = a.getD 0 0) && decide (a.getD 1 0 ≤ b.getD 1 0))
def okI (M : Int) (X : List (List Int)) (i : Nat) : Bool := okA M (X.getD i []) && (decide (i = 0) || ltP (X.getD (i - 1) []) (X.getD i []))
def GPre (M : Int) (X : List (List Int)) (k : Nat) : Prop := ∀ i, i < k → okI M X i = true
instance (M : Int) (X : List (List Int)) (k : Nat) : Decidable (GPre M X k) := inferInstanceAs (Decidable (∀ i, i < k → okI M X i = true))
def gB (N : Int) (X : List (List Int)) : Bool := decide (GPre (IntKind.i64.wrap (N - 1)) X X.length) && inr N 0 10
theorem gB_bad {N : Int} {X : List (List Int)} {k : Nat} (hk : k < X.length) (h : okI (IntKind.i64.wrap (N - 1)) X k = false) : gB N X = false := by
  have : ¬ GPre (IntKind.i64.wrap (N - 1)) X X.length := fun hp => by rw [hp k hk] at h; cases h
  simp [gB, this]
theorem gB_end {N : Int} {X : List (List Int)} (h : GPre (IntKind.i64.wrap (N - 1)) X X.length) : gB N X = inr N 0 10 := by simp [gB, h]
theorem GPre.succ {M : Int} {X : List (List Int)} {k : Nat} (h : GPre M X k) (hk : okI M X k = true) : GPre M X (k + 1) := fun i hi => by
  rcases Nat.lt_or_ge i k with h' | h'
  · exact h i h'
  · have : i = k := by omega
    subst this; exact hk
theorem getD_at {X : List (List Int)} {k : Nat} (h : k < X.length) : X.getD k [] = X[k] := by simp [List.getD, h]
theorem okI_two {M : Int} {X : List (List Int)} {k : Nat} (h : okI M X k = true) (hk : k < X.length) : ∃ p q, X[k] = [p, q] := by
  unfold okI okA at h
  simp only [Bool.and_eq_true, decide_eq_true_eq, getD_at hk] at h
  obtain ⟨⟨⟨h1, _⟩, _⟩, _⟩ := h
  match hx : X[k], (show X[k].length = 2 from h1) with
  | [p, q], _ => exact ⟨p, q, rfl⟩
theorem rd2 {w : World} {B : Nat} {A : Option Addr} {p q : Int} (h : Rd w B A (ivs [p, q])) : ∃ g o, A = some ⟨g, o, none⟩ ∧ g < B ∧ w.cell? ⟨g, o, none⟩ = some (.int .i64 p) ∧ w.cell? ⟨g, o + 1, none⟩ = some (.int .i64 q) := by
  obtain ⟨ad, e, hb, hc⟩ := h 0 _ rfl
  obtain ⟨ad', e', _, hc'⟩ := h 1 _ rfl
  have : ad' = ad := by rw [e] at e'; injection e' with e'; exact e'.symm
  subst this
  obtain ⟨g, o, s⟩ := ad'
  have hs : s = none := by simpa [Addr.add] using World.cell?_spot hc
  subst hs
  rw [Addr.add_lit] at hc hc'
  exact ⟨g, o, e, hb, hc, hc'⟩
theorem l1In_Q {w : World} (a lo hi : Int) {b : Bool} (hb : inr a lo hi = b) : ∀ m, Calls Tryd.prog 28 #[.int .i64 a, .int .i64 lo, .int .i64 hi] (w.drewN m) (fun e w' => e = .returned (.bool b) ∧ ∃ m', w' = (w.drewN m).drewN m') := fun m =>
  (l1In_any a lo hi _).mono fun e w' ⟨h1, h2⟩ => ⟨by rw [h1, hb], 0, h2.symm⟩
set_option maxHeartbeats 8000000 in
set_option maxRecDepth 100000 in
theorem specIsGraph_any {w : World} {A : Option Addr} {n c : Nat} {N : Int} {X : List (List Int)} (hl : Hid (X.length = n)) (hn : n ≤ 1099511627776) (hr : RdSS w w.heap.size A X) :
    Calls Tryd.prog 29 #[.agg #[.int .i64 N, .slice A n c]] w (Tells (gB N X) w) := by
  have hb0 : Below w.heap.size w (w.alloc (Obj.cells #[Value.int IntKind.i64 N, Value.slice A n c] 26)) := (Below.refl _ _).alloc (Nat.le_refl _) _
  have hr1 := hr.below hb0
  clear hr
  obtain ⟨M, hM⟩ : ∃ M, IntKind.i64.wrap (N - 1) = M := ⟨_, rfl⟩
  have HM := Lib.hid hM
  go_enter Tryd.func29, Tryd.ntmps29
  go_wp2
  obtain ⟨W1, hW⟩ : ∃ u : World, u = w.alloc (Obj.cells #[Value.int IntKind.i64 N, Value.slice A n c] 26) := ⟨_, rfl⟩
  rw [← hW] at hr1 hb0 ⊢
  have hbx : Bx W1 w.heap.size 26 #[Value.int IntKind.i64 N, Value.slice A n c] := by rw [hW]; exact Bx.made _ _ _
  obtain ⟨C0, C1⟩ := hbx.two
  clear hW hbx
  go_loopw [3] (fun i wr => ∃ k m : Nat, k ≤ n ∧ i = .int .i64 k ∧ wr = W1.drewN m ∧ Hid (GPre (M) X k)) (fun i _ => n - (intOf i).toNat)
  case atStart => exact ⟨0, 0, Nat.zero_le _, rfl, rfl, Lib.hid (fun i hi => absurd hi (by omega))⟩
  case round =>
    obtain ⟨k, m, hk, rfl, rfl, hpre⟩ := hrel
    by_cases hlt : k < n
    · have hkz : k < X.length := by rw [hl.out]; exact hlt
      obtain ⟨ad, Aj, cj, rfl, hab, hc, _, _, hrd⟩ := hr1.at_ hkz
      by_cases h2 : X[k].length = 2
      · obtain ⟨p, q, hx⟩ : ∃ p q, X[k] = [p, q] := by
          match hx : X[k], h2 with
          | [p, q], _ => exact ⟨p, q, rfl⟩
        have hxD := Lib.hid (show X.getD k [] = [p, q] by rw [getD_at hkz, hx])
        rw [hx] at hc hrd
        obtain ⟨ag, ao, rfl, ha2, e0, e1⟩ := rd2 hrd
        clear h2 hx hrd
        rw [show ([p, q] : List Int).length = 2 from rfl] at hc
        by_cases i1 : inr p 0 (M) = true
        · have J1 := Lib.hid (l1In_Q (w := W1) p 0 (M) i1)
          by_cases i2 : inr q 0 (M) = true
          · have J2 := Lib.hid (l1In_Q (w := W1) q 0 (M) i2)
            have I1 := Lib.hid i1
            have I2 := Lib.hid i2
            clear i1 i2
            go_wp2
            go_quiet ((first | (go_at_call_of 28 (Value.int IntKind.i64 p); with_reducible exact quiet_addQ J1.out) | (go_at_call_of 28 (Value.int IntKind.i64 q); with_reducible exact quiet_addQ J2.out)))
            by_cases hk0 : k = 0
            · subst hk0
              have HP := Lib.hid (hpre.out.succ (by unfold okI okA; rw [hxD.out]; simp [I1.out, I2.out]))
              go_wp2
              go_roundw
              case rel => exact ⟨1, _, by omega, by go_num, rfl, HP.out⟩
              case measure => simp [intOf]; omega
            · have hkp : 0 < k := by omega
              have hk1 : k - 1 < X.length := by omega
              obtain ⟨p', q', hx'⟩ := okI_two (hpre.out (k - 1) (by omega)) hk1
              obtain ⟨ad', Aj', cj', had, hab', hc', _, _, hrd'⟩ := hr1.at_ hk1
              injection had with had
              subst had
              have hxD' := Lib.hid (show X.getD (k - 1) [] = [p', q'] by rw [getD_at hk1, hx'])
              rw [hx'] at hc' hrd'
              obtain ⟨bg, bo, rfl, hb2, f0, f1⟩ := rd2 hrd'
              rw [show ([p', q'] : List Int).length = 2 from rfl] at hc'
              clear hx' hrd' hb2 hab'
              by_cases g1 : p < p'
              · have HB := Lib.hid (gB_bad (N := N) hkz (by rw [HM.out]; unfold okI ltP; rw [hxD.out, hxD'.out]; simp [g1]; omega))
                have d1 : decide (p < p') = true := decide_eq_true g1
                go_wp2
                go_quiet (fail)
                go_wp2
                go_ret
                exact ⟨ret_b HB.out.symm, below_drewN (below_drewN hb0 _) _⟩
              · have d1 : decide (p < p') = false := decide_eq_false g1
                have g1' : p' ≤ p := by omega
                by_cases g2 : p' = p
                · subst g2
                  by_cases g3 : q ≤ q'
                  · have HB := Lib.hid (gB_bad (N := N) hkz (by rw [HM.out]; unfold okI ltP; rw [hxD.out, hxD'.out]; simp [g3]; omega))
                    go_wp2
                    go_quiet (fail)
                    go_wp2
                    go_ret
                    exact ⟨ret_b HB.out.symm, below_drewN (below_drewN hb0 _) _⟩
                  · have HP := Lib.hid (hpre.out.succ (by unfold okI okA ltP; rw [hxD.out, hxD'.out]; simp [I1.out, I2.out, g3]))
                    have g3' : q' < q := by omega
                    go_wp2
                    go_quiet (fail)
                    go_wp2
                    go_roundw
                    case rel => exact ⟨k + 1, _, by omega, by go_num, rfl, HP.out⟩
                    case measure => simp [intOf]; omega
                · have HP := Lib.hid (hpre.out.succ (by unfold okI okA ltP; rw [hxD.out, hxD'.out]; simp [I1.out, I2.out, g1, g2]))
                  have g2' : p' < p := by omega
                  have g4 : (p' == p) = false := by simpa using g2
                  go_wp2
                  go_quiet (fail)
                  go_wp2
                  go_roundw
                  case rel => exact ⟨k + 1, _, by omega, by go_num, rfl, HP.out⟩
                  case measure => simp [intOf]; omega
          · have i2' : inr q 0 (M) = false := by simpa using i2
            have J2 := Lib.hid (l1In_Q (w := W1) q 0 (M) i2')
            have HB := Lib.hid (gB_bad (N := N) hkz (by rw [HM.out]; unfold okI okA; rw [hxD.out]; simp [i2']))
            clear i1 i2 i2'
            go_wp2
            go_quiet ((first | (go_at_call_of 28 (Value.int IntKind.i64 p); with_reducible exact quiet_addQ J1.out) | (go_at_call_of 28 (Value.int IntKind.i64 q); with_reducible exact quiet_addQ J2.out)))
            go_wp2
            go_ret
            exact ⟨ret_b HB.out.symm, below_drewN (below_drewN hb0 _) _⟩
        · have i1' : inr p 0 (M) = false := by simpa using i1
          have J1 := Lib.hid (l1In_Q (w := W1) p 0 (M) i1')
          have HB := Lib.hid (gB_bad (N := N) hkz (by rw [HM.out]; unfold okI okA; rw [hxD.out]; simp [i1']))
          clear i1 i1'
          go_wp2
          go_quiet ((go_at_call 28; with_reducible exact quiet_addQ J1.out))
          go_wp2
          go_ret
          exact ⟨ret_b HB.out.symm, below_drewN (below_drewN hb0 _) _⟩
      · have HB := Lib.hid (gB_bad (N := N) hkz (by rw [HM.out]; unfold okI okA; rw [getD_at hkz]; simp [h2]))
        have h2' : ¬ ((X[k].length : Int) = 2) := by omega
        obtain ⟨x, hx⟩ : ∃ x, x = X[k] := ⟨_, rfl⟩
        rw [← hx] at hc h2 h2'
        have h2b : ((x.length : Int) == 2) = false := by simpa using h2'
        have h2c : ((x.length : Int) != 2) = true := by simpa using h2'
        have h2d : (x.length == 2) = false := by simpa using h2
        have h2e : (x.length != 2) = true := by simpa using h2
        clear hx hrd
        go_wp2
        go_quiet (fail)
        go_wp2
        go_ret
        exact ⟨ret_b HB.out.symm, below_drewN (below_drewN hb0 _) _⟩
    · have e : k = n := by omega
      subst e
      have HE := Lib.hid (gB_end (N := N) (X := X) (by rw [hl.out, HM.out]; exact hpre.out))
      go_wp2_with (go_at_call 28; refine (l1In_any _ _ _ _).mono ?_; rintro e w1 ⟨rfl, rfl⟩)
      go_ret
      exact ⟨ret_b HE.out.symm, below_drewN hb0 m⟩
end Go.Proofs.YtjhknafajfpldaaDoor

/- The law of append of XAppend as a step of a region that draws its order, and words for what such a region keeps: over any program. -/
namespace Go.Proofs.YtjhknafajfpldaaDoor
open Go.ChangeShapes Go.WideShapes Go.ChangeAt Go.RowKit
theorem step_app {P : Program} {w : World} {ops : Array Oper} {o : Oper} {a : Act} {K : Act → World → Prop} {Q : Exit → Act → World → Prop} {E : Prop} (hgd : o.guard = none) (s x : Operand) (t : TypeId)
    (ho : o.op = .call { callee := .builtin .append, args := #[s, x], argTypes := #[t, t] })
    (e : TypeId) (i : TypeInfo) (z : Value) (bytes : Nat) (ht : P.underlying t = some (.slice e)) (hi : P.info? e = some i) (hz : i.zero = some z) (hsize : i.size = 1) (hby : i.bytes = bytes) (hzs : z.cells.size = 1)
    {lo hi' B m c : Nat} {v : Value} {xs news : List Value} {A : Option Addr} (hs : a.eval s = v) (hx : a.eval x = .slice A m c) (hrow : Row w lo hi' e v xs) (hm : news.length = m) (hr : Rd w B A news) (h1 : ∀ u ∈ news, u.oneCell' = true)
    (h63 : xs.length + m ≤ maxLen) (hbytes : (xs.length + m) * bytes ≤ 140737488355328) (hlo : lo ≤ w.heap.size)
    (h : ∀ v' w', Row w' lo w'.heap.size e v' (xs ++ news) → Out lo hi' w w' → K (a.put o.dst v') w') :
    if Region.wanted o (yielded ops a.tmps) = true then Oper.wp P o a w K Q else E := by
  obtain ⟨v', w', hrun, h2, h3⟩ := run_app (P := P) t o.type e i z bytes ht hi hz hsize hby hzs (c := c) hrow hm hr h1 h63 hbytes hlo
  have hw : Region.wanted o (yielded ops a.tmps) = true := by simp [Region.wanted, hgd]
  rw [if_pos hw]
  unfold Oper.wp
  simp [execOp, ho, resolve, invoke, builtin, hs, hx, hrun, Result.andThen]
  exact h v' w' h2 h3
/-- wpList_app where the operation is guarded, and its guard says yes. -/
theorem wpList_app_w {P : Program} {w : World} {ops : Array Oper} {rest : List Oper} {o : Oper} {a : Act} {Q : Exit → Act → World → Prop} (hw : Region.wanted o (yielded ops a.tmps) = true) (s x : Operand) (t : TypeId)
    (ho : o.op = .call { callee := .builtin .append, args := #[s, x], argTypes := #[t, t] })
    (e : TypeId) (i : TypeInfo) (z : Value) (bytes : Nat) (ht : P.underlying t = some (.slice e)) (hi : P.info? e = some i) (hz : i.zero = some z) (hsize : i.size = 1) (hby : i.bytes = bytes) (hzs : z.cells.size = 1)
    {lo hi' B m c : Nat} {v : Value} {xs news : List Value} {A : Option Addr} (hs : a.eval s = v) (hx : a.eval x = .slice A m c) (hrow : Row w lo hi' e v xs) (hm : news.length = m) (hr : Rd w B A news) (h1 : ∀ u ∈ news, u.oneCell' = true)
    (h63 : xs.length + m ≤ maxLen) (hbytes : (xs.length + m) * bytes ≤ 140737488355328) (hlo : lo ≤ w.heap.size)
    (K : ∀ v' w', Row w' lo w'.heap.size e v' (xs ++ news) → Out lo hi' w w' → wpList P ops Q rest (a.put o.dst v') w') : wpList P ops Q (o :: rest) a w := by
  obtain ⟨v', w', hrun, h2, h3⟩ := run_app (P := P) t o.type e i z bytes ht hi hz hsize hby hzs (c := c) hrow hm hr h1 h63 hbytes hlo
  unfold wpList
  rw [if_pos hw]
  refine .inl ?_
  unfold Oper.wp
  simp [execOp, ho, resolve, invoke, builtin, hs, hx, hrun, Result.andThen]
  exact K v' w' h2 h3
section
variable {w w1 w2 : World} {a : Addr} {v : Value}
/-- A cell is as it was, and so is all old memory. -/
theorem hc_call (hl : a.block < w.heap.size) (h : w1.cell? a = some v ∧ Below w.heap.size w w1) (hb : Below w1.heap.size w1 w2) : w2.cell? a = some v ∧ Below w.heap.size w w2 := by
  have h3 := h.2.trans (hb.mono h.2.size)
  exact ⟨(World.cell?_of_block (hb.block _ (Nat.lt_of_lt_of_le hl h.2.size))).trans h.1, h3⟩
theorem hc_start (h : w.cell? a = some v) : w.drew.cell? a = some v ∧ Below w.heap.size w w.drew := ⟨h, (Below.refl _ _).drew⟩
theorem hc_refl (h : w.cell? a = some v) : w.cell? a = some v ∧ Below w.heap.size w w := ⟨h, Below.refl _ _⟩
theorem hc_drew (h : w1.cell? a = some v ∧ Below w.heap.size w w1) : w1.drew.cell? a = some v ∧ Below w.heap.size w w1.drew := ⟨h.1, h.2.drew⟩
theorem hc_alloc (hl : a.block < w.heap.size) (h : w1.cell? a = some v ∧ Below w.heap.size w w1) (o : Obj) : (w1.alloc o).cell? a = some v ∧ Below w.heap.size w (w1.alloc o) :=
  hc_call hl h ((Below.refl _ _).alloc (Nat.le_refl _) _)
theorem hc_out {lo hi : Nat} (hl : a.block < w.heap.size) (h : w1.cell? a = some v ∧ Below w.heap.size w w1) (o : Out lo hi w1 w2) (hlo : w.heap.size ≤ lo) : w2.cell? a = some v ∧ Below w.heap.size w w2 := by
  have hb := o.below hlo h.2.size
  exact ⟨(World.cell?_of_block (hb.block _ hl)).trans h.1, h.2.trans hb⟩
theorem hc_at (h : w1.cell? a = some v) (hb : Below w.heap.size w w1) : w1.cell? a = some v ∧ Below w.heap.size w w1 := ⟨h, hb⟩
theorem hc_atd (h : w1.cell? a = some v) (hb : Below w.heap.size w w1) : w1.drew.cell? a = some v ∧ Below w.heap.size w w1.drew := ⟨h, hb.drew⟩
end
end Go.Proofs.YtjhknafajfpldaaDoor
