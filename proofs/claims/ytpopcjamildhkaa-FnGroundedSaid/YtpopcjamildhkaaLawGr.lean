/- The law of chapter 6: what stands in any case is complete, and labels tell for each claim why. No conditions but that the code is small. -/
import Derived.Test.YtpopcjamildhkaaMg13
import Derived.Test.YtpopcjamildhkaaDrawGr
import Derived.Test.YtpopcjamildhkaaHold
import Derived.Test.YtpopcjamildhkaaMg12
import Derived.Test.YtpopcjamildhkaaOpenC
import Derived.Test.YtpopcjamildhkaaWho
import Derived.Deep.RegionHeld3
namespace Go.Proofs.Ytpopcjamildhkaa
open Go.ChangeShapes Go.WideShapes Go.ChangeAt Go.RowKit
set_option maxRecDepth 100000
/-- What is kept: the graph; what stands in any case; the labels; the claims that are open. -/
structure GH (W : World) (g : Nat) (N : Int) (A As Al Ao : Option Addr) (n c : Nat) (X : List (List Int)) (S : List Int) (Z : List ByteArray) (O : List Int) (w : World) : Prop where
  bx : Bx w g 26 #[.int .i64 N, .slice A n c]
  gr : RdSS w w.heap.size A X
  se : Rd w w.heap.size As (ivs S)
  la : Rd w w.heap.size Al (svs Z)
  op : Rd w w.heap.size Ao (ivs O)
  hb : Below W.heap.size W w
theorem GH.new {W : World} {g : Nat} {N : Int} {A As Al Ao : Option Addr} {n c : Nat} {X : List (List Int)} {S O : List Int} {Z : List ByteArray} {w w' : World} (h : GH W g N A As Al Ao n c X S Z O w) (r : Below w.heap.size w w') : GH W g N A As Al Ao n c X S Z O w' :=
  ⟨h.bx.new r, rdSS_new h.gr r, rd_new h.se r, rd_new h.la r, rd_new h.op r, h.hb.trans (r.mono h.hb.size)⟩
theorem GH.drew {W : World} {g : Nat} {N : Int} {A As Al Ao : Option Addr} {n c : Nat} {X : List (List Int)} {S O : List Int} {Z : List ByteArray} {w : World} (h : GH W g N A As Al Ao n c X S Z O w) : GH W g N A As Al Ao n c X S Z O w.drew := h.new ((Below.refl _ _).drew)
/-- The cells that a round reads. -/
def GC (g : Nat) (N : Int) (A : Option Addr) (n c : Nat) (al : Addr) (s : ByteArray) (k : Nat) (w : World) : Prop := w.cell? ⟨g, 0, none⟩ = some (.int .i64 N) ∧ w.cell? ⟨g, 1, none⟩ = some (.slice A n c) ∧ w.cell? (al.add k) = some (.string s)
theorem GH.cells {W : World} {g : Nat} {N : Int} {A As Ao : Option Addr} {al : Addr} {n c : Nat} {X : List (List Int)} {S O : List Int} {Z : List ByteArray} {w : World} (h : GH W g N A As (some al) Ao n c X S Z O w) {k : Nat} (hk : k < Z.length) : w.cell? ⟨g, 0, none⟩ = some (.int .i64 N) ∧ w.cell? ⟨g, 1, none⟩ = some (.slice A n c) ∧ w.cell? (al.add k) = some (.string Z[k]) := by
  obtain ⟨ad, e, _, hc⟩ := svs_at h.la hk
  injection e with e
  subst e
  exact ⟨h.bx.two.1, h.bx.two.2, hc⟩
theorem opns_len (N : Int) (X : List (List Int)) : (opns N X).length ≤ 10 := Nat.le_trans (opnT_len N X _) (labs_len N X)
theorem atk_lenG (N : Int) (X : List (List Int)) (c : Int) : (atk N X c).length ≤ X.length := atk_lenX N X c
/-- The three labels. -/
theorem three (N : Int) (X : List (List Int)) (hg : gB N X = true) (k : Nat) :
    (lab N X k = ⟨#[105, 110]⟩ ∧ (grd N X).contains (k : Int) = true ∧ (hit N X (grd N X)).contains (k : Int) = false ∧ openP N X k = false) ∨
    (lab N X k = ⟨#[111, 117, 116]⟩ ∧ (grd N X).contains (k : Int) = false ∧ (hit N X (grd N X)).contains (k : Int) = true ∧ openP N X k = false) ∨
    (lab N X k = ⟨#[111, 112, 101, 110]⟩ ∧ (grd N X).contains (k : Int) = false ∧ (hit N X (grd N X)).contains (k : Int) = false ∧ openP N X k = true) := by
  unfold lab openP
  cases h : (grd N X).contains (k : Int) with
  | true => exact .inl ⟨rfl, rfl, grd_out hg h, rfl⟩
  | false =>
    cases h' : (hit N X (grd N X)).contains (k : Int) with
    | true => exact .inr (.inl ⟨rfl, rfl, rfl, rfl⟩)
    | false => exact .inr (.inr ⟨rfl, rfl, rfl, rfl⟩)
/-- What the four kinds of claims have. -/
def Kind (m : Nat) (X : List (List Int)) (k : Nat) (s : ByteArray) (p q o : Bool) : Prop :=
  Hid ((labs m X)[k]? = some s) ∧ Hid ((grd m X).contains (k : Int) = p) ∧ Hid ((hit m X (grd m X)).contains (k : Int) = q) ∧ Hid ((opns m X).contains (k : Int) = o)
theorem four {m : Nat} {X : List (List Int)} (hg : gB m X = true) {k : Nat} (hk : k < m) :
    (Kind m X k ⟨#[105, 110]⟩ true false false ∧ rnd m X k = 1 ∧ (atk m X k).length = 0) ∨
    (Kind m X k ⟨#[105, 110]⟩ true false false ∧ (0 < rnd m X k ∧ rnd m X k ≠ 1) ∧ (atk m X k).length ≠ 0) ∨
    (Kind m X k ⟨#[111, 117, 116]⟩ false true false ∧ (¬ 0 < rnd m X k ∧ rnd m X k ≠ 1) ∧ (atk m X k).length ≠ 0) ∨
    (Kind m X k ⟨#[111, 112, 101, 110]⟩ false false true ∧ (¬ 0 < rnd m X k ∧ rnd m X k ≠ 1) ∧ (atk m X k).length ≠ 0) := by
  have hl : k < (labs m X).length := by rw [labs_n hg rfl]; exact hk
  have ho := opn_contains hg k rfl hk
  have hp := rnd_pos hg (k : Int)
  have h1 := rnd_one hg k rfl hk
  have hz : (labs m X)[k]? = some (lab m X k) := by rw [List.getElem?_eq_getElem hl, labs_at]
  rcases three m X hg k with ⟨e, ha, hb, hc⟩ | ⟨e, ha, hb, hc⟩ | ⟨e, ha, hb, hc⟩
  all_goals
    rw [e] at hz
    rw [hc] at ho
    rw [ha] at hp
    have kd := And.intro (Lib.hid hz) (And.intro (Lib.hid ha) (And.intro (Lib.hid hb) (Lib.hid ho)))
  · have hp' : 0 < rnd m X k := of_decide_eq_true hp
    by_cases h : rnd m X k = 1
    · rw [decide_eq_true h] at h1
      exact .inl ⟨kd, h, of_decide_eq_true h1.symm⟩
    · rw [decide_eq_false h] at h1
      exact .inr (.inl ⟨kd, ⟨hp', h⟩, of_decide_eq_false h1.symm⟩)
  · have hp' : ¬ 0 < rnd m X k := of_decide_eq_false hp
    have h : rnd m X k ≠ 1 := by omega
    rw [decide_eq_false h] at h1
    exact .inr (.inr (.inl ⟨kd, ⟨hp', h⟩, of_decide_eq_false h1.symm⟩))
  · have hp' : ¬ 0 < rnd m X k := of_decide_eq_false hp
    have h : rnd m X k ≠ 1 := by omega
    rw [decide_eq_false h] at h1
    exact .inr (.inr (.inr ⟨kd, ⟨hp', h⟩, of_decide_eq_false h1.symm⟩))
theorem four' {m : Nat} {X : List (List Int)} (hg : gB m X = true) {k : Nat} (hk : k < m) : ∃ (R : Int) (T : Nat), rnd m X k = R ∧ (atk m X k).length = T ∧
    ((Kind m X k ⟨#[105, 110]⟩ true false false ∧ R = 1 ∧ T = 0) ∨
    (Kind m X k ⟨#[105, 110]⟩ true false false ∧ 0 < R ∧ decide (0 < R) = true ∧ (R == 1) = false ∧ ((T : Int) == 0) = false) ∨
    (Kind m X k ⟨#[111, 117, 116]⟩ false true false ∧ R ≤ 0 ∧ decide (0 < R) = false ∧ (R == 1) = false ∧ ((T : Int) == 0) = false) ∨
    (Kind m X k ⟨#[111, 112, 101, 110]⟩ false false true ∧ R ≤ 0 ∧ decide (0 < R) = false ∧ (R == 1) = false ∧ ((T : Int) == 0) = false)) := by
  refine ⟨_, _, rfl, rfl, ?_⟩
  have hz : ∀ T : Nat, T ≠ 0 → ((T : Int) == 0) = false := fun T h => beq_eq_false_iff_ne.2 (by omega)
  rcases four hg hk with ⟨a, b, c⟩ | ⟨a, ⟨b, c⟩, d⟩ | ⟨a, ⟨b, c⟩, d⟩ | ⟨a, ⟨b, c⟩, d⟩
  · exact .inl ⟨a, b, c⟩
  · exact .inr (.inl ⟨a, b, decide_eq_true b, beq_eq_false_iff_ne.2 c, hz _ d⟩)
  · exact .inr (.inr (.inl ⟨a, Int.not_lt.1 b, decide_eq_false b, beq_eq_false_iff_ne.2 c, hz _ d⟩))
  · exact .inr (.inr (.inr ⟨a, Int.not_lt.1 b, decide_eq_false b, beq_eq_false_iff_ne.2 c, hz _ d⟩))
theorem comp_gB {N : Int} {X : List (List Int)} {S : List Int} (h : compB N X S = true) : gB N X = true := by
  unfold compB at h
  rw [Bool.and_eq_true] at h
  exact setB_g (free_set h.1)
section
variable {W : World} {g : Nat} {N : Int} {A As Al Ao : Option Addr} {c cs : Nat} {X : List (List Int)} {S O : List Int} {Z : List ByteArray} {w : World} (h : GH W g N A As Al Ao X.length c X S Z O w) (hX : Hid (X.length ≤ 10)) (hS : Hid (S.length ≤ 10))
include h hX
theorem GH.atks (a : Int) : Calls Try.prog 20 #[.agg #[.int .i64 N, .slice A X.length c], .int .i64 a] w (Fresh 3 (ivs (atk N X a)) w) :=
  impAttackersOf_any (Lib.hid rfl) (by have := hX.out; omega) h.gr
theorem GH.rou (a : Int) : Calls Try.prog 31 #[.agg #[.int .i64 N, .slice A X.length c], .int .i64 a] w (fun e w' => e = .returned (.int .i64 (rnd N X a)) ∧ Below w.heap.size w w') :=
  impRoundOf_any (Lib.hid rfl) (by have := hX.out; omega) h.gr
theorem GH.isg {b : Bool} (hb : Hid (gB N X = b)) : Calls Try.prog 17 #[.agg #[.int .i64 N, .slice A X.length c]] w (Tells b w) := by
  rw [← hb.out]
  exact impIsGraph_any (Lib.hid rfl) (by have := hX.out; omega) h.gr
theorem GH.opn : Calls Try.prog 30 #[.agg #[.int .i64 N, .slice A X.length c]] w (Fresh 3 (ivs (opns N X)) w) :=
  impOpenClaims_any (Lib.hid rfl) (by have := hX.out; omega) h.gr
include hS
theorem GH.hits : Calls Try.prog 23 #[.agg #[.int .i64 N, .slice A X.length c], .slice As S.length cs] w (Fresh 3 (ivs (hit N X S)) w) :=
  impHitBits_any (Lib.hid rfl) (by have := hX.out; omega) h.gr (Lib.hid rfl) (by have := hS.out; omega) h.se
theorem GH.comp {b : Bool} (hb : Hid (compB N X S = b)) : Calls Try.prog 29 #[.agg #[.int .i64 N, .slice A X.length c], .slice As S.length cs] w (Tells b w) := by
  rw [← hb.out]
  exact impIsComplete_any (Lib.hid rfl) (by have := hX.out; omega) h.gr (Lib.hid rfl) (by have := hS.out; omega) h.se
end
theorem svs_some {Z : List ByteArray} {k : Nat} {s : ByteArray} (h : Z[k]? = some s) : (svs Z)[k]? = some (.string s) := by simp [svs, h]
theorem grd_len40 (N : Int) (X : List (List Int)) : (grd N X).length ≤ 1099511627776 := by
  have := grd_len N X
  omega
section
variable {W : World} {g : Nat} {N : Int} {A As : Option Addr} {c cs : Nat} {X : List (List Int)} {S : List Int} {w : World} (h : FH W g N A As X.length c S.length cs X S w) (hX : Hid (X.length ≤ 10))
include h hX
theorem FH.grd : Calls Try.prog 26 #[.agg #[.int .i64 N, .slice A X.length c]] w (Fresh 3 (ivs (grd N X)) w) :=
  impGrounded_any (Lib.hid rfl) (by have := hX.out; omega) h.gr
theorem FH.comp (hS : Hid (S.length ≤ 13)) {b : Bool} (hb : Hid (compB N X S = b)) : Calls Try.prog 29 #[.agg #[.int .i64 N, .slice A X.length c], .slice As S.length cs] w (Tells b w) := by
  rw [← hb.out]
  exact impIsComplete_any (Lib.hid rfl) (by have := hX.out; omega) h.gr (Lib.hid rfl) (by have := hS.out; omega) h.se
end
theorem opns_len40 (N : Int) (X : List (List Int)) : (opns N X).length ≤ 1099511627776 := by
  have := opns_len N X
  omega
theorem hit_len40 (N : Int) (X : List (List Int)) (S : List Int) : (hit N X S).length ≤ 1099511627776 := by
  have := hit_len N X S
  omega
set_option maxHeartbeats 20000000 in
theorem ground_core {W : World} {A : Option Addr} {n c : Nat} (h8 : Code8 W A n) (hn : n ≤ 1048576) :
    Calls Try.prog 4 #[.slice A n c] W (fun e W' => e = .returned (.bool true) ∧ Below W.heap.size W W') := by
  go_enter Try.func4, Try.ntmps4
  go_wp2_with fail
  refine (big_no hn).mono ?_
  rintro e w1 ⟨rfl, rfl⟩
  go_wp2_with fail
  refine (drawGrounded h8).mono ?_
  rintro e w1 ⟨N, X, v, hok, rfl, hown, hb1⟩
  obtain ⟨Av, cv, rfl, hrd, _, _⟩ := hown.rd (n := X.length) rfl
  have k2 : Below w1.heap.size w1 (w1.alloc (Obj.cells #[Value.int .i64 N, .slice Av X.length cv] 26)) := (Below.refl _ _).alloc (Nat.le_refl _) _
  have bx := Bx.made w1 26 #[Value.int .i64 N, .slice Av X.length cv]
  have gr := rdSS_new hrd k2
  have hb := hb1.trans (k2.mono hb1.size)
  have hX := Lib.hid hok.1
  obtain ⟨w2, hw2⟩ : ∃ z : World, z = w1.alloc (Obj.cells #[Value.int .i64 N, .slice Av X.length cv] 26) := ⟨_, rfl⟩
  rw [← hw2] at bx gr hb
  have HW2 := Lib.hid hw2.symm
  obtain ⟨g, hg⟩ : ∃ g, g = w1.heap.size := ⟨_, rfl⟩
  rw [← hg] at bx
  have HG := Lib.hid hg.symm
  obtain ⟨D0, D1⟩ := bx.two
  have HXL := Lib.hid (show X.length ≤ 1099511627776 by have := hX.out; omega)
  clear hw2 k2 hown hb1 hok hrd hg
  go_wp2_with fail
  rw [HW2.out, HG.out]
  clear HW2 HG
  refine (impGrounded_any (X := X) (Lib.hid rfl) HXL.out gr).mono ?_
  rintro e w3 ⟨sv, rfl, hrow, r⟩
  obtain ⟨As, cs, rfl, se, hcs, _⟩ := hrow.rd (n := (grd N X).length) (ivs_len _)
  replace bx := bx.new r
  replace gr := rdSS_new gr r
  replace hb := hb.trans (r.mono hb.size)
  clear D0 D1 r hrow
  obtain ⟨D0, D1⟩ := bx.two
  go_wp2_with fail
  refine (impLabels_any (X := X) (Lib.hid rfl) HXL.out gr).mono ?_
  rintro e w4 ⟨lv, rfl, hrow, r⟩
  obtain ⟨Al, cl, rfl, la, hcl, _⟩ := hrow.rd (n := (labs N X).length) (svs_len _)
  have hf : GH W g N Av As Al none X.length cv X (grd N X) (labs N X) [] w4 := ⟨bx.new r, rdSS_new gr r, rd_new se r, la, fun j u hu => by simp [ivs] at hu, hb.trans (r.mono hb.size)⟩
  clear D0 D1 r hrow bx gr hb se la
  obtain ⟨D0, D1⟩ := hf.bx.two
  have HG10 := Lib.hid (grd_len N X)
  cases hgb : gB N X with
  | false =>
    have HGB := Lib.hid hgb
    have e1 : (grd N X).length = 0 := by unfold grd; rw [it_none hgb]; rfl
    have e2 : (labs N X).length = 0 := by unfold labs; rw [hgb]; rfl
    rw [e1, e2]
    clear hgb e1 e2
    go_wp2_with fail
    go_region_held3 (fun w' => w'.cell? ⟨g, 0, none⟩ = some (.int .i64 N) ∧ w'.cell? ⟨g, 1, none⟩ = some (.slice Av X.length cv) ∧ GH W g N Av As Al none X.length cv X (grd N X) (labs N X) [] w') (refine ⟨?_, ?_, ?_⟩ <;> first | assumption | exact D0 | exact D1 | exact hf.drew | exact c1 | exact c2 | exact hg1 | exact hg1.drew)
      (first
        | (go_at_call 17; refine (impIsGraph_any (N := N) (X := X) (Lib.hid rfl) HXL.out (‹_ ∧ _ ∧ GH _ _ _ _ _ _ _ _ _ _ _ _ _ _›).2.2.gr).mono ?_; rw [HGB.out]; rintro e u1 ⟨rfl, r⟩; have hg1 := (‹_ ∧ _ ∧ GH _ _ _ _ _ _ _ _ _ _ _ _ _ _›).2.2.new r; obtain ⟨c1, c2⟩ := hg1.bx.two)
        | (go_at_call 28; refine (specIsGraph_any (N := N) (X := X) (Lib.hid rfl) HXL.out (‹_ ∧ _ ∧ GH _ _ _ _ _ _ _ _ _ _ _ _ _ _›).2.2.gr).mono ?_; rw [HGB.out]; rintro e u2 ⟨rfl, r⟩; have hg2 := hg1.new r; obtain ⟨c3, c4⟩ := hg2.bx.two))
    replace hf := hg2
    clear D0 D1 hg1 hg2 c1 c2 c3 c4 r
    obtain ⟨D0, D1⟩ := hf.bx.two
    go_wp2_with fail
    refine (impIsGraph_any (N := N) (X := X) (Lib.hid rfl) HXL.out hf.gr).mono ?_
    rw [HGB.out]
    rintro e u3 ⟨rfl, r⟩
    replace hf := hf.new r
    clear D0 D1 r
    obtain ⟨D0, D1⟩ := hf.bx.two
    go_wp2_with fail
    go_ret
    exact ⟨rfl, hf.hb⟩
  | true =>
    obtain ⟨m, rfl, hm10, _, _⟩ := gB_ok hgb
    have HGB := Lib.hid hgb
    have HLM := Lib.hid (labs_n hgb rfl)
    have HCO := Lib.hid (grd_comp hgb)
    rw [HLM.out]
    clear hgb
    go_wp2_with fail
    go_region_held3 (fun w' => w'.cell? ⟨g, 0, none⟩ = some (.int .i64 m) ∧ w'.cell? ⟨g, 1, none⟩ = some (.slice Av X.length cv) ∧ GH W g m Av As Al none X.length cv X (grd m X) (labs m X) [] w') (refine ⟨?_, ?_, ?_⟩ <;> first | assumption | exact D0 | exact D1 | exact hf.drew | exact c1 | exact c2 | exact hg1 | exact hg1.drew)
      (first
        | (go_at_call 17; refine (impIsGraph_any (N := m) (X := X) (Lib.hid rfl) HXL.out (‹_ ∧ _ ∧ GH _ _ _ _ _ _ _ _ _ _ _ _ _ _›).2.2.gr).mono ?_; rw [HGB.out]; rintro e u1 ⟨rfl, r⟩; have hg1 := (‹_ ∧ _ ∧ GH _ _ _ _ _ _ _ _ _ _ _ _ _ _›).2.2.new r; obtain ⟨c1, c2⟩ := hg1.bx.two)
        | (go_at_call 28; refine (specIsGraph_any (N := m) (X := X) (Lib.hid rfl) HXL.out (‹_ ∧ _ ∧ GH _ _ _ _ _ _ _ _ _ _ _ _ _ _›).2.2.gr).mono ?_; rw [HGB.out]; rintro e u2 ⟨rfl, r⟩; have hg2 := hg1.new r; obtain ⟨c3, c4⟩ := hg2.bx.two))
    replace hf := hg2
    clear D0 D1 hg1 hg2 c1 c2 c3 c4 r
    obtain ⟨D0, D1⟩ := hf.bx.two
    go_wp2_with fail
    refine (impIsGraph_any (N := m) (X := X) (Lib.hid rfl) HXL.out hf.gr).mono ?_
    rw [HGB.out]
    rintro e u3 ⟨rfl, r⟩
    replace hf := hf.new r
    clear D0 D1 r
    obtain ⟨D0, D1⟩ := hf.bx.two
    go_wp2_with fail
    refine (hf.comp hX HG10 HCO).mono ?_
    rintro e u4 ⟨rfl, r⟩
    replace hf := hf.new r
    clear D0 D1 r
    obtain ⟨D0, D1⟩ := hf.bx.two
    go_wp2_with fail
    refine (hf.opn hX).mono ?_
    rintro e u5 ⟨ov, rfl, hrow, r⟩
    obtain ⟨Ao, co, rfl, op, _, _⟩ := hrow.rd (n := (opns m X).length) (ivs_len _)
    have hh : GH W g m Av As Al Ao X.length cv X (grd m X) (labs m X) (opns m X) u5 := ⟨hf.bx.new r, rdSS_new hf.gr r, rd_new hf.se r, rd_new hf.la r, op, hf.hb.trans (r.mono hf.hb.size)⟩
    clear D0 D1 hf r hrow op
    obtain ⟨D0, D1⟩ := hh.bx.two
    go_wp2_with fail
    go_loopw [7, 8] (fun i rr wr => ∃ k : Nat, k ≤ m ∧ i = .int .i64 k ∧ GH W g m Av As Al Ao X.length cv X (grd m X) (labs m X) (opns m X) wr) (fun i _ _ => 10 - (intOf i).toNat)
    case atStart => exact ⟨0, by omega, rfl, hh⟩
    case round =>
      obtain ⟨k, hk, rfl, hd⟩ := hrel
      clear D0 D1 hh
      obtain ⟨D0, D1⟩ := hd.bx.two
      by_cases hlt : (k : Int) < m
      · have hkm : k < m := by omega
        go_wp2_with fail
        refine (hd.rou hX (k : Int)).mono ?_
        rintro e u6 ⟨rfl, r⟩
        replace hd := hd.new r
        clear D0 D1 r
        obtain ⟨D0, D1⟩ := hd.bx.two
        obtain ⟨R, T, hR, hT, h4⟩ := four' HGB.out hkm
        rw [hR]
        have HT := Lib.hid hT
        clear hR hT
        rcases h4 with ⟨⟨K1, K2, K3, K4⟩, rfl, rfl⟩ | ⟨⟨K1, K2, K3, K4⟩, hp, h0, h1, hz⟩ | ⟨⟨K1, K2, K3, K4⟩, hp, h0, h1, hz⟩ | ⟨⟨K1, K2, K3, K4⟩, hp, h0, h1, hz⟩
        · obtain ⟨al, rfl, _, D2⟩ := hd.la k _ (svs_some K1.out)
          go_wp2_with fail
          go_region_held3 (fun w' => w'.cell? ⟨g, 0, none⟩ = some (.int .i64 m) ∧ w'.cell? ⟨g, 1, none⟩ = some (.slice Av X.length cv) ∧ w'.cell? (al.add k) = some (.string ⟨#[105, 110]⟩) ∧ GH W g m Av As (some al) Ao X.length cv X (grd m X) (labs m X) (opns m X) w') (refine ⟨?_, ?_, ?_, ?_⟩ <;> first | assumption | exact D0 | exact D1 | exact D2 | exact hd.drew | exact c1 | exact c2 | exact c3 | exact hg1 | exact hg1.drew)
            (first
              | (go_at_call 19; ((with_reducible refine (contains_any (S := grd m X) (a := k) (Lib.hid rfl) (grd_len40 m X) (‹_ ∧ _ ∧ _ ∧ GH _ _ _ _ _ _ _ _ _ _ _ _ _ _›).2.2.2.se).mono ?_); rintro e u7 ⟨rfl, rfl⟩; rw [K2.out]))
              | (go_at_call 23; refine ((‹_ ∧ _ ∧ _ ∧ GH _ _ _ _ _ _ _ _ _ _ _ _ _ _›).2.2.2.hits hX HG10).mono ?_; rintro e u8 ⟨tv, rfl, hrow, r⟩; obtain ⟨At, ct, rfl, hrt, _, _⟩ := hrow.rd (n := (hit m X (grd m X)).length) (ivs_len _); have hg1 := (‹_ ∧ _ ∧ _ ∧ GH _ _ _ _ _ _ _ _ _ _ _ _ _ _›).2.2.2.new r; obtain ⟨c1, c2⟩ := hg1.bx.two; have c3 := (r.cell (cell_lt (‹_ ∧ _ ∧ _ ∧ GH _ _ _ _ _ _ _ _ _ _ _ _ _ _›).2.2.1)).trans (‹_ ∧ _ ∧ _ ∧ GH _ _ _ _ _ _ _ _ _ _ _ _ _ _›).2.2.1)
              | (go_at_call 19; ((with_reducible refine (contains_any (S := hit m X (grd m X)) (a := k) (Lib.hid rfl) (hit_len40 m X (grd m X)) ?_).mono ?_); (focus (first | exact hrt | exact hrt.drewN 1)); rintro e u7 ⟨rfl, rfl⟩; rw [K3.out]))
              | (go_at_call 19; ((with_reducible refine (contains_any (S := opns m X) (a := k) (Lib.hid rfl) (opns_len40 m X) (‹_ ∧ _ ∧ _ ∧ GH _ _ _ _ _ _ _ _ _ _ _ _ _ _›).2.2.2.op).mono ?_); rintro e u7 ⟨rfl, rfl⟩; rw [K4.out]))
              | (go_at_call 20; refine ((‹_ ∧ _ ∧ _ ∧ GH _ _ _ _ _ _ _ _ _ _ _ _ _ _›).2.2.2.atks hX (k : Int)).mono ?_; rintro e u9 ⟨tv, rfl, hrow2, r2⟩; obtain ⟨At2, ct2, rfl, hrt2, _, _⟩ := hrow2.rd (n := _) ((ivs_len _).trans HT.out); have hg2 := (‹_ ∧ _ ∧ _ ∧ GH _ _ _ _ _ _ _ _ _ _ _ _ _ _›).2.2.2.new r2; obtain ⟨c4, c5⟩ := hg2.bx.two; have c6 := (r2.cell (cell_lt (‹_ ∧ _ ∧ _ ∧ GH _ _ _ _ _ _ _ _ _ _ _ _ _ _›).2.2.1)).trans (‹_ ∧ _ ∧ _ ∧ GH _ _ _ _ _ _ _ _ _ _ _ _ _ _›).2.2.1))
          clear c1 c2 c3 c4 c5 c6 hg1 hrt hrt2 D0 D1 D2 r r2
          go_wp2_with fail
          go_roundw
          case rel => exact ⟨k + 1, by omega, by go_num, hg2⟩
          case measure =>
            simp [intOf]
            omega
        · obtain ⟨al, rfl, _, D2⟩ := hd.la k _ (svs_some K1.out)
          go_wp2_with fail
          go_region_held3 (fun w' => w'.cell? ⟨g, 0, none⟩ = some (.int .i64 m) ∧ w'.cell? ⟨g, 1, none⟩ = some (.slice Av X.length cv) ∧ w'.cell? (al.add k) = some (.string ⟨#[105, 110]⟩) ∧ GH W g m Av As (some al) Ao X.length cv X (grd m X) (labs m X) (opns m X) w') (refine ⟨?_, ?_, ?_, ?_⟩ <;> first | assumption | exact D0 | exact D1 | exact D2 | exact hd.drew | exact c1 | exact c2 | exact c3 | exact hg1 | exact hg1.drew)
            (first
              | (go_at_call 19; ((with_reducible refine (contains_any (S := grd m X) (a := k) (Lib.hid rfl) (grd_len40 m X) (‹_ ∧ _ ∧ _ ∧ GH _ _ _ _ _ _ _ _ _ _ _ _ _ _›).2.2.2.se).mono ?_); rintro e u7 ⟨rfl, rfl⟩; rw [K2.out]))
              | (go_at_call 23; refine ((‹_ ∧ _ ∧ _ ∧ GH _ _ _ _ _ _ _ _ _ _ _ _ _ _›).2.2.2.hits hX HG10).mono ?_; rintro e u8 ⟨tv, rfl, hrow, r⟩; obtain ⟨At, ct, rfl, hrt, _, _⟩ := hrow.rd (n := (hit m X (grd m X)).length) (ivs_len _); have hg1 := (‹_ ∧ _ ∧ _ ∧ GH _ _ _ _ _ _ _ _ _ _ _ _ _ _›).2.2.2.new r; obtain ⟨c1, c2⟩ := hg1.bx.two; have c3 := (r.cell (cell_lt (‹_ ∧ _ ∧ _ ∧ GH _ _ _ _ _ _ _ _ _ _ _ _ _ _›).2.2.1)).trans (‹_ ∧ _ ∧ _ ∧ GH _ _ _ _ _ _ _ _ _ _ _ _ _ _›).2.2.1)
              | (go_at_call 19; ((with_reducible refine (contains_any (S := hit m X (grd m X)) (a := k) (Lib.hid rfl) (hit_len40 m X (grd m X)) ?_).mono ?_); (focus (first | exact hrt | exact hrt.drewN 1)); rintro e u7 ⟨rfl, rfl⟩; rw [K3.out]))
              | (go_at_call 19; ((with_reducible refine (contains_any (S := opns m X) (a := k) (Lib.hid rfl) (opns_len40 m X) (‹_ ∧ _ ∧ _ ∧ GH _ _ _ _ _ _ _ _ _ _ _ _ _ _›).2.2.2.op).mono ?_); rintro e u7 ⟨rfl, rfl⟩; rw [K4.out]))
              | (go_at_call 20; refine ((‹_ ∧ _ ∧ _ ∧ GH _ _ _ _ _ _ _ _ _ _ _ _ _ _›).2.2.2.atks hX (k : Int)).mono ?_; rintro e u9 ⟨tv, rfl, hrow2, r2⟩; obtain ⟨At2, ct2, rfl, hrt2, _, _⟩ := hrow2.rd (n := _) ((ivs_len _).trans HT.out); have hg2 := (‹_ ∧ _ ∧ _ ∧ GH _ _ _ _ _ _ _ _ _ _ _ _ _ _›).2.2.2.new r2; obtain ⟨c4, c5⟩ := hg2.bx.two; have c6 := (r2.cell (cell_lt (‹_ ∧ _ ∧ _ ∧ GH _ _ _ _ _ _ _ _ _ _ _ _ _ _›).2.2.1)).trans (‹_ ∧ _ ∧ _ ∧ GH _ _ _ _ _ _ _ _ _ _ _ _ _ _›).2.2.1))
          clear c1 c2 c3 c4 c5 c6 hg1 hrt hrt2 D0 D1 D2 r r2
          go_wp2_with fail
          go_roundw
          case rel => exact ⟨k + 1, by omega, by go_num, hg2⟩
          case measure =>
            simp [intOf]
            omega
        · obtain ⟨al, rfl, _, D2⟩ := hd.la k _ (svs_some K1.out)
          go_wp2_with fail
          go_region_held3 (fun w' => w'.cell? ⟨g, 0, none⟩ = some (.int .i64 m) ∧ w'.cell? ⟨g, 1, none⟩ = some (.slice Av X.length cv) ∧ w'.cell? (al.add k) = some (.string ⟨#[111, 117, 116]⟩) ∧ GH W g m Av As (some al) Ao X.length cv X (grd m X) (labs m X) (opns m X) w') (refine ⟨?_, ?_, ?_, ?_⟩ <;> first | assumption | exact D0 | exact D1 | exact D2 | exact hd.drew | exact c1 | exact c2 | exact c3 | exact hg1 | exact hg1.drew)
            (first
              | (go_at_call 19; ((with_reducible refine (contains_any (S := grd m X) (a := k) (Lib.hid rfl) (grd_len40 m X) (‹_ ∧ _ ∧ _ ∧ GH _ _ _ _ _ _ _ _ _ _ _ _ _ _›).2.2.2.se).mono ?_); rintro e u7 ⟨rfl, rfl⟩; rw [K2.out]))
              | (go_at_call 23; refine ((‹_ ∧ _ ∧ _ ∧ GH _ _ _ _ _ _ _ _ _ _ _ _ _ _›).2.2.2.hits hX HG10).mono ?_; rintro e u8 ⟨tv, rfl, hrow, r⟩; obtain ⟨At, ct, rfl, hrt, _, _⟩ := hrow.rd (n := (hit m X (grd m X)).length) (ivs_len _); have hg1 := (‹_ ∧ _ ∧ _ ∧ GH _ _ _ _ _ _ _ _ _ _ _ _ _ _›).2.2.2.new r; obtain ⟨c1, c2⟩ := hg1.bx.two; have c3 := (r.cell (cell_lt (‹_ ∧ _ ∧ _ ∧ GH _ _ _ _ _ _ _ _ _ _ _ _ _ _›).2.2.1)).trans (‹_ ∧ _ ∧ _ ∧ GH _ _ _ _ _ _ _ _ _ _ _ _ _ _›).2.2.1)
              | (go_at_call 19; ((with_reducible refine (contains_any (S := hit m X (grd m X)) (a := k) (Lib.hid rfl) (hit_len40 m X (grd m X)) ?_).mono ?_); (focus (first | exact hrt | exact hrt.drewN 1)); rintro e u7 ⟨rfl, rfl⟩; rw [K3.out]))
              | (go_at_call 19; ((with_reducible refine (contains_any (S := opns m X) (a := k) (Lib.hid rfl) (opns_len40 m X) (‹_ ∧ _ ∧ _ ∧ GH _ _ _ _ _ _ _ _ _ _ _ _ _ _›).2.2.2.op).mono ?_); rintro e u7 ⟨rfl, rfl⟩; rw [K4.out]))
              | (go_at_call 20; refine ((‹_ ∧ _ ∧ _ ∧ GH _ _ _ _ _ _ _ _ _ _ _ _ _ _›).2.2.2.atks hX (k : Int)).mono ?_; rintro e u9 ⟨tv, rfl, hrow2, r2⟩; obtain ⟨At2, ct2, rfl, hrt2, _, _⟩ := hrow2.rd (n := _) ((ivs_len _).trans HT.out); have hg2 := (‹_ ∧ _ ∧ _ ∧ GH _ _ _ _ _ _ _ _ _ _ _ _ _ _›).2.2.2.new r2; obtain ⟨c4, c5⟩ := hg2.bx.two; have c6 := (r2.cell (cell_lt (‹_ ∧ _ ∧ _ ∧ GH _ _ _ _ _ _ _ _ _ _ _ _ _ _›).2.2.1)).trans (‹_ ∧ _ ∧ _ ∧ GH _ _ _ _ _ _ _ _ _ _ _ _ _ _›).2.2.1))
          clear c1 c2 c3 c4 c5 c6 hg1 hrt hrt2 D0 D1 D2 r r2
          go_wp2_with fail
          go_roundw
          case rel => exact ⟨k + 1, by omega, by go_num, hg2⟩
          case measure =>
            simp [intOf]
            omega
        · obtain ⟨al, rfl, _, D2⟩ := hd.la k _ (svs_some K1.out)
          go_wp2_with fail
          go_region_held3 (fun w' => w'.cell? ⟨g, 0, none⟩ = some (.int .i64 m) ∧ w'.cell? ⟨g, 1, none⟩ = some (.slice Av X.length cv) ∧ w'.cell? (al.add k) = some (.string ⟨#[111, 112, 101, 110]⟩) ∧ GH W g m Av As (some al) Ao X.length cv X (grd m X) (labs m X) (opns m X) w') (refine ⟨?_, ?_, ?_, ?_⟩ <;> first | assumption | exact D0 | exact D1 | exact D2 | exact hd.drew | exact c1 | exact c2 | exact c3 | exact hg1 | exact hg1.drew)
            (first
              | (go_at_call 19; ((with_reducible refine (contains_any (S := grd m X) (a := k) (Lib.hid rfl) (grd_len40 m X) (‹_ ∧ _ ∧ _ ∧ GH _ _ _ _ _ _ _ _ _ _ _ _ _ _›).2.2.2.se).mono ?_); rintro e u7 ⟨rfl, rfl⟩; rw [K2.out]))
              | (go_at_call 23; refine ((‹_ ∧ _ ∧ _ ∧ GH _ _ _ _ _ _ _ _ _ _ _ _ _ _›).2.2.2.hits hX HG10).mono ?_; rintro e u8 ⟨tv, rfl, hrow, r⟩; obtain ⟨At, ct, rfl, hrt, _, _⟩ := hrow.rd (n := (hit m X (grd m X)).length) (ivs_len _); have hg1 := (‹_ ∧ _ ∧ _ ∧ GH _ _ _ _ _ _ _ _ _ _ _ _ _ _›).2.2.2.new r; obtain ⟨c1, c2⟩ := hg1.bx.two; have c3 := (r.cell (cell_lt (‹_ ∧ _ ∧ _ ∧ GH _ _ _ _ _ _ _ _ _ _ _ _ _ _›).2.2.1)).trans (‹_ ∧ _ ∧ _ ∧ GH _ _ _ _ _ _ _ _ _ _ _ _ _ _›).2.2.1)
              | (go_at_call 19; ((with_reducible refine (contains_any (S := hit m X (grd m X)) (a := k) (Lib.hid rfl) (hit_len40 m X (grd m X)) ?_).mono ?_); (focus (first | exact hrt | exact hrt.drewN 1)); rintro e u7 ⟨rfl, rfl⟩; rw [K3.out]))
              | (go_at_call 19; ((with_reducible refine (contains_any (S := opns m X) (a := k) (Lib.hid rfl) (opns_len40 m X) (‹_ ∧ _ ∧ _ ∧ GH _ _ _ _ _ _ _ _ _ _ _ _ _ _›).2.2.2.op).mono ?_); rintro e u7 ⟨rfl, rfl⟩; rw [K4.out]))
              | (go_at_call 20; refine ((‹_ ∧ _ ∧ _ ∧ GH _ _ _ _ _ _ _ _ _ _ _ _ _ _›).2.2.2.atks hX (k : Int)).mono ?_; rintro e u9 ⟨tv, rfl, hrow2, r2⟩; obtain ⟨At2, ct2, rfl, hrt2, _, _⟩ := hrow2.rd (n := _) ((ivs_len _).trans HT.out); have hg2 := (‹_ ∧ _ ∧ _ ∧ GH _ _ _ _ _ _ _ _ _ _ _ _ _ _›).2.2.2.new r2; obtain ⟨c4, c5⟩ := hg2.bx.two; have c6 := (r2.cell (cell_lt (‹_ ∧ _ ∧ _ ∧ GH _ _ _ _ _ _ _ _ _ _ _ _ _ _›).2.2.1)).trans (‹_ ∧ _ ∧ _ ∧ GH _ _ _ _ _ _ _ _ _ _ _ _ _ _›).2.2.1))
          clear c1 c2 c3 c4 c5 c6 hg1 hrt hrt2 D0 D1 D2 r r2
          go_wp2_with fail
          go_roundw
          case rel => exact ⟨k + 1, by omega, by go_num, hg2⟩
          case measure =>
            simp [intOf]
            omega
      · go_wp2_with fail
        refine (drawComplete (h8.below hd.hb)).mono ?_
        rintro e w5 ⟨M, Y, v, zs, u, P, hok, hzl, rfl, hM1, hM2, hown, hrow, hb5⟩
        obtain ⟨A2, c2, rfl, _, _, _⟩ := hown.rd (n := Y.length) rfl
        obtain ⟨A3, c3, rfl, hrd, hcs, hcm⟩ := hrow.rd (n := zs.length) (ivs_len _)
        have hb6 := hd.hb.trans (hb5.mono hd.hb.size)
        have k2 : Below w5.heap.size w5 (w5.alloc (Obj.cells #[Value.int .i64 M, .slice A2 Y.length c2] 26)) := (Below.refl _ _).alloc (Nat.le_refl _) _
        have hx : FH W w5.heap.size M A2 A3 Y.length c2 zs.length c3 Y zs _ := ⟨Bx.made w5 26 #[Value.int .i64 M, .slice A2 Y.length c2], rdSS_new (hown.wide (Nat.le_refl _) hM2).rd' k2, rd_new hrd k2, hb6.trans (k2.mono hb6.size)⟩
        have hY := Lib.hid hok.1
        have hZ := Lib.hid hzl
        obtain ⟨w6, hw6⟩ : ∃ z : World, z = w5.alloc (Obj.cells #[Value.int .i64 M, .slice A2 Y.length c2] 26) := ⟨_, rfl⟩
        rw [← hw6] at hx
        have HW6 := Lib.hid hw6.symm
        obtain ⟨x, hxe⟩ : ∃ x, x = w5.heap.size := ⟨_, rfl⟩
        rw [← hxe] at hx
        have HX := Lib.hid hxe.symm
        clear D0 D1
        obtain ⟨D0, D1⟩ := hx.bx.two
        clear hw6 k2 hown hrow hb5 hb6 hok hzl hrd hM1 hM2 hxe hd
        obtain ⟨b, hb⟩ : ∃ b, compB M Y zs = b := ⟨_, rfl⟩
        have HCB := Lib.hid hb
        clear hb
        go_wp2_with fail
        rw [HW6.out, HX.out]
        clear HW6 HX
        refine (hx.comp hY hZ HCB).mono ?_
        rintro e w7 ⟨rfl, r⟩
        replace hx := hx.new r
        clear D0 D1 r
        obtain ⟨D0, D1⟩ := hx.bx.two
        cases b with
        | false =>
          go_wp2_with fail
          go_ret
          exact ⟨rfl, hx.hb⟩
        | true =>
          go_wp2_with fail
          refine (hx.grd hY).mono ?_
          rintro e w8 ⟨sv, rfl, hrow, r⟩
          obtain ⟨A5, c5, rfl, hrd, _, _⟩ := hrow.rd (n := (grd M Y).length) (ivs_len _)
          replace hx := hx.new r
          clear D0 D1 r hrow
          obtain ⟨D0, D1⟩ := hx.bx.two
          go_wp2_with fail
          refine (within_any (S := grd M Y) (T := zs) (Lib.hid rfl) (grd_len40 M Y) (Lib.hid rfl) (by have := hZ.out; omega) hrd hx.se).mono ?_
          rintro e w9 ⟨rfl, rfl⟩
          rw [grd_least (comp_gB HCB.out) HCB.out]
          go_wp2_with fail
          go_ret
          exact ⟨rfl, hx.hb⟩
end Go.Proofs.Ytpopcjamildhkaa
