/- Mathematics of MayJudge (mjO, mjB). No conditions. -/
import Derived.Test.YthkigilegnjglaaMg9
import Derived.Test.YthkigilegnjglaaJugMath
namespace Go.Proofs.Ythkigilegnjglaa
open Go.ChangeShapes Go.WideShapes Go.ChangeAt Go.RowKit
def tmC (X : List Tm) (v : Int) : Int := (X.getD v.toNat tmD).club
/-- The judge may judge the first team with this Id, as far as that team goes. -/
def mjO (X : List Tm) (j : Jd) (a : Int) : Bool := match fndO X a with | none => false | some v => decide (tmC X v ≠ j.club) && !(j.seen.contains a)
def mjB (X : List Tm) (j : Jd) (p q : Int) : Bool := mjO X j p && mjO X j q
theorem mjO_none {X : List Tm} {j : Jd} {a : Int} (h : fndO X a = none) : mjO X j a = false := by unfold mjO; rw [h]
theorem mjO_club {X : List Tm} {j : Jd} {a v : Int} {x : Tm} (h : fndO X a = some v) (hx : X.getD v.toNat tmD = x) (h2 : x.club = j.club) : mjO X j a = false := by
  unfold mjO tmC; rw [h]; simp only [hx, h2]; simp
theorem mjO_seen {X : List Tm} {j : Jd} {a v : Int} (h : fndO X a = some v) (h2 : j.seen.contains a = true) : mjO X j a = false := by
  unfold mjO; rw [h]; simp only [h2]; simp
theorem mjO_yes {X : List Tm} {j : Jd} {a v : Int} {x : Tm} (h : fndO X a = some v) (hx : X.getD v.toNat tmD = x) (h2 : x.club ≠ j.club) (h3 : j.seen.contains a = false) : mjO X j a = true := by
  unfold mjO tmC; rw [h]; simp only [hx, h3]; simp [h2]
theorem mjB_l {X : List Tm} {j : Jd} {p q : Int} (h : mjO X j p = false) : mjB X j p q = false := by unfold mjB; rw [h, Bool.false_and]
theorem mjB_r {X : List Tm} {j : Jd} {p q : Int} (h : mjO X j q = false) : mjB X j p q = false := by unfold mjB; rw [h, Bool.and_false]
theorem mjB_y {X : List Tm} {j : Jd} {p q : Int} (h : mjO X j p = true) (h2 : mjO X j q = true) : mjB X j p q = true := by unfold mjB; rw [h, h2]; rfl
theorem tmG {X : List Tm} {i : Nat} (h : i < X.length) : X.getD (i : Int).toNat tmD = X[i] := by simp [List.getD, List.getElem?_eq_getElem h]
theorem alloc_m (w : World) (o : Obj) : Below w.heap.size w (w.alloc o) := (Below.refl _ _).alloc (Nat.le_refl _) o
theorem nwc5 {w w' : World} {p : Addr} {v : Value} (r : Below w.heap.size w w') (h : w.cell? p = some v) : w'.cell? p = some v := (r.cell (p := p) (cell_lt h)).trans h
end Go.Proofs.Ythkigilegnjglaa
