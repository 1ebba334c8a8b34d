/- Mathematics of the standing of teams (befB, cmpT) and of their sides (sidP). No conditions. -/
import Derived.Test.YthkigilegnjglaaMg16
import Derived.Test.YthkigilegnjglaaOrN
import Derived.Test.YthkigilegnjglaaCmp
namespace Go.Proofs.Ythkigilegnjglaa
open Go.ChangeShapes Go.WideShapes Go.ChangeAt Go.RowKit
/-- x comes before y. -/
def befB (x y : Tm) : Bool := if x.wins = y.wins then (decide (y.pts < x.pts) || (decide (x.pts = y.pts) && decide (x.id < y.id))) else decide (y.wins < x.wins)
def cmpT (x y : Tm) : Int := orI [cmpI y.wins x.wins, cmpI y.pts x.pts, cmpI x.id y.id]
theorem cmpT_neg {x y : Tm} : cmpT x y < 0 ↔ befB x y = true := by
  unfold cmpT befB cmpI
  rw [orI_cons, orI_cons, orI_cons]
  by_cases h1 : y.wins < x.wins
  · rw [if_pos h1, if_neg (by omega), if_neg (show ¬ x.wins = y.wins by omega)]; simp [h1]
  · rw [if_neg h1]
    by_cases h2 : x.wins < y.wins
    · rw [if_pos h2, if_neg (by omega), if_neg (show ¬ x.wins = y.wins by omega)]; simp [h1]
    · rw [if_neg h2, if_pos rfl, if_pos (show x.wins = y.wins by omega)]
      by_cases h3 : y.pts < x.pts
      · rw [if_pos h3, if_neg (by omega)]; simp [h3]
      · rw [if_neg h3]
        by_cases h4 : x.pts < y.pts
        · rw [if_pos h4, if_neg (by omega)]; simp [h3]; omega
        · rw [if_neg h4, if_pos rfl]
          have e : x.pts = y.pts := by omega
          by_cases h5 : x.id < y.id
          · rw [if_pos h5, if_neg (by omega)]; simp [h5, e]
          · rw [if_neg h5]
            by_cases h6 : y.id < x.id
            · rw [if_pos h6, if_neg (by omega)]; simp [h5, e]
            · rw [if_neg h6, if_pos rfl]; simp [orI, h5, e]
theorem cmpT_pos {x y : Tm} : 0 < cmpT x y ↔ befB y x = true := by
  unfold cmpT befB cmpI
  rw [orI_cons, orI_cons, orI_cons]
  by_cases h1 : y.wins < x.wins
  · rw [if_pos h1, if_neg (by omega), if_neg (show ¬ y.wins = x.wins by omega)]; simp; omega
  · rw [if_neg h1]
    by_cases h2 : x.wins < y.wins
    · rw [if_pos h2, if_neg (by omega), if_neg (show ¬ y.wins = x.wins by omega)]; simp [h2]
    · rw [if_neg h2, if_pos rfl, if_pos (show y.wins = x.wins by omega)]
      by_cases h3 : y.pts < x.pts
      · rw [if_pos h3, if_neg (by omega)]; simp; omega
      · rw [if_neg h3]
        by_cases h4 : x.pts < y.pts
        · rw [if_pos h4, if_neg (by omega)]; simp [h4]
        · rw [if_neg h4, if_pos rfl]
          have e : y.pts = x.pts := by omega
          by_cases h5 : x.id < y.id
          · rw [if_pos h5, if_neg (by omega)]; simp [e]; omega
          · rw [if_neg h5]
            by_cases h6 : y.id < x.id
            · rw [if_pos h6, if_neg (by omega)]; simp [h6, e]
            · rw [if_neg h6, if_pos rfl]; simp [orI, h6, e]
/-- With other Ids one of two comes first. -/
theorem bef_tot {x y : Tm} (h : x.id ≠ y.id) : befB y x = !befB x y := by
  unfold befB
  by_cases h1 : x.wins = y.wins
  · rw [if_pos h1, if_pos h1.symm]
    by_cases h2 : y.pts < x.pts
    · rw [decide_eq_true h2, decide_eq_false (show ¬ x.pts < y.pts by omega), decide_eq_false (show ¬ y.pts = x.pts by omega)]; rfl
    · by_cases h3 : x.pts < y.pts
      · rw [decide_eq_true h3, decide_eq_false h2, decide_eq_false (show ¬ x.pts = y.pts by omega)]; rfl
      · have e : x.pts = y.pts := by omega
        rw [decide_eq_false h2, decide_eq_false h3, decide_eq_true e, decide_eq_true e.symm]
        by_cases h4 : x.id < y.id
        · rw [decide_eq_true h4, decide_eq_false (show ¬ y.id < x.id by omega)]; rfl
        · rw [decide_eq_false h4, decide_eq_true (show y.id < x.id by omega)]; rfl
  · rw [if_neg h1, if_neg (fun e => h1 e.symm)]
    by_cases h2 : x.wins < y.wins
    · rw [decide_eq_true h2, decide_eq_false (show ¬ y.wins < x.wins by omega)]; rfl
    · rw [decide_eq_false h2, decide_eq_true (show y.wins < x.wins by omega)]; rfl
/-- The sides of two teams, the one that comes first in the standing given first. -/
def sidP (x y : Tm) : Int × Int := if y.firsts < x.firsts then (y.id, x.id) else (x.id, y.id)
/-- Two teams may meet. -/
def canT (x y : Tm) : Bool := decide (x.club ≠ y.club) && !(y.id ∈ x.met)
end Go.Proofs.Ythkigilegnjglaa
