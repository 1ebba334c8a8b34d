/- The cells of a box of two, three or four cells, over any program. No conditions. -/
import Derived.Test.YtdhnhhicjjcmdaaBits
namespace Go.Proofs.Ytdhnhhicjjcmdaa
open Go.ChangeShapes Go.WideShapes Go.ChangeAt Go.RowKit
theorem Bx.k2 {w : World} {g : Nat} {t : TypeId} {a b : Value} (h : Bx w g t #[a, b]) : w.cell? ⟨g, 0, none⟩ = some a ∧ w.cell? ⟨g, 1, none⟩ = some b := ⟨h.at_ (k := 0) rfl, h.at_ (k := 1) rfl⟩
theorem Bx.k3 {w : World} {g : Nat} {t : TypeId} {a b c : Value} (h : Bx w g t #[a, b, c]) : w.cell? ⟨g, 0, none⟩ = some a ∧ w.cell? ⟨g, 1, none⟩ = some b ∧ w.cell? ⟨g, 2, none⟩ = some c := ⟨h.at_ (k := 0) rfl, h.at_ (k := 1) rfl, h.at_ (k := 2) rfl⟩
theorem Bx.k4 {w : World} {g : Nat} {t : TypeId} {a b c d : Value} (h : Bx w g t #[a, b, c, d]) : w.cell? ⟨g, 0, none⟩ = some a ∧ w.cell? ⟨g, 1, none⟩ = some b ∧ w.cell? ⟨g, 2, none⟩ = some c ∧ w.cell? ⟨g, 3, none⟩ = some d := ⟨h.at_ (k := 0) rfl, h.at_ (k := 1) rfl, h.at_ (k := 2) rfl, h.at_ (k := 3) rfl⟩
theorem row_cap {w : World} {lo hi n c : Nat} {t : TypeId} {A : Option Addr} {xs : List Value} (h : Row w lo hi t (.slice A n c) xs) (hn : xs.length = n) : n ≤ c ∧ c ≤ maxLen := by
  obtain ⟨A', c', e, _, h1, h2⟩ := h.rd hn
  injection e with e1 e2 e3
  subst e3
  exact ⟨h1, h2⟩
end Go.Proofs.Ytdhnhhicjjcmdaa
