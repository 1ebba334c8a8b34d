/- Contract of the model IsPartOf. Condition: the slices have at most 2^40 elements. -/
import Derived.Test.YtjhknafajfpldaaDoorPartC
import Derived.Test.YtjhknafajfpldaaDoorMg20
namespace Go.Proofs.YtjhknafajfpldaaDoor
open Go.ChangeShapes Go.WideShapes Go.ChangeAt Go.RowKit
set_option maxRecDepth 100000
theorem four_new {W w' : World} {g h : Nat} {t t' : TypeId} {a b a' b' : Value} (k : Bx W g t #[a, b]) (k' : Bx W h t' #[a', b']) (hb : Below W.heap.size W w') : Below W.heap.size W w' ∧ w'.cell? ⟨g, 0, none⟩ = some a ∧ w'.cell? ⟨g, 1, none⟩ = some b ∧ w'.cell? ⟨h, 0, none⟩ = some a' ∧ w'.cell? ⟨h, 1, none⟩ = some b' :=
  ⟨hb, (k.new hb).two.1, (k.new hb).two.2, (k'.new hb).two.1, (k'.new hb).two.2⟩
theorem rdSS_nw {a b : World} {A : Option Addr} {X : List (List Int)} (h : RdSS a a.heap.size A X) (hb : Below a.heap.size a b) : RdSS b b.heap.size A X := (h.below hb).more hb.size
theorem part_no {m q : Nat} {X Y : List (List Int)} {i k : Nat} (hi : i < m) (hk : k < m) (h : dA m X i k ≠ dA q Y i k) : partB m X q Y = false := by
  rw [← Bool.not_eq_true]
  intro hp
  unfold partB at hp
  rw [Bool.and_eq_true] at hp
  have h1 := List.all_eq_true.1 hp.2 i (by simpa using hi)
  have h2 := List.all_eq_true.1 h1 k (by simpa using hk)
  exact h (by simpa using h2)
theorem part_yes {m q : Nat} {X Y : List (List Int)} (hX : gB m X = true) (hY : gB q Y = true) (hmq : m ≤ q) (h : ∀ i < m, ∀ k < m, dA m X (i : Nat) (k : Nat) = dA q Y (i : Nat) (k : Nat)) : partB m X q Y = true := by
  unfold partB
  rw [hX, hY, decide_eq_true (by omega : (m : Int) ≤ q)]
  simp only [Bool.true_and, Int.toNat_natCast, List.all_eq_true, List.mem_range]
  intro i hi k hk
  rw [beq_iff_eq]
  exact h i hi k hk
section
variable {w : World} {A A' : Option Addr} {n c n' c' : Nat} {M N : Int} {X Y : List (List Int)}
end
end Go.Proofs.YtjhknafajfpldaaDoor
