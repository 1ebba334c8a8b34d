/- Two values of type attackRows are compared. -/
import Derived.Test.YtdpaoaoipnoiiaaBits
import Derived.ChangeKeysEq
import Derived.Laws.StructEq
namespace Go.Proofs.Ytdpaoaoipnoiiaa
open Go.ChangeShapes Go.WideShapes Go.ChangeAt Go.RowKit
set_option maxRecDepth 100000
def sameR (f g : Nat → Nat) : List Nat → Bool
  | [] => true
  | k :: ks => if f k == g k then sameR f g ks else false
theorem sameR_refl (f : Nat → Nat) : ∀ ks, sameR f f ks = true
  | [] => rfl
  | k :: ks => by unfold sameR; simp [sameR_refl f ks]
theorem sameR_no {f g : Nat → Nat} {p : Nat} (h : f p ≠ g p) : ∀ {ks : List Nat}, p ∈ ks → sameR f g ks = false
  | [], hm => by simp at hm
  | k :: ks, hm => by
    unfold sameR
    rcases List.mem_cons.1 hm with rfl | hm
    · simp [h]
    · split
      · exact sameR_no h hm
      · rfl
end Go.Proofs.Ytdpaoaoipnoiiaa
