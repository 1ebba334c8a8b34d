/- Contracts of the code's copyOfLists and of the model's l12Copy. Condition: the slices have at most 2^40 elements. -/
import Derived.Test.YtdpaoaoipnoiiaaPickSS
import Derived.Test.YtdpaoaoipnoiiaaClone
import Derived.Test.YtdpaoaoipnoiiaaGrow
namespace Go.Proofs.Ytdpaoaoipnoiiaa
open Go.ChangeShapes Go.WideShapes Go.ChangeAt Go.RowKit
set_option maxRecDepth 100000
theorem OwnSS.made0 (w : World) : OwnSS (w.alloc (Obj.cells #[] 29)) w.heap.size (w.alloc (Obj.cells #[] 29)).heap.size (.slice (some ⟨w.heap.size, 0, none⟩) 0 0) [] := by
  have h := Row.made (w := w) w.heap.size #[] 0 29 (Nat.le_refl _) rfl (Nat.zero_le _)
  have h1 := h.1
  refine ⟨[w.heap.size], ⟨.slice (some ⟨w.heap.size, 0, none⟩) 0 0, [], rfl, rfl, ⟨h1.1, ?_⟩, rfl, by simp, by simp, by simp⟩, by simp, by simp⟩
  rcases h1.2 with hn | ⟨g, cap, cur, e, hb, rest⟩
  · exact .inl hn
  · exact .inr ⟨g, cap, cur, e, Nat.zero_le _, rest⟩
end Go.Proofs.Ytdpaoaoipnoiiaa
