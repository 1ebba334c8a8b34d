/- Contract of the code's IsPartOf. Condition: the slices have at most 2^40 elements. -/
import Derived.Test.YtjhknafajfpldaaDoorPartIA
import Derived.Test.YtjhknafajfpldaaDoorPartIB
import Derived.Test.YtjhknafajfpldaaDoorPartIC
import Derived.Test.YtjhknafajfpldaaDoorPartID
namespace Go.Proofs.YtjhknafajfpldaaDoor
open Go.ChangeShapes Go.WideShapes Go.ChangeAt Go.RowKit
set_option maxRecDepth 100000
section
variable {w : World} {A A' : Option Addr} {n c n' c' : Nat} {M N : Int} {X Y : List (List Int)}
theorem impIsPartOf_any (hl : Hid (X.length = n)) (hn : n ≤ 1099511627776) (hr : RdSS w w.heap.size A X) (hl' : Hid (Y.length = n')) (hn' : n' ≤ 1099511627776) (hr' : RdSS w w.heap.size A' Y) :
    Calls Tryd.prog 10 #[.agg #[.int .i64 M, .slice A n c], .agg #[.int .i64 N, .slice A' n' c']] w (Tells (partB M X N Y) w) := by
  by_cases hX : gB M X = true
  case neg => exact partOf_A hX hl hn hr hl' hn' hr'
  case pos =>
    have hX0 := hX
    obtain ⟨m, rfl, hm, _⟩ := gB_ok hX
    by_cases hY : gB N Y = true
    case neg => exact partOf_B hX0 hY hl hn hr hl' hn' hr'
    case pos =>
      have hY0 := hY
      obtain ⟨q, rfl, hq, _⟩ := gB_ok hY
      by_cases hmq : m ≤ q
      case neg => exact partOf_C hX0 hY0 hmq hl hn hr hl' hn' hr'
      case pos => exact partOf_D hm hq hX0 hY0 hmq hl hn hr hl' hn' hr'
end
end Go.Proofs.YtjhknafajfpldaaDoor
