/- Contract of the code's IsStable. No conditions but that the slices have at most 2^40 elements. -/
import Derived.Test.YtpopcjamildhkaaFreeD
namespace Go.Proofs.Ytpopcjamildhkaa
open Go.ChangeShapes Go.WideShapes Go.ChangeAt Go.RowKit
set_option maxRecDepth 100000
section
variable {w : World} {A A' : Option Addr} {n c n' c' : Nat} {N : Int} {X : List (List Int)} {S : List Int} (hl : Hid (X.length = n)) (hn : n ≤ 1099511627776) (hr : RdSS w w.heap.size A X) (hl' : Hid (S.length = n')) (hn' : n' ≤ 1099511627776) (hr' : Rd w w.heap.size A' (ivs S))
include hl hn hr hl' hn' hr'
end
end Go.Proofs.Ytpopcjamildhkaa
