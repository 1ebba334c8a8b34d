/- Contract of slices.Clone. Condition: the slice has at most 2^40 elements. -/
import Derived.Test.YtobghogkflgpeaaMg4
import Derived.Test.YtobghogkflgpeaaMg2
import Derived.Lib.SliceRun
import Derived.Test.YtobghogkflgpeaaCopyM
namespace Go.Proofs.Ytobghogkflgpeaa
open Go.ChangeShapes Go.WideShapes Go.ChangeAt Go.RowKit
set_option maxRecDepth 100000
end Go.Proofs.Ytobghogkflgpeaa

/- Contract of the code's copyOfGraph. Condition: the slices have at most 2^40 elements. -/
namespace Go.Proofs.Ytobghogkflgpeaa
open Go.ChangeShapes Go.WideShapes Go.ChangeAt Go.RowKit
set_option maxRecDepth 100000
theorem rdD {w : World} {A : Option Addr} {xs : List Value} (h : Rd w w.heap.size A xs) : Rd w.drew w.drew.heap.size A xs := h
end Go.Proofs.Ytobghogkflgpeaa
