/- Contract of the model of AddAttack. Condition: the slices have at most 2^40 - 1 elements. -/
import Derived.Test.YtdpaoaoipnoiiaaAddC
namespace Go.Proofs.Ytdpaoaoipnoiiaa
open Go.ChangeShapes Go.WideShapes Go.ChangeAt Go.RowKit
set_option maxRecDepth 100000
end Go.Proofs.Ytdpaoaoipnoiiaa
