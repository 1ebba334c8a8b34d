/- Contract of the model of AddAttack. Condition: the slices have at most 2^40 - 1 elements. -/
import Derived.Test.YtdpaoaoipnoiiaaAddM
import Derived.Test.YtdpaoaoipnoiiaaAddN
namespace Go.Proofs.Ytdpaoaoipnoiiaa
open Go.ChangeShapes Go.WideShapes Go.ChangeAt Go.RowKit
end Go.Proofs.Ytdpaoaoipnoiiaa
