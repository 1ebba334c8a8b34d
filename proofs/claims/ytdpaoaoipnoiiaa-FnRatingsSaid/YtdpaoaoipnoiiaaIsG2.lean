/- Contract of IsGraph's code. No conditions but that the slices have at most 2^40 elements. -/
import Derived.Test.YtdpaoaoipnoiiaaIsG
namespace Go.Proofs.Ytdpaoaoipnoiiaa
open Go.ChangeShapes Go.WideShapes Go.ChangeAt Go.RowKit
end Go.Proofs.Ytdpaoaoipnoiiaa
