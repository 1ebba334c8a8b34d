/- A plain word on lists of integers. No conditions. -/
import Derived.Test.YtdpaoaoipnoiiaaIntS
namespace Go.Proofs.Ytdpaoaoipnoiiaa
theorem ivs_sn (L : List Int) (x : Int) : ivs (L ++ [x]) = ivs L ++ [.int .i64 x] := by simp [ivs]
end Go.Proofs.Ytdpaoaoipnoiiaa
