/- A plain word on lists of integers. No conditions. -/
import Derived.Test.YtdhnhhicjjcmdaaIntS
namespace Go.Proofs.Ytdhnhhicjjcmdaa
theorem ivs_sn (L : List Int) (x : Int) : ivs (L ++ [x]) = ivs L ++ [.int .i64 x] := by simp [ivs]
end Go.Proofs.Ytdhnhhicjjcmdaa
