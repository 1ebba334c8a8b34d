/- What the laws of chapters 5 and 6 keep at hand from call to call: a graph in a block of its own, and a row of numbers. Condition: none. -/
import Derived.Test.YtejncjjkcmhmbaaMg17
import Derived.Test.YtejncjjkcmhmbaaMg24
import Derived.Test.YtejncjjkcmhmbaaFreeSum
namespace Go.Proofs.Ytejncjjkcmhmbaa
open Go.ChangeShapes Go.WideShapes Go.ChangeAt Go.RowKit
set_option maxRecDepth 100000
structure FH (W : World) (g : Nat) (N : Int) (A As : Option Addr) (n c m cs : Nat) (X : List (List Int)) (S : List Int) (w : World) : Prop where
  bx : Bx w g 27 #[.int .i64 N, .slice A n c]
  gr : RdSS w w.heap.size A X
  se : Rd w w.heap.size As (ivs S)
  hb : Below W.heap.size W w
theorem FH.new {W : World} {g : Nat} {N : Int} {A As : Option Addr} {n c m cs : Nat} {X : List (List Int)} {S : List Int} {w w' : World} (h : FH W g N A As n c m cs X S w) (r : Below w.heap.size w w') : FH W g N A As n c m cs X S w' :=
  ⟨h.bx.new r, rdSS_new h.gr r, rd_new h.se r, h.hb.trans (r.mono h.hb.size)⟩
theorem FH.drew {W : World} {g : Nat} {N : Int} {A As : Option Addr} {n c m cs : Nat} {X : List (List Int)} {S : List Int} {w : World} (h : FH W g N A As n c m cs X S w) : FH W g N A As n c m cs X S w.drew := h.new ((Below.refl _ _).drew)
section
variable {W : World} {g : Nat} {N : Int} {A As : Option Addr} {c cs : Nat} {X : List (List Int)} {S : List Int} {w : World} (h : FH W g N A As X.length c S.length cs X S w) (hX : Hid (X.length ≤ 10)) (hS : Hid (S.length ≤ 13)) {b : Bool}
include h hX hS
theorem FH.free (hb : Hid (freeB N X S = b)) : Calls Try.prog 91 #[.agg #[.int .i64 N, .slice A X.length c], .slice As S.length cs] w (Tells b w) := by
  rw [← hb.out]
  exact impIsFree_any (Lib.hid rfl) (by have := hX.out; omega) h.gr (Lib.hid rfl) (by have := hS.out; omega) h.se
end
end Go.Proofs.Ytejncjjkcmhmbaa
