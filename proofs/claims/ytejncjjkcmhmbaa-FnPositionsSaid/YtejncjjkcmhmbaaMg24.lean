/- Contract of the model of Labels. No conditions but that the slices have at most 2^40 elements. -/
import Derived.Test.YtejncjjkcmhmbaaMg21
import Derived.Test.YtejncjjkcmhmbaaMg17
import Derived.Test.YtejncjjkcmhmbaaMg23
namespace Go.Proofs.Ytejncjjkcmhmbaa
open Go.ChangeShapes Go.WideShapes Go.ChangeAt Go.RowKit
set_option maxRecDepth 100000
theorem StringS_info : (Try.prog.info? 9).map (fun i => (i.zero, i.size, i.bytes)) = some (some (.string ByteArray.empty), 1, 16) := by kernel_rfl
def svs (zs : List ByteArray) : List Value := zs.map Value.string
theorem svs_len (zs : List ByteArray) : (svs zs).length = zs.length := by simp [svs]
theorem svs_snoc (zs : List ByteArray) (x : ByteArray) : svs zs ++ [Value.string x] = svs (zs ++ [x]) := by simp [svs]
def lab (N : Int) (X : List (List Int)) (k : Nat) : ByteArray :=
  if (grd N X).contains (k : Int) then ⟨#[105, 110]⟩ else if (hit N X (grd N X)).contains (k : Int) then ⟨#[111, 117, 116]⟩ else ⟨#[111, 112, 101, 110]⟩
def labT (N : Int) (X : List (List Int)) (k : Nat) : List ByteArray := (List.range k).map (lab N X)
/-- The labels of a graph's claims. -/
def labs (N : Int) (X : List (List Int)) : List ByteArray := if gB N X then labT N X N.toNat else []
theorem labT_succ (N : Int) (X : List (List Int)) (k : Nat) : labT N X (k + 1) = labT N X k ++ [lab N X k] := by simp [labT, List.range_succ]
theorem labT_len (N : Int) (X : List (List Int)) (k : Nat) : (labT N X k).length = k := by simp [labT]
theorem grd_len (N : Int) (X : List (List Int)) : (grd N X).length ≤ 10 := it_len10 N X 10
/-- One element is appended: which block alone may turn, and which block the row then has. -/
theorem wpList_app2 {P : Program} {w : World} {ops : Array Oper} {rest : List Oper} {o : Oper} {a : Act} {Q : Exit → Act → World → Prop} (hgd : o.guard = none) (s x : Operand) (t : TypeId)
    (ho : o.op = .call { callee := .builtin .append, args := #[s, x], argTypes := #[t, t] })
    (e : TypeId) (i : TypeInfo) (z : Value) (bytes : Nat) (ht : P.underlying t = some (.slice e)) (hi : P.info? e = some i) (hz : i.zero = some z) (hsize : i.size = 1) (hby : i.bytes = bytes) (hzs : z.cells.size = 1)
    {lo hi' B m c : Nat} {v : Value} {xs news : List Value} {ad : Addr} (hs : a.eval s = v) (hx : a.eval x = .slice (some ad) m c) (hrow : Row w lo hi' e v xs) (hm : news.length = m) (hr : Rd w B (some ad) news) (h1 : ∀ u ∈ news, u.oneCell' = true)
    (h63 : xs.length + m ≤ maxLen) (hbytes : (xs.length + m) * bytes ≤ 140737488355328) (hlo : lo ≤ w.heap.size)
    (K : ∀ v' w', Row w' lo w'.heap.size e v' (xs ++ news) → w.heap.size ≤ w'.heap.size → Below lo w w' → (∀ b, b < w.heap.size → v.ownBlock ≠ some b → w'.heap[b]? = w.heap[b]?) → (∀ b, v'.ownBlock = some b → v.ownBlock = some b ∨ b = w.heap.size) → wpList P ops Q rest (a.put o.dst v') w') : wpList P ops Q (o :: rest) a w := by
  obtain ⟨v', w', hrun, h2, h3⟩ := run_app (P := P) t o.type e i z bytes ht hi hz hsize hby hzs (c := c) hrow hm hr h1 h63 hbytes hlo
  obtain ⟨v2, w2, hrun2, _, b2, _, b4⟩ := run_append_own_at (P := P) w lo t o.type e i z 1 bytes ht hi hz hsize hby hzs (by omega) v xs.length xs hrow.1 ad m c news (by omega) (fun j u hu => by
    obtain ⟨ad', e1, _, hc⟩ := hr j u hu
    injection e1 with e1
    subst e1
    exact hc) h1 h63 hbytes hlo
  rw [hrun] at hrun2
  injection hrun2 with e1 e2
  subst e1
  subst e2
  refine wpList_plain hgd fun K' hK' => ?_
  unfold Oper.wp
  simp [execOp, ho, resolve, invoke, builtin, hs, hx, hrun, Result.andThen]
  refine hK' _ _ (K v' w' h2 b2.size ?_ (fun b hb hv => b2.block b hb (fun e => hv e.symm)) (fun b hb => ?_))
  · exact (Below.refl lo w).grown b2 hlo (fun k hk => by
      rcases hrow.1.2 with ⟨rfl, _⟩ | ⟨g, cap, cur, rfl, hg, _⟩
      · simp [Value.ownBlock] at hk
      · have : g = k := by simpa [Value.ownBlock] using hk
        omega)
  · rcases b4 with b4 | b4
    · exact .inl (b4 ▸ hb)
    · rw [b4] at hb
      injection hb with hb
      exact .inr hb.symm
end Go.Proofs.Ytejncjjkcmhmbaa

/- Contracts of the draws of chapter 6: DrawIsGraph, DrawGrounded, DrawIsComplete. Condition: the code's bytes lie in old memory. -/
namespace Go.Proofs.Ytejncjjkcmhmbaa
open Go.ChangeShapes Go.WideShapes Go.ChangeAt Go.RowKit
set_option maxRecDepth 100000
/-- A graph was drawn; nothing old has turned. -/
def DrewGr (w : World) (e : Ending) (w' : World) : Prop :=
  ∃ (N : Int) (X : List (List Int)) (v : Value), GOK 10 X ∧ e = .returned (.agg #[.int .i64 N, v]) ∧ OwnSS w' w.heap.size w'.heap.size v X ∧ Below w.heap.size w w'
theorem drawGraph {w : World} {A : Option Addr} {n c : Nat} (h : Code8 w A n) :
    Calls Try.prog 83 #[.slice A n c] w (DrewGr w) := by
  have br0 := Bx.made w 27 #[Value.int .i64 0, .slice none 0 0]
  have hb0 : Below w.heap.size w (w.alloc (Obj.cells #[Value.int .i64 0, .slice none 0 0] 27)) := (Below.refl _ _).alloc (Nat.le_refl _) _
  have h0 := h.below hb0
  have hs0 : (w.alloc (Obj.cells #[Value.int .i64 0, .slice none 0 0] 27)).heap.size = w.heap.size + 1 := by simp
  go_enter Try.func83, Try.ntmps83
  go_wp2_with fail
  refine (new_any h0).mono ?_
  rintro e w1 ⟨rfl, hb1, cur1⟩
  have br1 := br0.new hb1
  have hz1 := hb1.size
  have hbw1 := hb0.trans (hb1.mono hb0.size)
  rw [hs0] at hz1 cur1 ⊢
  clear br0 hb0 h0 hs0 hb1
  go_wp2_with fail
  refine (any4_any cur1).mono ?_
  rintro e w2 ⟨N, X, v, _, hok, rfl, hown2, hg2, _⟩
  obtain ⟨Av, cv, rfl, _, _, _⟩ := hown2.rd (n := X.length) rfl
  have br2 := br1.only hg2 (by omega)
  have hbw2 := cur_below hbw1 hg2 (by omega)
  have hz2 := hg2.size
  obtain ⟨R0, R1⟩ := br2.two
  have r0 := br2.free 0
  have r1 := br2.free 1
  have hHB := Lib.hid br2
  have HOK := Lib.hid hok
  clear br1 hbw1 br2 hok cur1
  go_wp2_with fail
  have br2 := hHB.out
  refine bodyPost_ret (resGR rfl ((br2.set 0 _).set 1 _) rfl rfl) rfl ⟨N, X, _, HOK.out, rfl, ?_, (hbw2.setCell (p := ⟨w.heap.size, 0, none⟩) (Nat.le_refl _) _).setCell (p := ⟨w.heap.size, 1, none⟩) (Nat.le_refl _) _⟩
  exact ((hown2.setFar (p := ⟨w.heap.size, 0, none⟩) (.inl (by simp; omega)) _).setFar (p := ⟨w.heap.size, 1, none⟩) (.inl (by simp; omega)) _).wide (by omega) (by simp)
end Go.Proofs.Ytejncjjkcmhmbaa

/- Contract of the code's IsStable. No conditions but that the slices have at most 2^40 elements. -/
namespace Go.Proofs.Ytejncjjkcmhmbaa
open Go.ChangeShapes Go.WideShapes Go.ChangeAt Go.RowKit
set_option maxRecDepth 100000
section
variable {w : World} {A A' : Option Addr} {n c n' c' : Nat} {N : Int} {X : List (List Int)} {S : List Int} (hl : Hid (X.length = n)) (hn : n ≤ 1099511627776) (hr : RdSS w w.heap.size A X) (hl' : Hid (S.length = n')) (hn' : n' ≤ 1099511627776) (hr' : Rd w w.heap.size A' (ivs S))
include hl hn hr hl' hn' hr'
end
end Go.Proofs.Ytejncjjkcmhmbaa
