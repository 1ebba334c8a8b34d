/- Contracts of the code's positions: positionOf, isFree, isPartOf, and two positions compared. Conditions: at most 10 claims, rows below 2^16. -/
import Derived.Test.YtejncjjkcmhmbaaMg20
import Derived.Test.YtejncjjkcmhmbaaMg9
import Derived.Test.YtejncjjkcmhmbaaVisMath
namespace Go.Proofs.Ytejncjjkcmhmbaa
open Go.ChangeShapes Go.WideShapes Go.ChangeAt Go.RowKit
set_option maxRecDepth 100000
/-- The cells of a position. -/
def psC (a b : Nat) : Array Value := #[.int .u16 (a : Int), .int .u16 (b : Int)]
theorem psC_lit (a b : Nat) : #[Value.int .u16 (a : Int), .int .u16 (b : Int)] = psC a b := rfl
theorem psC_zero : #[Value.int .u16 0, .int .u16 0] = psC 0 0 := rfl
theorem PS_info : (Try.prog.info? 98).map (·.size) = some 2 := by kernel_rfl
section
variable {w : World} {ops : Array Oper} {rest : List Oper} {o : Oper} {a : Act} {Q : Exit → Act → World → Prop} {cs : Array Value}
theorem ldPS (hgd : o.guard = none) (x : Operand) (ho : o.op = .load 98 x) {g : Nat} (h : Bx w g 98 cs) (hs : cs.size = 2) (hx : a.eval x = .pointer (some ⟨g, 0, none⟩)) (K : wpList Try.prog ops Q rest (a.put o.dst (.agg cs)) w) : wpList Try.prog ops Q (o :: rest) a w :=
  wpList_load_row hgd _ x ho g hx _ cs (0, 0) _ h Try.underlying98 rfl (by rw [PS_info, hs]) K
theorem stPS (hgd : o.guard = none) (x y : Operand) (ho : o.op = .store 98 x y) {g : Nat} {p q : Nat} (h : Bx w g 98 cs) (hs : cs.size = 2) (hx : a.eval x = .pointer (some ⟨g, 0, none⟩)) (hy : a.eval y = .agg (psC p q)) (K : wpList Try.prog ops Q rest (a.put o.dst undef) (w.setRow g (psC p q))) : wpList Try.prog ops Q (o :: rest) a w :=
  wpList_store_row hgd _ x y ho g (psC p q) hx hy _ cs h (by rw [PS_info]; rfl) (by rw [hs]; rfl) (by simp [psC, Value.oneCell']) K
theorem resPS {fn : Func} {p : Tmp} {tmps : Array Value} {g : Nat} (h : fn.results = #[.cell p 98]) (hb : Bx w g 98 cs) (hs : cs.size = 2) (hp : tmps.getD p undef = .pointer (some ⟨g, 0, none⟩)) : (results fn tmps).run Try.prog w = .ok (.agg cs) w :=
  results_cell_row h tmps w g _ cs (0, 0) _ hp hb Try.underlying98 rfl (by rw [PS_info, hs])
end
set_option maxHeartbeats 2000000 in
theorem positionOf_any {w : World} {n : Int} {f : Nat → Nat} {x : Nat} (hf : ∀ a, f a < 65536) (hx : x < 65536) :
    Calls Try.prog 125 #[.agg (arC n f), .int .u16 x] w (fun e w' => e = .returned (.agg (psC x (hB f x 10))) ∧ Below w.heap.size w w') := by
  have hb1 : Below w.heap.size w (w.alloc (Obj.cells (arC n f) 78)) := (Below.refl _ _).alloc (Nat.le_refl _) _
  have bx := Bx.made w 78 (arC n f)
  obtain ⟨W1, hW⟩ : ∃ u : World, u = w.alloc (Obj.cells (arC n f) 78) := ⟨_, rfl⟩
  have hs1 : W1.heap.size = w.heap.size + 1 := by rw [hW]; simp
  rw [← hW] at hb1 bx
  have hW' := hW.symm
  have hb2 : Below w.heap.size w (W1.alloc (Obj.cells (psC 0 0) 98)) := hb1.alloc (by omega) _
  have bp := Bx.made W1 98 (psC 0 0)
  have bx2 := bx.new ((Below.refl W1.heap.size W1).alloc (Nat.le_refl _) (Obj.cells (psC 0 0) 98))
  obtain ⟨W2, hW2⟩ : ∃ u : World, u = W1.alloc (Obj.cells (psC 0 0) 98) := ⟨_, rfl⟩
  have hs2 : W2.heap.size = w.heap.size + 2 := by rw [hW2]; simp [hs1]
  rw [← hW2] at hb2 bp bx2
  rw [← psC_zero] at hW2
  rw [hs1] at bp
  have hW2' := hW2.symm
  clear hW hW2 bx
  go_enter Try.func125, Try.ntmps125
  go_wp2_with (first | (refine ldAR rfl (.tmp 2) rfl bx2 rfl rfl ?_))
  refine (hitBits_any (n := n) (f := f) (x := x) hf hx).mono ?_
  rintro e w3 ⟨rfl, hb3⟩
  have bp3 := bp.new hb3
  have hb4 := hb2.trans (hb3.mono hb2.size)
  have hs3 := hb3.size
  clear hW' hW2'
  go_wp2_with (first | (refine stPS (p := x) (q := hB f x 10) rfl (.tmp 4) (.tmp 9) rfl bp3 rfl rfl rfl ?_))
  refine bodyPost_ret (resPS rfl (bp3.setRow (psC x (hB f x 10))) rfl rfl) rfl ⟨rfl, hb4.trans ((setRow_out w3 _ _ (Nat.le_refl _) (Nat.lt_succ_self _)).below (by omega) hb4.size)⟩
theorem u16_andz {a b : Nat} (ha : a < 65536) (hb : b < 65536) : (bits .and .u16 (a : Int) (b : Int) == 0) = ((a &&& b) == 0) := by
  rw [u16_and_nat _ _ ha hb, show (0 : Int) = ((0 : Nat) : Int) from rfl, Bool.eq_iff_iff, beq_iff_eq, beq_iff_eq]
  omega
theorem posFree_any {w : World} {a b : Nat} (ha : a < 65536) (hb : b < 65536) :
    Calls Try.prog 126 #[.agg (psC a b)] w (fun e w' => e = .returned (.bool ((a &&& b) == 0)) ∧ Below w.heap.size w w') := by
  have hb1 : Below w.heap.size w (w.alloc (Obj.cells (psC a b) 98)) := (Below.refl _ _).alloc (Nat.le_refl _) _
  have bx := Bx.made w 98 (psC a b)
  obtain ⟨W1, hW⟩ : ∃ u : World, u = w.alloc (Obj.cells (psC a b) 98) := ⟨_, rfl⟩
  rw [← hW] at hb1 bx
  have hW' := hW.symm
  obtain ⟨c0, c1⟩ := bx.two
  have HA := Lib.hid (u16_andz ha hb)
  clear hW bx
  go_enter Try.func126, Try.ntmps126
  go_wp2_with fail
  go_ret
  exact ⟨ret_b HA.out, hb1⟩
theorem u16_anz {a b : Nat} (ha : a < 65536) (hb : b < 65536) : (bits .andNot .u16 (a : Int) (b : Int) == 0) = (anB a b == 0) := by
  rw [u16_anB ha hb, show (0 : Int) = ((0 : Nat) : Int) from rfl, Bool.eq_iff_iff, beq_iff_eq, beq_iff_eq]
  omega
theorem posPart_any {w : World} {a b a' b' : Nat} (ha : a < 65536) (hb : a' < 65536) :
    Calls Try.prog 132 #[.agg (psC a b), .agg (psC a' b')] w (fun e w' => e = .returned (.bool (anB a a' == 0)) ∧ Below w.heap.size w w') := by
  have hb1 : Below w.heap.size w (w.alloc (Obj.cells (psC a b) 98)) := (Below.refl _ _).alloc (Nat.le_refl _) _
  have bx := Bx.made w 98 (psC a b)
  obtain ⟨W1, hW⟩ : ∃ u : World, u = w.alloc (Obj.cells (psC a b) 98) := ⟨_, rfl⟩
  have hs1 : W1.heap.size = w.heap.size + 1 := by rw [hW]; simp
  rw [← hW] at hb1 bx
  have hW' := hW.symm
  have hb2 : Below w.heap.size w (W1.alloc (Obj.cells (psC a' b') 98)) := hb1.alloc (by omega) _
  have bp := Bx.made W1 98 (psC a' b')
  have bx2 := bx.new ((Below.refl W1.heap.size W1).alloc (Nat.le_refl _) (Obj.cells (psC a' b') 98))
  obtain ⟨W2, hW2⟩ : ∃ u : World, u = W1.alloc (Obj.cells (psC a' b') 98) := ⟨_, rfl⟩
  rw [← hW2] at hb2 bp bx2
  rw [hs1] at bp
  have hW2' := hW2.symm
  obtain ⟨c0, c1⟩ := bx2.two
  obtain ⟨d0, d1⟩ := bp.two
  have HA := Lib.hid (u16_anz ha hb)
  clear hW hW2 bx bx2 bp
  go_enter Try.func132, Try.ntmps132
  go_wp2_with fail
  go_ret
  exact ⟨ret_b HA.out, hb2⟩
theorem PS_fields : (Try.prog.fieldsOf 98).toList.map (fun f => (f.name, f.type, f.offset)) = [("held", 75, 0), ("rejected", 75, 1)] := by
  kernel_rfl
/-- Two positions compared. -/
def psE (a b a' b' : Nat) : Bool := a == a' && b == b'
theorem u16_beq (a b : Nat) : ((a : Int) == (b : Int)) = (a == b) := by
  rw [Bool.eq_iff_iff, beq_iff_eq, beq_iff_eq]; omega
theorem psC_eql (a b a' b' : Nat) (w : World) : (binOp .eql 98 (.agg (psC a b)) (.agg (psC a' b'))).run Try.prog w = .ok (.bool (psE a b a' b')) w := by
  have u2 := Try.underlying75
  rw [run_eql_struct]
  rw [run_equalIn_agg w 9999 _ _ _ (by rw [Try.underlying98]; rfl) (by kernel_rfl)]
  have hm := PS_fields
  generalize (Try.prog.fieldsOf 98).toList = fs at hm ⊢
  have hl : fs.length = 2 := by have := congrArg List.length hm; simpa using this
  match fs, hl with
  | [f1, f2], _ =>
    simp only [List.map_cons, List.map_nil, List.cons.injEq, Prod.mk.injEq, and_true] at hm
    obtain ⟨⟨a1, a2, a3⟩, b1, b2, b3⟩ := hm
    have p2 : ∀ (cs : Array Value) (k : Nat) (v : Value) (w : World), cs[k]? = some v → (part 75 cs k).run Try.prog w = .ok v w := fun cs k v w h => by
      simp [part, isAgg, Sem.run_bind, run_underlying u2, h]
    have n1 : ("held" : String) ≠ "_" := by decide
    have n2 : ("rejected" : String) ≠ "_" := by decide
    have q0 : (psC a b)[0]? = some (.int .u16 (a : Int)) := rfl
    have q1 : (psC a b)[1]? = some (.int .u16 (b : Int)) := rfl
    have r0 : (psC a' b')[0]? = some (.int .u16 (a' : Int)) := rfl
    have r1 : (psC a' b')[1]? = some (.int .u16 (b' : Int)) := rfl
    simp only [Op.eqFields, a1, a2, a3, b1, b2, b3, if_pos n1, if_pos n2, Sem.run_bind, p2 _ _ _ _ q0, p2 _ _ _ _ r0, Result.andThen_ok, run_equalIn_int w 9998 _ _ _ _ _ u2, u16_beq]
    unfold psE
    cases h1 : (a == a') <;> cases h2 : (b == b') <;> simp [p2 _ _ _ _ q1, p2 _ _ _ _ r1, Sem.run_bind, run_equalIn_int w 9998 _ _ _ _ _ u2, u16_beq, h2]
end Go.Proofs.Ytejncjjkcmhmbaa
