/- Two values of type attackRows are compared. -/
import Derived.Test.YtjhknafajfpldaaDoorMg4
import Derived.ChangeKeysEq
import Derived.Laws.StructEq
import Derived.Test.YtjhknafajfpldaaDoorMg6
import Derived.Test.YtjhknafajfpldaaDoorMg10
import Derived.Laws.ResultCell
namespace Go.Proofs.YtjhknafajfpldaaDoor
open Go.ChangeShapes Go.WideShapes Go.ChangeAt Go.RowKit
set_option maxRecDepth 100000
def sameR (f g : Nat → Nat) : List Nat → Bool
  | [] => true
  | k :: ks => if f k == g k then sameR f g ks else false
theorem sameR_refl (f : Nat → Nat) : ∀ ks, sameR f f ks = true
  | [] => rfl
  | k :: ks => by unfold sameR; simp [sameR_refl f ks]
theorem sameR_no {f g : Nat → Nat} {p : Nat} (h : f p ≠ g p) : ∀ {ks : List Nat}, p ∈ ks → sameR f g ks = false
  | [], hm => by simp at hm
  | k :: ks, hm => by
    unfold sameR
    rcases List.mem_cons.1 hm with rfl | hm
    · simp [h]
    · split
      · exact sameR_no h hm
      · rfl
theorem AR_fields : (Tryd.prog.fieldsOf 49).toList.map (fun f => (f.name, f.type, f.offset)) = [("n", 3, 0), ("rows", 47, 1)] := by
  kernel_rfl
theorem CB_info : (Tryd.prog.info? 46).isSome = true := by kernel_rfl
theorem CB_cells : Tryd.prog.cellsOf 46 = 1 := by kernel_rfl
theorem AB_info : (Tryd.prog.info? 47).map (·.size) = some 10 := by kernel_rfl
theorem arC_eql (n : Int) (f g : Nat → Nat) (w : World) : (binOp .eql 49 (.agg (arC n f)) (.agg (arC n g))).run Tryd.prog w = .ok (.bool (sameR f g [0, 1, 2, 3, 4, 5, 6, 7, 8, 9])) w := by
  have u1 := Tryd.underlying47
  have u2 := Tryd.underlying46
  have u3 := Tryd.underlying3
  obtain ⟨i1, hi1⟩ := Option.isSome_iff_exists.1 CB_info
  obtain ⟨i2, hi2, hz2⟩ : ∃ i, Tryd.prog.info? 47 = some i ∧ i.size = 10 := by
    have := AB_info
    cases h : Tryd.prog.info? 47 with
    | none => rw [h] at this; cases this
    | some i => rw [h] at this; exact ⟨i, rfl, by simpa using this⟩
  rw [run_eql_struct]
  rw [run_equalIn_agg w 9999 _ _ _ (by rw [Tryd.underlying49]; rfl) (by kernel_rfl)]
  have hm := AR_fields
  generalize (Tryd.prog.fieldsOf 49).toList = fs at hm ⊢
  have hl : fs.length = 2 := by have := congrArg List.length hm; simpa using this
  match fs, hl with
  | [f1, f2], _ =>
    simp only [List.map_cons, List.map_nil, List.cons.injEq, Prod.mk.injEq, and_true] at hm
    obtain ⟨⟨a1, a2, a3⟩, b1, b2, b3⟩ := hm
    have p1 : ∀ (cs : Array Value) (k : Nat) (v : Value) (w : World), cs[k]? = some v → (part 3 cs k).run Tryd.prog w = .ok v w := fun cs k v w h => by
      simp [part, isAgg, Sem.run_bind, run_underlying u3, h]
    have p2 : ∀ (cs : Array Value) (k : Nat) (v : Value) (w : World), cs[k]? = some v → (part 46 cs k).run Tryd.prog w = .ok v w := fun cs k v w h => by
      simp [part, isAgg, Sem.run_bind, run_underlying u2, h]
    have p3 : ∀ (cs : Array Value) (k : Nat) (w : World), (part 47 cs k).run Tryd.prog w = .ok (.agg (cs.extract k (k + 10))) w := fun cs k w => by
      simp [part, isAgg, Sem.run_bind, run_underlying u1, sizeOf, typeInfo, hi2, hz2]
    have key : ∀ ks : List Nat, (∀ k ∈ ks, k < 10) → (Op.eqItems 9998 46 1 ((arC n f).extract 1 (1 + 10)) ((arC n g).extract 1 (1 + 10)) ks).run Tryd.prog w = .ok (sameR f g ks) w := by
      intro ks
      induction ks with
      | nil => intro _; simp [Op.eqItems, sameR]
      | cons k ks ih =>
        intro hk
        have h10 := hk k (by simp)
        have e1 : ((arC n f).extract 1 (1 + 10))[k * 1]? = some (.int .u16 (f k : Nat)) := by
          rw [Nat.mul_one]
          rcases lt10 h10 with rfl | rfl | rfl | rfl | rfl | rfl | rfl | rfl | rfl | rfl <;> rfl
        have e2 : ((arC n g).extract 1 (1 + 10))[k * 1]? = some (.int .u16 (g k : Nat)) := by
          rw [Nat.mul_one]
          rcases lt10 h10 with rfl | rfl | rfl | rfl | rfl | rfl | rfl | rfl | rfl | rfl <;> rfl
        have hq : (((f k : Nat) : Int) == ((g k : Nat) : Int)) = (f k == g k) := by
          rw [Bool.eq_iff_iff, beq_iff_eq, beq_iff_eq]; exact Int.ofNat_inj
        simp only [Op.eqItems, Sem.run_bind, p2 _ _ _ _ e1, p2 _ _ _ _ e2, Result.andThen_ok, run_equalIn_int w 9997 _ _ _ _ _ u2, hq]
        have ih' := ih (fun j hj => hk j (by simp [hj]))
        unfold sameR
        cases hfg : f k == g k
        · simp
        · simpa using ih'
    have q0 : (arC n f)[0]? = some (.int .i64 n) := rfl
    have q1 : (arC n g)[0]? = some (.int .i64 n) := rfl
    have hA : (Op.equalIn 9999 47 (.agg ((arC n f).extract 1 (1 + 10))) (.agg ((arC n g).extract 1 (1 + 10)))).run Tryd.prog w = .ok (sameR f g [0, 1, 2, 3, 4, 5, 6, 7, 8, 9]) w := by
      rw [run_equalIn_array w 9998 _ _ u1 hi1, CB_cells]
      exact key _ (by decide)
    have hI : (Op.equalIn 9999 3 (.int .i64 n) (.int .i64 n)).run Tryd.prog w = .ok true w := by
      rw [run_equalIn_int w 9998 _ _ _ _ _ u3]; simp
    have n1 : ("n" : String) ≠ "_" := by decide
    have n2 : ("rows" : String) ≠ "_" := by decide
    simp only [Op.eqFields, a1, a2, a3, b1, b2, b3, if_pos n1, if_pos n2, Sem.run_bind, p1 _ _ _ _ q0, p1 _ _ _ _ q1, Result.andThen_ok, hI]
    simp only [Bool.not_true, Bool.false_eq_true, if_false, Sem.run_bind, p3, Result.andThen_ok, hA]
    cases sameR f g [0, 1, 2, 3, 4, 5, 6, 7, 8, 9] <;> simp
end Go.Proofs.YtjhknafajfpldaaDoor

/- Contract of the code's AddAttack. Condition: the slices have at most 2^40 elements. -/
namespace Go.Proofs.YtjhknafajfpldaaDoor
open Go.ChangeShapes Go.WideShapes Go.ChangeAt Go.RowKit
set_option maxRecDepth 100000
/-- A graph and a flag are returned; the graph's memory is new. -/
def FreshGB (N : Int) (Y : List (List Int)) (ok : Bool) (w : World) (e : Ending) (w' : World) : Prop :=
  ∃ v, e = .returned (.tuple #[.agg #[.int .i64 N, v], .bool ok]) ∧ OwnSS w' w.heap.size w'.heap.size v Y ∧ Below w.heap.size w w'
theorem resGB {w : World} {fn : Func} {p u : Tmp} {tmps : Array Value} {g : Nat} {cs : Array Value} {x : Value} (h : fn.results = #[.cell p 26, .tmp u]) (hb : Bx w g 26 cs) (hs : cs.size = 2) (hp : tmps.getD p undef = .pointer (some ⟨g, 0, none⟩)) (hu : tmps.getD u undef = x) : (results fn tmps).run Tryd.prog w = .ok (.tuple #[.agg cs, x]) w := by
  rw [results_cell_tmp h, hp, hu]
  simp [asAddr, run_loadVar_row w g _ _ cs (0, 0) _ hb Tryd.underlying26 rfl (by rw [GR_info, hs])]
theorem two_graphs (w : World) (c1 c2 : Array Value) (t : TypeId) : ∃ W1 : World, W1 = (w.alloc (Obj.cells c1 t)).alloc (Obj.cells c2 t) ∧ Bx W1 w.heap.size t c1 ∧ Bx W1 (w.heap.size + 1) t c2 ∧ Below w.heap.size w W1 ∧ W1.heap.size = w.heap.size + 2 := by
  have a1 := (Bx.made w t c1).new ((Below.refl _ _).alloc (Nat.le_refl _) (Obj.cells c2 t))
  have a2 := Bx.made (w.alloc (Obj.cells c1 t)) t c2
  exact ⟨_, rfl, a1, by simpa using a2, ((Below.refl _ _).alloc (Nat.le_refl _) _).alloc (by simp) _, by simp⟩
/-- A value is put into a new block for rows. -/
theorem new_rows (w : World) (n : Int) (f : Nat → Nat) : ∃ W4 W5 : World, w.alloc (Obj.cells (arC 0 fun _ => 0) 49) = W4 ∧ W4.setRow w.heap.size (arC n f) = W5 ∧ Bx W4 w.heap.size 49 (arC 0 fun _ => 0) ∧ Bx W5 w.heap.size 49 (arC n f) ∧ Below w.heap.size w W5 ∧ W5.heap.size = w.heap.size + 1 := by
  have bx4 := Bx.made w 49 (arC 0 fun _ => 0)
  have o5 := setRow_out (w.alloc (Obj.cells (arC 0 fun _ => 0) 49)) w.heap.size (arC n f) (Nat.le_refl _) (Nat.lt_succ_self _)
  exact ⟨_, _, rfl, rfl, bx4, bx4.setRow (arC n f), ((Below.refl _ _).alloc (Nat.le_refl _) _).trans (o5.below (Nat.le_refl _) (by simp)), by simp [World.setRow]⟩
theorem AR_guard : Tryd.prog.eqGuardType Tryd.prog.depth 49 = false := by kernel_rfl
theorem eqAR {w : World} {ops : Array Oper} {rest : List Oper} {o : Oper} {a : Act} {Q : Exit → Act → World → Prop} (hgd : o.guard = none) (x y : Operand) (ho : o.op = .binOp .eql 49 x y 49) {n : Int} {f g : Nat → Nat} (hx : a.eval x = .agg (arC n f)) (hy : a.eval y = .agg (arC n g)) (K : wpList Tryd.prog ops Q rest (a.put o.dst (.bool (sameR f g [0, 1, 2, 3, 4, 5, 6, 7, 8, 9]))) w) : wpList Tryd.prog ops Q (o :: rest) a w := by
  refine wpList_plain hgd fun K' hK' => ?_
  have h1 := arC_eql n f g w
  have h2 := run_eqGuard_agg (P := Tryd.prog) w .eql 49 x y (arC n f) (arC n g) AR_guard
  unfold Oper.wp execOp
  simp only [ho, hx, hy, Sem.run_bind, Sem.run_pure, h1, h2, Result.andThen_ok]
  exact hK' _ _ K
/-- The result's cell is written last. -/
theorem keep_result {w W6 : World} {M : Nat} {v : Value} {X : List (List Int)} (cs : Array Value) (hown : OwnSS W6 M W6.heap.size v X) (hb : Below w.heap.size w W6) (hM : w.heap.size + 2 ≤ M) (hz : w.heap.size + 2 ≤ W6.heap.size) :
    OwnSS (W6.setRow (w.heap.size + 1) cs) w.heap.size (W6.setRow (w.heap.size + 1) cs).heap.size v X ∧ Below w.heap.size w (W6.setRow (w.heap.size + 1) cs) :=
  ⟨(hown.out (setRow_out W6 _ cs (Nat.le_refl _) (Nat.lt_succ_self _)) (.inr hM)).wide (by omega) (by simp [World.setRow]), hb.trans ((setRow_out W6 _ cs (Nat.le_refl _) (Nat.lt_succ_self _)).below (by omega) (by omega))⟩
end Go.Proofs.YtjhknafajfpldaaDoor
