/- Two values of type attackRows are compared. -/
import Derived.Test.YtncndlojceiejaaMg4
import Derived.ChangeKeysEq
import Derived.Laws.StructEq
namespace Go.Proofs.Ytncndlojceiejaa
open Go.ChangeShapes Go.WideShapes Go.ChangeAt Go.RowKit
set_option maxRecDepth 100000
def sameR (f g : Nat → Nat) : List Nat → Bool
  | [] => true
  | k :: ks => if f k == g k then sameR f g ks else false
theorem sameR_refl (f : Nat → Nat) : ∀ ks, sameR f f ks = true
  | [] => rfl
  | k :: ks => by unfold sameR; simp [sameR_refl f ks]
theorem sameR_no {f g : Nat → Nat} {p : Nat} (h : f p ≠ g p) : ∀ {ks : List Nat}, p ∈ ks → sameR f g ks = false
  | [], hm => by simp at hm
  | k :: ks, hm => by
    unfold sameR
    rcases List.mem_cons.1 hm with rfl | hm
    · simp [h]
    · split
      · exact sameR_no h hm
      · rfl
theorem AR_fields : (Try.prog.fieldsOf 60).toList.map (fun f => (f.name, f.type, f.offset)) = [("n", 3, 0), ("rows", 58, 1)] := by
  kernel_rfl
theorem CB_info : (Try.prog.info? 57).isSome = true := by kernel_rfl
theorem CB_cells : Try.prog.cellsOf 57 = 1 := by kernel_rfl
theorem AB_info : (Try.prog.info? 58).map (·.size) = some 10 := by kernel_rfl
theorem arC_eql (n : Int) (f g : Nat → Nat) (w : World) : (binOp .eql 60 (.agg (arC n f)) (.agg (arC n g))).run Try.prog w = .ok (.bool (sameR f g [0, 1, 2, 3, 4, 5, 6, 7, 8, 9])) w := by
  have u1 := Try.underlying58
  have u2 := Try.underlying57
  have u3 := Try.underlying3
  obtain ⟨i1, hi1⟩ := Option.isSome_iff_exists.1 CB_info
  obtain ⟨i2, hi2, hz2⟩ : ∃ i, Try.prog.info? 58 = some i ∧ i.size = 10 := by
    have := AB_info
    cases h : Try.prog.info? 58 with
    | none => rw [h] at this; cases this
    | some i => rw [h] at this; exact ⟨i, rfl, by simpa using this⟩
  rw [run_eql_struct]
  rw [run_equalIn_agg w 9999 _ _ _ (by rw [Try.underlying60]; rfl) (by kernel_rfl)]
  have hm := AR_fields
  generalize (Try.prog.fieldsOf 60).toList = fs at hm ⊢
  have hl : fs.length = 2 := by have := congrArg List.length hm; simpa using this
  match fs, hl with
  | [f1, f2], _ =>
    simp only [List.map_cons, List.map_nil, List.cons.injEq, Prod.mk.injEq, and_true] at hm
    obtain ⟨⟨a1, a2, a3⟩, b1, b2, b3⟩ := hm
    have p1 : ∀ (cs : Array Value) (k : Nat) (v : Value) (w : World), cs[k]? = some v → (part 3 cs k).run Try.prog w = .ok v w := fun cs k v w h => by
      simp [part, isAgg, Sem.run_bind, run_underlying u3, h]
    have p2 : ∀ (cs : Array Value) (k : Nat) (v : Value) (w : World), cs[k]? = some v → (part 57 cs k).run Try.prog w = .ok v w := fun cs k v w h => by
      simp [part, isAgg, Sem.run_bind, run_underlying u2, h]
    have p3 : ∀ (cs : Array Value) (k : Nat) (w : World), (part 58 cs k).run Try.prog w = .ok (.agg (cs.extract k (k + 10))) w := fun cs k w => by
      simp [part, isAgg, Sem.run_bind, run_underlying u1, sizeOf, typeInfo, hi2, hz2]
    have key : ∀ ks : List Nat, (∀ k ∈ ks, k < 10) → (Op.eqItems 9998 57 1 ((arC n f).extract 1 (1 + 10)) ((arC n g).extract 1 (1 + 10)) ks).run Try.prog w = .ok (sameR f g ks) w := by
      intro ks
      induction ks with
      | nil => intro _; simp [Op.eqItems, sameR]
      | cons k ks ih =>
        intro hk
        have h10 := hk k (by simp)
        have e1 : ((arC n f).extract 1 (1 + 10))[k * 1]? = some (.int .u16 (f k : Nat)) := by
          rw [Nat.mul_one]
          rcases lt10 h10 with rfl | rfl | rfl | rfl | rfl | rfl | rfl | rfl | rfl | rfl <;> rfl
        have e2 : ((arC n g).extract 1 (1 + 10))[k * 1]? = some (.int .u16 (g k : Nat)) := by
          rw [Nat.mul_one]
          rcases lt10 h10 with rfl | rfl | rfl | rfl | rfl | rfl | rfl | rfl | rfl | rfl <;> rfl
        have hq : (((f k : Nat) : Int) == ((g k : Nat) : Int)) = (f k == g k) := by
          rw [Bool.eq_iff_iff, beq_iff_eq, beq_iff_eq]; exact Int.ofNat_inj
        simp only [Op.eqItems, Sem.run_bind, p2 _ _ _ _ e1, p2 _ _ _ _ e2, Result.andThen_ok, run_equalIn_int w 9997 _ _ _ _ _ u2, hq]
        have ih' := ih (fun j hj => hk j (by simp [hj]))
        unfold sameR
        cases hfg : f k == g k
        · simp
        · simpa using ih'
    have q0 : (arC n f)[0]? = some (.int .i64 n) := rfl
    have q1 : (arC n g)[0]? = some (.int .i64 n) := rfl
    have hA : (Op.equalIn 9999 58 (.agg ((arC n f).extract 1 (1 + 10))) (.agg ((arC n g).extract 1 (1 + 10)))).run Try.prog w = .ok (sameR f g [0, 1, 2, 3, 4, 5, 6, 7, 8, 9]) w := by
      rw [run_equalIn_array w 9998 _ _ u1 hi1, CB_cells]
      exact key _ (by decide)
    have hI : (Op.equalIn 9999 3 (.int .i64 n) (.int .i64 n)).run Try.prog w = .ok true w := by
      rw [run_equalIn_int w 9998 _ _ _ _ _ u3]; simp
    have n1 : ("n" : String) ≠ "_" := by decide
    have n2 : ("rows" : String) ≠ "_" := by decide
    simp only [Op.eqFields, a1, a2, a3, b1, b2, b3, if_pos n1, if_pos n2, Sem.run_bind, p1 _ _ _ _ q0, p1 _ _ _ _ q1, Result.andThen_ok, hI]
    simp only [Bool.not_true, Bool.false_eq_true, if_false, Sem.run_bind, p3, Result.andThen_ok, hA]
    cases sameR f g [0, 1, 2, 3, 4, 5, 6, 7, 8, 9] <;> simp
end Go.Proofs.Ytncndlojceiejaa
