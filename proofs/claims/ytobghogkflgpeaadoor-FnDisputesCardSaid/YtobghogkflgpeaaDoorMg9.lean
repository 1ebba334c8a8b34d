/- Where an attack is put among the pairs; the rows say the same: sums without code. -/
import Derived.Test.YtobghogkflgpeaaDoorMg5
import Derived.Test.YtobghogkflgpeaaDoorMg8
import Derived.Test.YtobghogkflgpeaaDoorMg4
import Derived.ChangeKeysEq
import Derived.Laws.StructEq
import Derived.Test.YtobghogkflgpeaaDoorMg6
import Derived.Laws.ResultCell
namespace Go.Proofs.YtobghogkflgpeaaDoor
def gtP (x : List Int) (a b : Int) : Bool := decide (a < x.getD 0 0) || (decide (x.getD 0 0 = a) && decide (b < x.getD 1 0))
def ins (a b : Int) : List (List Int) → List (List Int)
  | [] => [[a, b]]
  | x :: xs => if gtP x a b then [a, b] :: x :: xs else x :: ins a b xs
theorem ins_snoc_any {a b : Int} {x : List Int} : ∀ {Y : List (List Int)}, Y.any (gtP · a b) = true → ins a b (Y ++ [x]) = ins a b Y ++ [x]
  | [], h => by simp at h
  | y :: Y, h => by
    rw [List.cons_append]
    unfold ins
    by_cases hy : gtP y a b = true
    · rw [if_pos hy, if_pos hy]; rfl
    · rw [if_neg hy, if_neg hy, List.cons_append]
      congr 1
      refine ins_snoc_any ?_
      rw [List.any_cons] at h
      simpa [hy] using h
theorem ins_none {a b : Int} : ∀ {Y : List (List Int)}, Y.any (gtP · a b) = false → ins a b Y = Y ++ [[a, b]]
  | [], _ => rfl
  | y :: Y, h => by
    rw [List.any_cons, Bool.or_eq_false_iff] at h
    unfold ins
    rw [if_neg (by rw [h.1]; simp), ins_none h.2, List.cons_append]
theorem ins_first {a b : Int} {x : List Int} (hx : gtP x a b = true) : ∀ {Y : List (List Int)}, Y.any (gtP · a b) = false → ins a b (Y ++ [x]) = Y ++ [[a, b]] ++ [x]
  | [], _ => by simp [ins, hx]
  | y :: Y, h => by
    rw [List.any_cons, Bool.or_eq_false_iff] at h
    rw [List.cons_append]
    unfold ins
    rw [if_neg (by rw [h.1]; simp), ins_first hx h.2]
    simp
theorem ins_len (a b : Int) : ∀ X : List (List Int), (ins a b X).length = X.length + 1
  | [] => rfl
  | x :: X => by
    unfold ins
    split
    · rfl
    · simp [ins_len a b X]
theorem ins_mem {a b : Int} {z : List Int} : ∀ {X : List (List Int)}, z ∈ ins a b X ↔ z ∈ X ∨ z = [a, b]
  | [] => by simp [ins]
  | x :: X => by
    unfold ins
    split
    · simp only [List.mem_cons]
      constructor
      · rintro (h | h | h)
        · exact .inr h
        · exact .inl (.inl h)
        · exact .inl (.inr h)
      · rintro ((h | h) | h)
        · exact .inr (.inl h)
        · exact .inr (.inr h)
        · exact .inl h
    · rw [List.mem_cons, ins_mem, List.mem_cons]
      constructor
      · rintro (h | h | h)
        · exact .inl (.inl h)
        · exact .inl (.inr h)
        · exact .inr h
      · rintro ((h | h) | h)
        · exact .inl h
        · exact .inr (.inl h)
        · exact .inr (.inr h)
theorem gt_lt {x : List Int} {a b : Int} (h : gtP x a b = true) : ltP [a, b] x = true := by
  rw [ltP_iff]
  unfold gtP at h
  simp at h ⊢
  omega
theorem ins_asc {n : Nat} {a b : Int} : ∀ {X : List (List Int)}, Prs n X → Asc X → [a, b] ∉ X → Asc (ins a b X)
  | [], _, _, _ => by simp [ins, Asc]
  | x :: X, hp, ha, hn => by
    have ha' := ha
    unfold Asc at ha'
    rw [List.pairwise_cons] at ha'
    unfold ins
    split
    · rename_i hg
      have hl := gt_lt hg
      unfold Asc
      rw [List.pairwise_cons]
      refine ⟨fun y hy => ?_, ha⟩
      rcases List.mem_cons.1 hy with rfl | hy
      · exact hl
      · exact ltP_tr _ _ _ hl (ha'.1 y hy)
    · rename_i hg
      have ih := ins_asc (a := a) (b := b) (fun y hy => hp y (by simp [hy])) ha'.2 (fun h => hn (by simp [h]))
      unfold Asc at ih ⊢
      rw [List.pairwise_cons]
      refine ⟨fun y hy => ?_, ih⟩
      rcases ins_mem.1 hy with hy | rfl
      · exact ha'.1 y hy
      · obtain ⟨p, q, rfl, _, _⟩ := hp x (by simp)
        have hne : ¬ ((p : Int) = a ∧ (q : Int) = b) := by
          rintro ⟨rfl, rfl⟩
          exact hn (by simp)
        rw [ltP_iff]
        unfold gtP at hg
        simp at hg ⊢
        omega
theorem asc_nodup {X : List (List Int)} {a b : Int} (hm : [a, b] ∈ X) : ¬ Asc (ins a b X) := by
  intro h
  unfold Asc at h
  induction X with
  | nil => simp at hm
  | cons x X ih =>
    unfold ins at h
    split at h
    · rw [List.pairwise_cons] at h
      exact ltP_irr _ (h.1 _ hm)
    · rw [List.pairwise_cons] at h
      rcases List.mem_cons.1 hm with e | hm
      · exact ltP_irr _ (h.1 [a, b] (ins_mem.2 (.inr rfl)) |> fun k => by rw [← e] at k; exact k)
      · exact ih hm h.2
/-- Whether an attack can be added, and what the graph then is. -/
def canA (N : Int) (X : List (List Int)) (a b : Int) : Bool := gB N X && gB N (ins a b X)
def addL (N : Int) (X : List (List Int)) (a b : Int) : List (List Int) := if canA N X a b then ins a b X else X
theorem canA_out {N a b : Int} {X : List (List Int)} (h : ¬ (inr a 0 (rn N X - 1) = true ∧ inr b 0 (rn N X - 1) = true)) : canA N X a b = false := by
  cases hc : canA N X a b with
  | false => rfl
  | true =>
    exfalso
    unfold canA at hc
    rw [Bool.and_eq_true] at hc
    obtain ⟨h1, h2⟩ := hc
    obtain ⟨n, rfl, hn, hp, _⟩ := gB_ok h2
    obtain ⟨p, q, e, hp1, hq1⟩ := hp [a, b] (ins_mem.2 (.inr rfl))
    injection e with e1 e2
    injection e2 with e2 _
    refine h ?_
    unfold rn
    rw [if_pos h1, e1, e2]
    exact ⟨inr_t (by omega) (by omega), inr_t (by omega) (by omega)⟩
theorem in_rows {N a b : Int} {X : List (List Int)} (h1 : inr a 0 (rn N X - 1) = true) (h2 : inr b 0 (rn N X - 1) = true) : ∃ n p q : Nat, N = n ∧ n ≤ 10 ∧ a = p ∧ b = q ∧ p < n ∧ q < n ∧ gB N X = true ∧ rn N X = n := by
  cases hg : gB N X with
  | false =>
    exfalso
    unfold rn at h1
    rw [hg] at h1
    simp [inr] at h1
    omega
  | true =>
    obtain ⟨n, rfl, hn, _, _⟩ := gB_ok hg
    have hr : rn n X = n := by unfold rn; rw [if_pos hg]
    rw [hr] at h1 h2
    have h1' : 0 ≤ a ∧ a ≤ (n : Int) - 1 := by simpa [inr] using h1
    have h2' : 0 ≤ b ∧ b ≤ (n : Int) - 1 := by simpa [inr] using h2
    exact ⟨n, a.toNat, b.toNat, rfl, hn, by omega, by omega, by omega, by omega, rfl, hr⟩
theorem canA_there {n p q : Nat} {X : List (List Int)} (hg : gB n X = true) (hb : (rf n X p).testBit q = true) : canA n X p q = false := by
  obtain ⟨n', e, hn, hp, _⟩ := gB_ok hg
  obtain rfl : n = n' := by omega
  have hm := (rf_mem hg hp p q).1 hb
  cases hc : canA n X p q with
  | false => rfl
  | true =>
    exfalso
    unfold canA at hc
    rw [Bool.and_eq_true] at hc
    obtain ⟨_, _, _, _, ha⟩ := gB_ok hc.2
    exact asc_nodup hm ha
theorem mem_glK {f : Nat → Nat} {n : Nat} {z : List Int} : z ∈ glK f n ↔ ∃ p q : Nat, p < n ∧ q < 10 ∧ (f p).testBit q = true ∧ z = [(p : Int), (q : Int)] := by
  unfold glK
  rw [List.mem_flatMap]
  constructor
  · rintro ⟨p, hp, hz⟩
    unfold rowL at hz
    rw [List.mem_map] at hz
    obtain ⟨b, hb, rfl⟩ := hz
    obtain ⟨j, hj, ht, rfl⟩ := (lsT_mem _ _ _).1 hb
    exact ⟨p, j, List.mem_range.1 hp, hj, ht, rfl⟩
  · rintro ⟨p, q, hp, hq, ht, rfl⟩
    refine ⟨p, List.mem_range.2 hp, ?_⟩
    unfold rowL
    rw [List.mem_map]
    exact ⟨q, (lsT_mem _ _ _).2 ⟨q, hq, ht, rfl⟩, rfl⟩
theorem glK_asc (f : Nat → Nat) (n : Nat) : Asc (glK f n) := by
  unfold Asc
  induction n with
  | zero => simp [glK]
  | succ n ih =>
    rw [glK_succ, List.pairwise_append]
    refine ⟨ih, ?_, fun x hx y hy => ?_⟩
    · unfold rowL
      rw [List.pairwise_map]
      refine (lsT_asc (f n) 10).imp ?_
      intro a b h
      rw [ltP_iff]
      simp
      exact h
    · obtain ⟨p, q, hp, _, _, rfl⟩ := mem_glK.1 hx
      unfold rowL at hy
      rw [List.mem_map] at hy
      obtain ⟨b, _, rfl⟩ := hy
      rw [ltP_iff]
      simp
      omega
theorem glK_ins {n p q : Nat} {X : List (List Int)} (hg : gB n X = true) (hp : p < n) (hq : q < n) (hb : (rf n X p).testBit q = false) : glK (upd (rf n X) p q) n = ins p q X ∧ canA n X p q = true := by
  obtain ⟨n', e, hn, hP, hA⟩ := gB_ok hg
  obtain rfl : n = n' := by omega
  have hm : [(p : Int), (q : Int)] ∉ X := fun h => by rw [(rf_mem hg hP p q).2 h] at hb; simp at hb
  have hi := ins_asc hP hA hm
  refine ⟨sorted_ext ltP_irr ltP_tr (glK_asc _ _) hi (fun z => ?_), ?_⟩
  · rw [mem_glK, ins_mem]
    constructor
    · rintro ⟨a, b, ha, hb10, ht, rfl⟩
      rw [upd_bit, Bool.or_eq_true, Bool.and_eq_true] at ht
      rcases ht with ht | ⟨h1, h2⟩
      · exact .inl ((rf_mem hg hP a b).1 ht)
      · simp at h1 h2
        subst h1 h2
        exact .inr rfl
    · rintro (hz | rfl)
      · obtain ⟨a, b, rfl, ha, hb2⟩ := hP z hz
        exact ⟨a, b, ha, by omega, by rw [upd_bit, (rf_mem hg hP a b).2 hz]; rfl, rfl⟩
      · exact ⟨p, q, hp, by omega, by rw [upd_bit]; simp, rfl⟩
  · unfold canA
    rw [hg, Bool.true_and]
    refine gB_of hn (fun z hz => ?_) hi
    rcases ins_mem.1 hz with hz | rfl
    · exact hP z hz
    · exact ⟨p, q, rfl, hp, hq⟩
/-- Rows that grew by what was there are the same rows. -/
theorem upd_same {f : Nat → Nat} {p q : Nat} (h : (f p).testBit q = true) : upd f p q = f := by
  funext k
  unfold upd
  split
  · rename_i e
    subst e
    refine Nat.eq_of_testBit_eq fun j => ?_
    rw [Nat.testBit_or, Nat.testBit_two_pow]
    by_cases hj : q = j
    · subst hj; simp [h]
    · simp [hj]
  · rfl
theorem upd_other {f : Nat → Nat} {p q : Nat} (h : (f p).testBit q = false) : upd f p q p ≠ f p := by
  intro e
  have := upd_bit f p q p q
  rw [e, h] at this
  simp at this
end Go.Proofs.YtobghogkflgpeaaDoor

/- Two values of type attackRows are compared. -/
namespace Go.Proofs.YtobghogkflgpeaaDoor
open Go.ChangeShapes Go.WideShapes Go.ChangeAt Go.RowKit
set_option maxRecDepth 100000
def sameR (f g : Nat → Nat) : List Nat → Bool
  | [] => true
  | k :: ks => if f k == g k then sameR f g ks else false
theorem sameR_refl (f : Nat → Nat) : ∀ ks, sameR f f ks = true
  | [] => rfl
  | k :: ks => by unfold sameR; simp [sameR_refl f ks]
theorem sameR_no {f g : Nat → Nat} {p : Nat} (h : f p ≠ g p) : ∀ {ks : List Nat}, p ∈ ks → sameR f g ks = false
  | [], hm => by simp at hm
  | k :: ks, hm => by
    unfold sameR
    rcases List.mem_cons.1 hm with rfl | hm
    · simp [h]
    · split
      · exact sameR_no h hm
      · rfl
theorem AR_fields : (Tryd.prog.fieldsOf 49).toList.map (fun f => (f.name, f.type, f.offset)) = [("n", 3, 0), ("rows", 47, 1)] := by
  kernel_rfl
theorem CB_info : (Tryd.prog.info? 46).isSome = true := by kernel_rfl
theorem CB_cells : Tryd.prog.cellsOf 46 = 1 := by kernel_rfl
theorem AB_info : (Tryd.prog.info? 47).map (·.size) = some 10 := by kernel_rfl
theorem arC_eql (n : Int) (f g : Nat → Nat) (w : World) : (binOp .eql 49 (.agg (arC n f)) (.agg (arC n g))).run Tryd.prog w = .ok (.bool (sameR f g [0, 1, 2, 3, 4, 5, 6, 7, 8, 9])) w := by
  have u1 := Tryd.underlying47
  have u2 := Tryd.underlying46
  have u3 := Tryd.underlying3
  obtain ⟨i1, hi1⟩ := Option.isSome_iff_exists.1 CB_info
  obtain ⟨i2, hi2, hz2⟩ : ∃ i, Tryd.prog.info? 47 = some i ∧ i.size = 10 := by
    have := AB_info
    cases h : Tryd.prog.info? 47 with
    | none => rw [h] at this; cases this
    | some i => rw [h] at this; exact ⟨i, rfl, by simpa using this⟩
  rw [run_eql_struct]
  rw [run_equalIn_agg w 9999 _ _ _ (by rw [Tryd.underlying49]; rfl) (by kernel_rfl)]
  have hm := AR_fields
  generalize (Tryd.prog.fieldsOf 49).toList = fs at hm ⊢
  have hl : fs.length = 2 := by have := congrArg List.length hm; simpa using this
  match fs, hl with
  | [f1, f2], _ =>
    simp only [List.map_cons, List.map_nil, List.cons.injEq, Prod.mk.injEq, and_true] at hm
    obtain ⟨⟨a1, a2, a3⟩, b1, b2, b3⟩ := hm
    have p1 : ∀ (cs : Array Value) (k : Nat) (v : Value) (w : World), cs[k]? = some v → (part 3 cs k).run Tryd.prog w = .ok v w := fun cs k v w h => by
      simp [part, isAgg, Sem.run_bind, run_underlying u3, h]
    have p2 : ∀ (cs : Array Value) (k : Nat) (v : Value) (w : World), cs[k]? = some v → (part 46 cs k).run Tryd.prog w = .ok v w := fun cs k v w h => by
      simp [part, isAgg, Sem.run_bind, run_underlying u2, h]
    have p3 : ∀ (cs : Array Value) (k : Nat) (w : World), (part 47 cs k).run Tryd.prog w = .ok (.agg (cs.extract k (k + 10))) w := fun cs k w => by
      simp [part, isAgg, Sem.run_bind, run_underlying u1, sizeOf, typeInfo, hi2, hz2]
    have key : ∀ ks : List Nat, (∀ k ∈ ks, k < 10) → (Op.eqItems 9998 46 1 ((arC n f).extract 1 (1 + 10)) ((arC n g).extract 1 (1 + 10)) ks).run Tryd.prog w = .ok (sameR f g ks) w := by
      intro ks
      induction ks with
      | nil => intro _; simp [Op.eqItems, sameR]
      | cons k ks ih =>
        intro hk
        have h10 := hk k (by simp)
        have e1 : ((arC n f).extract 1 (1 + 10))[k * 1]? = some (.int .u16 (f k : Nat)) := by
          rw [Nat.mul_one]
          rcases lt10 h10 with rfl | rfl | rfl | rfl | rfl | rfl | rfl | rfl | rfl | rfl <;> rfl
        have e2 : ((arC n g).extract 1 (1 + 10))[k * 1]? = some (.int .u16 (g k : Nat)) := by
          rw [Nat.mul_one]
          rcases lt10 h10 with rfl | rfl | rfl | rfl | rfl | rfl | rfl | rfl | rfl | rfl <;> rfl
        have hq : (((f k : Nat) : Int) == ((g k : Nat) : Int)) = (f k == g k) := by
          rw [Bool.eq_iff_iff, beq_iff_eq, beq_iff_eq]; exact Int.ofNat_inj
        simp only [Op.eqItems, Sem.run_bind, p2 _ _ _ _ e1, p2 _ _ _ _ e2, Result.andThen_ok, run_equalIn_int w 9997 _ _ _ _ _ u2, hq]
        have ih' := ih (fun j hj => hk j (by simp [hj]))
        unfold sameR
        cases hfg : f k == g k
        · simp
        · simpa using ih'
    have q0 : (arC n f)[0]? = some (.int .i64 n) := rfl
    have q1 : (arC n g)[0]? = some (.int .i64 n) := rfl
    have hA : (Op.equalIn 9999 47 (.agg ((arC n f).extract 1 (1 + 10))) (.agg ((arC n g).extract 1 (1 + 10)))).run Tryd.prog w = .ok (sameR f g [0, 1, 2, 3, 4, 5, 6, 7, 8, 9]) w := by
      rw [run_equalIn_array w 9998 _ _ u1 hi1, CB_cells]
      exact key _ (by decide)
    have hI : (Op.equalIn 9999 3 (.int .i64 n) (.int .i64 n)).run Tryd.prog w = .ok true w := by
      rw [run_equalIn_int w 9998 _ _ _ _ _ u3]; simp
    have n1 : ("n" : String) ≠ "_" := by decide
    have n2 : ("rows" : String) ≠ "_" := by decide
    simp only [Op.eqFields, a1, a2, a3, b1, b2, b3, if_pos n1, if_pos n2, Sem.run_bind, p1 _ _ _ _ q0, p1 _ _ _ _ q1, Result.andThen_ok, hI]
    simp only [Bool.not_true, Bool.false_eq_true, if_false, Sem.run_bind, p3, Result.andThen_ok, hA]
    cases sameR f g [0, 1, 2, 3, 4, 5, 6, 7, 8, 9] <;> simp
end Go.Proofs.YtobghogkflgpeaaDoor

/- Contract of the code's AddAttack. Condition: the slices have at most 2^40 elements. -/
namespace Go.Proofs.YtobghogkflgpeaaDoor
open Go.ChangeShapes Go.WideShapes Go.ChangeAt Go.RowKit
set_option maxRecDepth 100000
/-- A graph and a flag are returned; the graph's memory is new. -/
def FreshGB (N : Int) (Y : List (List Int)) (ok : Bool) (w : World) (e : Ending) (w' : World) : Prop :=
  ∃ v, e = .returned (.tuple #[.agg #[.int .i64 N, v], .bool ok]) ∧ OwnSS w' w.heap.size w'.heap.size v Y ∧ Below w.heap.size w w'
theorem resGB {w : World} {fn : Func} {p u : Tmp} {tmps : Array Value} {g : Nat} {cs : Array Value} {x : Value} (h : fn.results = #[.cell p 26, .tmp u]) (hb : Bx w g 26 cs) (hs : cs.size = 2) (hp : tmps.getD p undef = .pointer (some ⟨g, 0, none⟩)) (hu : tmps.getD u undef = x) : (results fn tmps).run Tryd.prog w = .ok (.tuple #[.agg cs, x]) w := by
  rw [results_cell_tmp h, hp, hu]
  simp [asAddr, run_loadVar_row w g _ _ cs (0, 0) _ hb Tryd.underlying26 rfl (by rw [GR_info, hs])]
theorem two_graphs (w : World) (c1 c2 : Array Value) (t : TypeId) : ∃ W1 : World, W1 = (w.alloc (Obj.cells c1 t)).alloc (Obj.cells c2 t) ∧ Bx W1 w.heap.size t c1 ∧ Bx W1 (w.heap.size + 1) t c2 ∧ Below w.heap.size w W1 ∧ W1.heap.size = w.heap.size + 2 := by
  have a1 := (Bx.made w t c1).new ((Below.refl _ _).alloc (Nat.le_refl _) (Obj.cells c2 t))
  have a2 := Bx.made (w.alloc (Obj.cells c1 t)) t c2
  exact ⟨_, rfl, a1, by simpa using a2, ((Below.refl _ _).alloc (Nat.le_refl _) _).alloc (by simp) _, by simp⟩
/-- A value is put into a new block for rows. -/
theorem new_rows (w : World) (n : Int) (f : Nat → Nat) : ∃ W4 W5 : World, w.alloc (Obj.cells (arC 0 fun _ => 0) 49) = W4 ∧ W4.setRow w.heap.size (arC n f) = W5 ∧ Bx W4 w.heap.size 49 (arC 0 fun _ => 0) ∧ Bx W5 w.heap.size 49 (arC n f) ∧ Below w.heap.size w W5 ∧ W5.heap.size = w.heap.size + 1 := by
  have bx4 := Bx.made w 49 (arC 0 fun _ => 0)
  have o5 := setRow_out (w.alloc (Obj.cells (arC 0 fun _ => 0) 49)) w.heap.size (arC n f) (Nat.le_refl _) (Nat.lt_succ_self _)
  exact ⟨_, _, rfl, rfl, bx4, bx4.setRow (arC n f), ((Below.refl _ _).alloc (Nat.le_refl _) _).trans (o5.below (Nat.le_refl _) (by simp)), by simp [World.setRow]⟩
theorem AR_guard : Tryd.prog.eqGuardType Tryd.prog.depth 49 = false := by kernel_rfl
theorem eqAR {w : World} {ops : Array Oper} {rest : List Oper} {o : Oper} {a : Act} {Q : Exit → Act → World → Prop} (hgd : o.guard = none) (x y : Operand) (ho : o.op = .binOp .eql 49 x y 49) {n : Int} {f g : Nat → Nat} (hx : a.eval x = .agg (arC n f)) (hy : a.eval y = .agg (arC n g)) (K : wpList Tryd.prog ops Q rest (a.put o.dst (.bool (sameR f g [0, 1, 2, 3, 4, 5, 6, 7, 8, 9]))) w) : wpList Tryd.prog ops Q (o :: rest) a w := by
  refine wpList_plain hgd fun K' hK' => ?_
  have h1 := arC_eql n f g w
  have h2 := run_eqGuard_agg (P := Tryd.prog) w .eql 49 x y (arC n f) (arC n g) AR_guard
  unfold Oper.wp execOp
  simp only [ho, hx, hy, Sem.run_bind, Sem.run_pure, h1, h2, Result.andThen_ok]
  exact hK' _ _ K
/-- The result's cell is written last. -/
theorem keep_result {w W6 : World} {M : Nat} {v : Value} {X : List (List Int)} (cs : Array Value) (hown : OwnSS W6 M W6.heap.size v X) (hb : Below w.heap.size w W6) (hM : w.heap.size + 2 ≤ M) (hz : w.heap.size + 2 ≤ W6.heap.size) :
    OwnSS (W6.setRow (w.heap.size + 1) cs) w.heap.size (W6.setRow (w.heap.size + 1) cs).heap.size v X ∧ Below w.heap.size w (W6.setRow (w.heap.size + 1) cs) :=
  ⟨(hown.out (setRow_out W6 _ cs (Nat.le_refl _) (Nat.lt_succ_self _)) (.inr hM)).wide (by omega) (by simp [World.setRow]), hb.trans ((setRow_out W6 _ cs (Nat.le_refl _) (Nat.lt_succ_self _)).below (by omega) (by omega))⟩
end Go.Proofs.YtobghogkflgpeaaDoor
