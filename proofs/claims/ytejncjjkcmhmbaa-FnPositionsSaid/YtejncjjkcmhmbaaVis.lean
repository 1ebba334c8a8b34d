/- Contract of the code's search through the sets (the closure visit of completePositions). Conditions: at most 10 claims, rows below 2^16. -/
import Derived.Test.YtejncjjkcmhmbaaPos
import Derived.StillTailTactics
namespace Go.Proofs.Ytejncjjkcmhmbaa
open Go.ChangeShapes Go.WideShapes Go.ChangeAt Go.RowKit
set_option maxRecDepth 100000
/-- The cells of positions. -/
def psF (f : Nat → Nat) (hs : List Nat) : List Value := hs.flatMap fun h => (psC h (hB f h 10)).toList
theorem psF_snoc (f : Nat → Nat) (hs : List Nat) (h : Nat) : psF f (hs ++ [h]) = psF f hs ++ (psC h (hB f h 10)).toList := by simp [psF]
theorem psF_len (f : Nat → Nat) (hs : List Nat) : (psF f hs).length = hs.length * 2 := by
  induction hs with
  | nil => rfl
  | cons h hs ih =>
    have : psF f (h :: hs) = (psC h (hB f h 10)).toList ++ psF f hs := rfl
    rw [this, List.length_append, ih]
    simp [psC]; omega
theorem PosS_info : (Try.prog.info? 98).map (fun i => (i.zero, i.size, i.bytes)) = some (some (.agg #[.int .u16 0, .int .u16 0]), 2, 4) := by kernel_rfl
/-- The positions found since world W stand in the cell of block Bf; of what W held, that block and the row that was there alone have turned. -/
structure St (W : World) (q Bf : Nat) (f : Nat → Nat) (w : World) (v : Value) (hs : List Nat) : Prop where
  row : w.ownsRow 0 98 2 v hs.length (psF f hs)
  own : ∀ g, v.ownBlock = some g → g = q ∨ W.heap.size ≤ g
  cell : Bx w Bf 95 #[v]
  os : w.os = W.os
  tape : w.tape = W.tape
  output : w.output = W.output
  size : W.heap.size ≤ w.heap.size
  block : ∀ k, k < W.heap.size → k ≠ q → k ≠ Bf → w.heap[k]? = W.heap[k]?
section
variable {W w w' : World} {q Bf : Nat} {f : Nat → Nat} {v : Value} {hs : List Nat}
theorem St.new (h : St W q Bf f w v hs) (hb : Below w.heap.size w w') : St W q Bf f w' v hs := by
  refine ⟨?_, h.own, h.cell.new hb, hb.os.trans h.os, hb.tape.trans h.tape, hb.output.trans h.output, Nat.le_trans h.size hb.size, fun k hk h1 h2 => (hb.block k (Nat.lt_of_lt_of_le hk h.size)).trans (h.block k hk h1 h2)⟩
  refine ⟨h.row.1, ?_⟩
  rcases h.row.2 with hn | ⟨g, cap, cur, e, hb', hgg, rest⟩
  · exact .inl hn
  · exact .inr ⟨g, cap, cur, e, hb', (hb.block g (Array.getElem?_eq_some_iff.1 hgg).1).trans hgg, rest⟩
theorem St.bx (h : St W q Bf f w v hs) {g : Nat} {t : TypeId} {cs : Array Value} (k : Bx W g t cs) (h1 : g ≠ q) (h2 : g ≠ Bf) : Bx w g t cs := (h.block g k.lt h1 h2).trans k
theorem St.lt (h : St W q Bf f w v hs) : ∀ b, v.ownBlock = some b → b < w.heap.size := fun b hb => (h.row.lt b hb).2
theorem St.put (h : St W q Bf f w v hs) {g : Nat} (cs : Array Value) (h1 : ∀ b, v.ownBlock = some b → b < g) (h2 : W.heap.size ≤ g) (h3 : Bf < W.heap.size) : St W q Bf f (w.setRow g cs) v hs := by
  have o := setRow_out w g cs (Nat.le_refl _) (Nat.lt_succ_self g)
  have hs' := h.size
  refine ⟨⟨h.row.1, ?_⟩, h.own, h.cell.out o (by omega), o.os.trans h.os, o.tape.trans h.tape, o.output.trans h.output, Nat.le_trans h.size o.size, fun k hk e1 e2 => (o.block k (by omega) (by omega)).trans (h.block k hk e1 e2)⟩
  rcases h.row.2 with hn | ⟨b, cap, cur, e, hb', hgg, rest⟩
  · exact .inl hn
  · have := h1 b (by rw [e]; rfl)
    exact .inr ⟨b, cap, cur, e, hb', (o.block b (Array.getElem?_eq_some_iff.1 hgg).1 (by omega)).trans hgg, rest⟩
theorem St.drew (h : St W q Bf f w v hs) : St W q Bf f w.drew v hs := h.new ((Below.refl _ _).drew)
end
/-- Append's law for the positions found, and the store that follows. -/
theorem wpList_vis {w : World} {ops : Array Oper} {rest : List Oper} {o : Oper} {a : Act} {Q : Exit → Act → World → Prop} (hgd : o.guard = none) (s x : Operand)
    (ho : o.op = .call { callee := .builtin .append, args := #[s, x], argTypes := #[95, 95] })
    {W : World} {q Bf g p : Nat} {f : Nat → Nat} {v : Value} {hs : List Nat} (h : St W q Bf f w v hs) (hv : a.eval s = v) (hx : a.eval x = .slice (some ⟨g, 0, none⟩) 1 1) (hg : Bx w g 98 (psC p (hB f p 10))) (hlen : hs.length + 1 ≤ 4096) (hq : q ≠ Bf) (hBf : Bf < W.heap.size)
    (K : ∀ A' c' w', St W q Bf f (w'.setCell ⟨Bf, 0, none⟩ (.slice A' (hs.length + 1) c')) (.slice A' (hs.length + 1) c') (hs ++ [p]) → w'.cell? ⟨Bf, 0, none⟩ = some v → w'.frozen? ⟨Bf, 0, none⟩ = false → w.heap.size ≤ w'.heap.size → wpList Try.prog ops Q rest (a.put o.dst (.slice A' (hs.length + 1) c')) w') : wpList Try.prog ops Q (o :: rest) a w := by
  obtain ⟨i0, hi, hz0, hz1, hz2⟩ := info_parts PosS_info
  have hL : (psC p (hB f p 10)).toList.length = 1 * 2 := rfl
  obtain ⟨v', w', hrun, h2, h3, _, h5⟩ := run_append_own_at (P := Try.prog) w 0 95 o.type 98 i0 _ 2 4 Try.underlying95 hi hz0 hz1 hz2 rfl (by omega) v hs.length _ h.row ⟨g, 0, none⟩ 1 1 (psC p (hB f p 10)).toList hL (fun j u hu => by
    have hadd : (⟨g, 0, none⟩ : Addr).add j = ⟨g, j, none⟩ := by unfold Addr.add; split <;> simp_all
    rw [hadd]
    exact hg.at_ (by simpa using hu)) (by simp [psC, Value.oneCell']) (by unfold maxLen; omega) (by omega) (Nat.zero_le _)
  have hs' := h.size
  obtain ⟨A', c', rfl⟩ : ∃ A' c', v' = .slice A' (hs.length + 1) c' := by
    rcases h2.2 with ⟨e, e2⟩ | ⟨g, cap, cur, e, _⟩
    · omega
    · exact ⟨_, _, e⟩
  have hBw : Bf < w.heap.size := by omega
  have hown' : ∀ b, (Value.slice A' (hs.length + 1) c').ownBlock = some b → b = q ∨ W.heap.size ≤ b := fun b hb => by
    rcases h5 with h5 | h5
    · exact h.own b (h5 ▸ hb)
    · rw [h5] at hb; injection hb with hb; exact .inr (by omega)
  have hvB : v.ownBlock ≠ some Bf := fun e => by rcases h.own Bf e with e | e <;> omega
  have hvB' : (Value.slice A' (hs.length + 1) c').ownBlock ≠ some Bf := fun e => by rcases hown' Bf e with e | e <;> omega
  have bf' : Bx w' Bf 95 #[v] := (h3.block Bf hBw (fun e => hvB e.symm)).trans h.cell
  refine wpList_plain hgd fun K' hK' => ?_
  unfold Oper.wp
  simp [execOp, ho, resolve, invoke, builtin, hv, hx, hrun, Result.andThen]
  refine hK' _ _ (K A' c' w' ?_ (bf'.at_ rfl) (bf'.free 0) h3.size)
  have hset : ∀ k, k ≠ Bf → (w'.setCell ⟨Bf, 0, none⟩ (.slice A' (hs.length + 1) c')).heap[k]? = w'.heap[k]? := fun k hk => Below.heap_setCell w' ⟨Bf, 0, none⟩ (.slice A' (hs.length + 1) c') k hk
  refine ⟨?_, hown', bf'.set 0 (.slice A' (hs.length + 1) c'), h3.os.trans h.os, h3.tape.trans h.tape, h3.output.trans h.output, by simp; exact Nat.le_trans hs' h3.size, fun k hk h1 h2 => ?_⟩
  · rw [psF_snoc, List.length_append]
    refine ⟨h2.1, ?_⟩
    rcases h2.2 with hn | ⟨g, cap, cur, e, hb', hgg, rest⟩
    · exact .inl hn
    · refine .inr ⟨g, cap, cur, e, hb', (hset g (fun e2 => hvB' (by rw [e, e2]; rfl))).trans hgg, rest⟩
  · refine (hset k h2).trans ((h3.block k (by omega) (fun e => ?_)).trans (h.block k hk h1 h2))
    rcases h.own k e.symm with e2 | e2 <;> omega
theorem psE_fx {n : Nat} (f : Nat → Nat) (h : Nat) : psE h (hB f h 10) (dB n f h) (hB f (dB n f h) 10) = fxB n f h := by
  unfold psE fxB
  rw [Bool.eq_iff_iff, Bool.and_eq_true, beq_iff_eq, beq_iff_eq, beq_iff_eq]
  constructor
  · rintro ⟨e, _⟩; exact e.symm
  · intro e; rw [e]; exact ⟨rfl, rfl⟩
/-- What a visit leaves: the sets that it found stand behind those that were there. -/
def Vis (W : World) (q Bf : Nat) (f : Nat → Nat) (hs : List Nat) (w : World) (e : Ending) (w' : World) : Prop :=
  e = .returned (.tuple #[]) ∧ ∃ v', St W q Bf f w' v' hs ∧ w.heap.size ≤ w'.heap.size
theorem thirteen_new {w w' : World} {g r : Nat} {n : Int} {f : Nat → Nat} {a b : Nat} (h : Bx w g 98 (psC a b)) (k : Bx w r 78 (arC n f)) (hb : Below w.heap.size w w') :
    Below w.heap.size w w' ∧ (w'.cell? ⟨g, 0, none⟩ = some (.int .u16 (a : Int)) ∧ w'.cell? ⟨g, 1, none⟩ = some (.int .u16 (b : Int))) ∧ w'.cell? ⟨r, 0, none⟩ = some (.int .i64 n) ∧ w'.cell? ⟨r, 1, none⟩ = some (.int .u16 (f 0 : Nat)) ∧ w'.cell? ⟨r, 2, none⟩ = some (.int .u16 (f 1 : Nat)) ∧ w'.cell? ⟨r, 3, none⟩ = some (.int .u16 (f 2 : Nat)) ∧ w'.cell? ⟨r, 4, none⟩ = some (.int .u16 (f 3 : Nat)) ∧ w'.cell? ⟨r, 5, none⟩ = some (.int .u16 (f 4 : Nat)) ∧ w'.cell? ⟨r, 6, none⟩ = some (.int .u16 (f 5 : Nat)) ∧ w'.cell? ⟨r, 7, none⟩ = some (.int .u16 (f 6 : Nat)) ∧ w'.cell? ⟨r, 8, none⟩ = some (.int .u16 (f 7 : Nat)) ∧ w'.cell? ⟨r, 9, none⟩ = some (.int .u16 (f 8 : Nat)) ∧ w'.cell? ⟨r, 10, none⟩ = some (.int .u16 (f 9 : Nat)) :=
  ⟨hb, (h.new hb).two, (k.new hb).eleven⟩
theorem PS_guard : Try.prog.eqGuardType Try.prog.depth 98 = false := by kernel_rfl
set_option maxHeartbeats 4000000 in
theorem visit_any {W : World} {q Bf Br Bv n : Nat} {f : Nat → Nat} (hn : n ≤ 10) (hf : ∀ a, f a < 65536) (hq : q ≠ Bf) (hBf : Bf < W.heap.size) (hBr : Bx W Br 78 (arC n f)) (hBv : Bx W Bv 129 #[.func (.func 124) #[] #[.pointer (some ⟨Br, 0, none⟩), .pointer (some ⟨Bf, 0, none⟩), .pointer (some ⟨Bv, 0, none⟩)]])
    (r1 : Br ≠ q) (r2 : Br ≠ Bf) (v1 : Bv ≠ q) (v2 : Bv ≠ Bf) (d : Nat) : ∀ (x h : Nat) (w : World) (v : Value) (hs : List Nat), x + d = n → h < 2 ^ x → St W q Bf f w v hs → hs.length + (vsB n f d h).length ≤ 4096 →
    Calls Try.prog 124 #[.int .u16 (h : Nat), .int .i64 (x : Nat), .pointer (some ⟨Br, 0, none⟩), .pointer (some ⟨Bf, 0, none⟩), .pointer (some ⟨Bv, 0, none⟩)] w (Vis W q Bf f (hs ++ vsB n f d h) w) := by
  induction d using Nat.strongRecOn with
  | ind d IH =>
  intro x h w v hs hx hh hst hlen
  have hh16 : h < 65536 := Nat.lt_of_lt_of_le hh (Nat.le_trans (Nat.pow_le_pow_right (by decide) (show x ≤ 16 by omega)) (by decide))
  have rx := hst.bx hBr r1 r2
  have hgl := hB_lt hf h 10
  have IH' := Lib.hid IH
  have HL := Lib.hid hlen
  have HX := Lib.hid hx
  have HH := Lib.hid hh
  have HF := Lib.hid hf
  clear IH hlen hx hh
  go_enter Try.func124, Try.ntmps124
  go_wp2_with (first | (refine ldAR rfl (.tmp 2) rfl rx rfl rfl ?_))
  refine (positionOf_any (n := n) (f := f) (x := h) HF.out hh16).mono ?_
  rintro e w3 ⟨rfl, hb3⟩
  have st3 := hst.new hb3
  have bp := Bx.made w3 98 (psC 0 0)
  have hb4 : Below w3.heap.size w3 (w3.alloc (Obj.cells (psC 0 0) 98)) := (Below.refl _ _).alloc (Nat.le_refl _) _
  have st4 := st3.new hb4
  have hs3 := hb3.size
  obtain ⟨W4, hW4⟩ : ∃ u : World, u = w3.alloc (Obj.cells (psC 0 0) 98) := ⟨_, rfl⟩
  have hs4 : W4.heap.size = w3.heap.size + 1 := by rw [hW4]; simp
  rw [← hW4] at bp st4 hb4
  rw [← psC_zero] at hW4
  have hW4' := hW4.symm
  have st5 := st4.put (psC h (hB f h 10)) st3.lt (by have := st3.size; exact this) hBf
  have bp5 := bp.setRow (psC h (hB f h 10))
  have hs5 : (W4.setRow w3.heap.size (psC h (hB f h 10))).heap.size = W4.heap.size := by simp [World.setRow]
  obtain ⟨W5, hW5⟩ : ∃ u : World, u = W4.setRow w3.heap.size (psC h (hB f h 10)) := ⟨_, rfl⟩
  rw [← hW5] at st5 bp5 hs5
  have HW5 := Lib.hid hW5.symm
  generalize hg : w3.heap.size = g at *
  clear hW4 hW5 hb4 hb3 st4 st3 rx hst
  go_wp2_with (first | (refine stPS (p := h) (q := hB f h 10) rfl (.tmp 7) (.tmp 11) rfl bp rfl rfl rfl ?_; rw [HW5.out]) | (refine ldPS rfl (.tmp 7) rfl bp5 rfl rfl ?_))
  refine (posFree_any hh16 hgl).mono ?_
  rintro e w6 ⟨rfl, hb6⟩
  have st6 := st5.new hb6
  have bp6 := bp5.new hb6
  have hs6 := hb6.size
  clear hW4' HW5 bp st5 bp5 hb6
  by_cases hfr : frB f h = true
  case neg =>
    have hfr' : ((h &&& hB f h 10) == 0) = false := by simpa [frB] using hfr
    have HV := Lib.hid (show vsB n f d h = [] by unfold vsB; rw [if_neg hfr])
    clear hfr
    rw [hfr']
    clear hfr'
    go_wp2_with fail
    go_end0
    exact ⟨rfl, v, by rw [HV.out, List.append_nil]; exact st6, by omega⟩
  case pos =>
    have hfr' : ((h &&& hB f h 10) == 0) = true := by simpa [frB] using hfr
    have HV := Lib.hid (show vsB n f d h = slfB n f h ++ lpB n f d h by unfold vsB; rw [if_pos hfr])
    clear hfr
    rw [hfr']
    clear hfr'
    have rx6 := st6.bx hBr r1 r2
    have hDl := dB_lt (n := (n : Int)) (by omega) f h
    have hdd := psC_eql h (hB f h 10) (dB n f h) (hB f (dB n f h) 10)
    rw [psE_fx] at hdd
    obtain ⟨D, hD⟩ : ∃ D, D = dB n f h := ⟨_, rfl⟩
    rw [← hD] at hDl hdd
    obtain ⟨H, hH⟩ : ∃ H, H = hB f h 10 := ⟨_, rfl⟩
    rw [← hH] at hdd hgl bp6
    obtain ⟨cs2, hcs2⟩ : ∃ cs2, cs2 = psC D (hB f D 10) := ⟨_, rfl⟩
    rw [← hcs2] at hdd
    have HC2 := Lib.hid hcs2
    have HD := Lib.hid hD
    have HHH := Lib.hid hH
    have hq2 := fun (w : World) (x y : Operand) => run_eqGuard_agg (P := Try.prog) w .eql 98 x y (psC h H) cs2 PS_guard
    have HN := Lib.hid (show ∀ k, Below w6.heap.size w6 k → _ from fun k hk => thirteen_new bp6 rx6 hk)
    clear hcs2 hD hH
    unfold psC at hdd hq2
    obtain ⟨b, hb⟩ : ∃ b, b = fxB n f h := ⟨_, rfl⟩
    rw [← hb] at hdd
    have HB := Lib.hid hb
    clear hb
    go_wp2_with fail
    go_region_held3 (fun w' => Below w6.heap.size w6 w' ∧ (w'.cell? ⟨g, 0, none⟩ = some (.int .u16 (h : Int)) ∧ w'.cell? ⟨g, 1, none⟩ = some (.int .u16 (H : Int))) ∧ w'.cell? ⟨Br, 0, none⟩ = some (.int .i64 n) ∧ w'.cell? ⟨Br, 1, none⟩ = some (.int .u16 (f 0 : Nat)) ∧ w'.cell? ⟨Br, 2, none⟩ = some (.int .u16 (f 1 : Nat)) ∧ w'.cell? ⟨Br, 3, none⟩ = some (.int .u16 (f 2 : Nat)) ∧ w'.cell? ⟨Br, 4, none⟩ = some (.int .u16 (f 3 : Nat)) ∧ w'.cell? ⟨Br, 5, none⟩ = some (.int .u16 (f 4 : Nat)) ∧ w'.cell? ⟨Br, 6, none⟩ = some (.int .u16 (f 5 : Nat)) ∧ w'.cell? ⟨Br, 7, none⟩ = some (.int .u16 (f 6 : Nat)) ∧ w'.cell? ⟨Br, 8, none⟩ = some (.int .u16 (f 7 : Nat)) ∧ w'.cell? ⟨Br, 9, none⟩ = some (.int .u16 (f 8 : Nat)) ∧ w'.cell? ⟨Br, 10, none⟩ = some (.int .u16 (f 9 : Nat))) (first | assumption | exact HN.out _ (Below.refl _ _) | exact HN.out _ ((Below.refl _ _).drew) | exact HN.out _ k9 | exact HN.out _ (Below.drew k9) | exact HN.out _ (Below.drew (‹Below w6.heap.size w6 _ ∧ _›).1))
      (first
      | (go_at_call 92; (refine (defBits_any (n := (n : Int)) (f := f) (x := h) (by omega) (by omega) HF.out hh16).mono ?_); rintro e u9 ⟨he, hb9⟩; rw [← HD.out] at he; subst he; have k9 := trans_new (‹Below w6.heap.size w6 _ ∧ _›).1 hb9)
      | (go_at_call 125; (refine (positionOf_any (n := (n : Int)) (f := f) (x := D) HF.out (by omega)).mono ?_); rintro e u9 ⟨he, hb9⟩; rw [← HC2.out] at he; subst he; have k9 := trans_new (‹Below w6.heap.size w6 _ ∧ _›).1 hb9))
    have st9 := st6.new k9
    have bp9 := bp6.new k9
    have hs9 := k9.size
    clear bp6 st6 rx6 HN hb9
    cases b
    case' false =>
      go_wp2_with fail
      have stL := st9
      have hyL := Lib.hid (show hs ++ lpB n f d h = hs ++ vsB n f d h by rw [HV.out]; unfold slfB; rw [← HB.out]; rfl)
      have hszL : w.heap.size ≤ u9.heap.size := by omega
      obtain ⟨vL, hvL⟩ : ∃ vL, vL = v := ⟨_, rfl⟩
      obtain ⟨ysL, hysL⟩ : ∃ ysL, ysL = hs := ⟨_, rfl⟩
      rw [← hvL] at stL
      rw [← hysL] at stL
      have hyL := Lib.hid (show ysL ++ lpB n f d h = hs ++ vsB n f d h by rw [hysL]; exact hyL.out)
      clear hvL hysL st9 bp9
    case' true =>
      have cB := st9.cell.at_ (k := 0) (v := v) rfl
      have hm := (Below.refl u9.heap.size u9).alloc (Nat.le_refl _) (Obj.cells (psC h H) 98)
      have st10 := st9.new hm
      have bm : Bx (u9.alloc (Obj.cells (psC h H) 98)) u9.heap.size 98 (psC h (hB f h 10)) := by
        have := Bx.made u9 98 (psC h H)
        rw [HHH.out] at this ⊢
        exact this
      have hl1 : hs.length + 1 ≤ 4096 := by
        have h1 := HL.out
        rw [HV.out, List.length_append] at h1
        unfold slfB at h1
        rw [← HB.out] at h1
        simp at h1
        omega
      unfold psC at st10 bm bp9
      go_wp2_with (first | (refine ldPS rfl (.tmp 7) rfl bp9 rfl rfl ?_) | (at_builtin; refine wpList_vis (p := h) rfl (.tmp 22) (.tmp 24) rfl st10 rfl rfl bm hl1 hq hBf ?_; intro AL cL w10 stL hc10 hf10 hs10))
      obtain ⟨ysL, hysL⟩ : ∃ ysL, ysL = hs ++ [h] := ⟨_, rfl⟩
      rw [← hysL] at stL
      have hyL := Lib.hid (show ysL ++ lpB n f d h = hs ++ vsB n f d h by rw [hysL, HV.out]; unfold slfB; rw [← HB.out]; simp)
      have hszL : w.heap.size ≤ (w10.setCell ⟨Bf, 0, none⟩ (.slice AL (hs.length + 1) cL)).heap.size := by simp at hs10 ⊢; omega
      obtain ⟨vL, hvL⟩ : ∃ vL, vL = Value.slice AL (hs.length + 1) cL := ⟨_, rfl⟩
      rw [← hvL] at stL hszL ⊢
      clear hvL hysL hc10 hf10 hs10 st10 bm st9 bp9 hm cB hl1
    all_goals
      clear hdd hq2
      go_loopw [8] (fun i wr => ∃ (c : Nat) (v6 : Value) (ys : List Nat), (x ≤ c ∧ c ≤ n) ∧ i = .int .i64 c ∧ St W q Bf f wr v6 ys ∧ Hid (ys ++ lpB n f (n - c) h = hs ++ vsB n f d h) ∧ w.heap.size ≤ wr.heap.size) (fun i _ => n - (intOf i).toNat)
      case atStart => exact ⟨x, vL, ysL, ⟨Nat.le_refl _, by have := HX.out; omega⟩, rfl, stL, by rw [show n - x = d by have := HX.out; omega]; exact hyL, hszL⟩
      case round =>
        obtain ⟨c, v6, ys, ⟨hxc, hcn⟩, rfl, st, hys, hsz⟩ := hrel
        have rr := st.bx hBr r1 r2
        have c0 := rr.at_ (k := 0) (v := .int .i64 n) rfl
        have fv := (st.bx hBv v1 v2).at_ (k := 0) rfl
        have std := st.drew
        by_cases hlt : c < n
        · have hc10 : c < 10 := by omega
          have HO := Lib.hid (or_bit (x := h) (b := c) hh16 hc10)
          have hstep := lpB_step n f (n - c - 1) h
          rw [show n - c - 1 + 1 = n - c by omega, show n - (n - c) = c by omega] at hstep
          have HS := Lib.hid hstep
          clear hstep
          have i0 : (0 : Int) ≤ (c : Int) := by omega
          have i1 : (c : Int) < 10 := by omega
          have hw : IntKind.i64.wrap ((c : Int) + 1) = (c : Int) + 1 := IntWalk.i64_in _ (by omega)
          go_wp2_with fail
          go_still_tail 7, (by kernel_rfl)
          have hszd : w.heap.size ≤ wr.drew.heap.size := hsz
          change wpList _ _ _ _ _ wr.drew
          generalize wr.drew = w2 at std hszd ⊢
          clear st rr c0 fv
          go_wp2_with fail
          rw [HO.out, show (c : Int) + 1 = ((c + 1 : Nat) : Int) by omega]
          have hxn := HX.out
          refine (IH'.out (n - c - 1) (by omega) (c + 1) (h ||| 2 ^ c) w2 v6 ys (by omega) (or_lt (Nat.lt_of_lt_of_le HH.out (Nat.pow_le_pow_right (by decide) hxc))) std (by
            have h1 := congrArg List.length hys.out
            have h2 := congrArg List.length HS.out
            have h3 := HL.out
            rw [List.length_append, List.length_append] at h1
            rw [List.length_append] at h2
            omega)).mono ?_
          rintro e w9 ⟨rfl, v9, st9, hs9'⟩
          go_wp2_with fail
          go_roundw
          case rel => exact ⟨c + 1, v9, _, ⟨by omega, by omega⟩, by go_num, st9, Lib.hid (by rw [List.append_assoc, show n - (c + 1) = n - c - 1 by omega, ← HS.out]; exact hys.out), by omega⟩
          case measure => simp [intOf]; omega
        · have e : c = n := by omega
          subst e
          go_wp2_with fail
          go_end0
          exact ⟨rfl, v6, by have := hys.out; rw [Nat.sub_self, show lpB c f 0 h = [] from rfl, List.append_nil] at this; rw [← this]; exact st, hsz⟩
end Go.Proofs.Ytejncjjkcmhmbaa
