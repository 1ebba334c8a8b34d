/- A row that a loop makes grow: which blocks it may turn and which stay, and append's law for it; filters of a list's beginning. No conditions. -/
import Derived.Test.YtobghogkflgpeaaMg1
import Derived.Test.YtobghogkflgpeaaMg17
namespace Go.Proofs.Ytobghogkflgpeaa
open Go.ChangeShapes Go.WideShapes Go.ChangeAt Go.RowKit
/-- A row that began in block q of world W and has grown since; of what W held, block q alone has turned. -/
structure Gr (W : World) (q : Nat) (t : TypeId) (w : World) (v : Value) (xs : List Value) : Prop where
  row : Row w q w.heap.size t v xs
  out : Out q (q + 1) W w
  own : ∀ g, v.ownBlock = some g → g = q ∨ W.heap.size ≤ g
section
variable {W w w' : World} {q : Nat} {t : TypeId} {v : Value} {xs : List Value}
theorem Gr.start (h : Row W q W.heap.size t (.slice (some ⟨q, 0, none⟩) 0 0) xs) : Gr W q t W (.slice (some ⟨q, 0, none⟩) 0 0) xs :=
  ⟨h, Out.refl, fun g hg => by simp [Value.ownBlock] at hg; exact .inl hg.symm⟩
theorem Gr.nil (W : World) (q : Nat) (t : TypeId) : Gr W q t W (.slice none 0 0) [] := ⟨Row.nil, Out.refl, fun g hg => by simp [Value.ownBlock] at hg⟩
theorem Gr.new (h : Gr W q t w v xs) (hb : Below w.heap.size w w') : Gr W q t w' v xs :=
  ⟨(h.row.new hb).wide (Nat.le_refl _) hb.size, h.out.trans (Out.of_below hb), h.own⟩
theorem Gr.drewN (h : Gr W q t w v xs) (n : Nat) : Gr W q t (w.drewN n) v xs := ⟨h.row, h.out.drewN n, h.own⟩
theorem Gr.drew (h : Gr W q t w v xs) : Gr W q t w.drew v xs := h.drewN 1
theorem Gr.below (h : Gr W q t w v xs) {B : Nat} (hB : B ≤ q) (hs : B ≤ W.heap.size) : Below B W w := h.out.below hB hs
theorem Gr.rd {B : Nat} {A : Option Addr} {ys : List Value} (h : Gr W q t w v xs) (r : Rd W B A ys) (hB : B ≤ q) (hs : B ≤ W.heap.size) : Rd w w.heap.size A ys := (r.below (h.below hB hs)).more (by have := h.out.size; omega)
theorem Gr.other {lo hi : Nat} {t' : TypeId} {u : Value} {ys : List Value} (h : Gr W q t w v xs) (r : Row W lo hi t' u ys) (hq : q < lo) : Row w lo hi t' u ys := r.out h.out (.inr hq)
/-- The row may only lie in block q, or in blocks made since: another row's block is not touched. -/
theorem run_gr {P : Program} (ty ty' : TypeId) (e : TypeId) (i : TypeInfo) (z : Value) (bytes : Nat) (ht : P.underlying ty = some (.slice e)) (hi : P.info? e = some i) (hz : i.zero = some z) (hsize : i.size = 1) (hby : i.bytes = bytes) (hzs : z.cells.size = 1)
    {B m c : Nat} {news : List Value} {ad : Addr} (h : Gr W q e w v xs) (hq : q ≤ w.heap.size) (hm : news.length = m) (hr : Rd w B (some ad) news) (h1 : ∀ u ∈ news, u.oneCell' = true)
    (h63 : xs.length + m ≤ maxLen) (hbytes : (xs.length + m) * bytes ≤ 140737488355328) :
    ∃ v' w', (Builtin.append_ #[ty, ty] ty' #[v, .slice (some ad) m c]).run P w = .ok v' w' ∧ Gr W q e w' v' (xs ++ news) ∧ w.heap.size ≤ w'.heap.size := by
  obtain ⟨v', w', hrun, h2, h3⟩ := run_app (P := P) ty ty' e i z bytes ht hi hz hsize hby hzs (c := c) h.row hm hr h1 h63 hbytes hq
  obtain ⟨v2, w2, hrun2, _, b2, _, b4⟩ := run_append_own_at (P := P) w q ty ty' e i z 1 bytes ht hi hz hsize hby hzs (by omega) v xs.length xs h.row.1 ad m c news (by omega) (fun j u hu => by
    obtain ⟨ad', e1, _, hc⟩ := hr j u hu
    injection e1 with e1
    subst e1
    exact hc) h1 h63 hbytes hq
  rw [hrun] at hrun2
  injection hrun2 with e1 e2
  subst e1
  subst e2
  have hs := h.out.size
  refine ⟨v', w', hrun, ⟨h2, ⟨b2.os.trans h.out.os, b2.tape.trans h.out.tape, b2.output.trans h.out.output, by have := b2.size; omega, fun k hk hn => ?_⟩, fun g hg => ?_⟩, b2.size⟩
  · refine (b2.block k (by omega) (fun e => ?_)).trans (h.out.block k hk hn)
    have := h.own k e.symm
    omega
  · rcases b4 with b4 | b4
    · exact h.own g (b4 ▸ hg)
    · rw [b4] at hg
      injection hg with hg
      exact .inr (by omega)
end
/-- Append's law for a row that grows. -/
theorem wpList_gr {P : Program} {w : World} {ops : Array Oper} {rest : List Oper} {o : Oper} {a : Act} {Q : Exit → Act → World → Prop} (hgd : o.guard = none) (s x : Operand) (t : TypeId)
    (ho : o.op = .call { callee := .builtin .append, args := #[s, x], argTypes := #[t, t] })
    (e : TypeId) (i : TypeInfo) (z : Value) (bytes : Nat) (ht : P.underlying t = some (.slice e)) (hi : P.info? e = some i) (hz : i.zero = some z) (hsize : i.size = 1) (hby : i.bytes = bytes) (hzs : z.cells.size = 1)
    {W : World} {q B m c : Nat} {v : Value} {xs news : List Value} {ad : Addr} (hs : a.eval s = v) (hx : a.eval x = .slice (some ad) m c) (h : Gr W q e w v xs) (hq : q ≤ w.heap.size) (hm : news.length = m) (hr : Rd w B (some ad) news) (h1 : ∀ u ∈ news, u.oneCell' = true)
    (h63 : xs.length + m ≤ maxLen) (hbytes : (xs.length + m) * bytes ≤ 140737488355328)
    (K : ∀ v' w', Gr W q e w' v' (xs ++ news) → w.heap.size ≤ w'.heap.size → wpList P ops Q rest (a.put o.dst v') w') : wpList P ops Q (o :: rest) a w := by
  obtain ⟨v', w', hrun, h2, h3⟩ := run_gr (P := P) t o.type e i z bytes ht hi hz hsize hby hzs (c := c) h hq hm hr h1 h63 hbytes
  refine wpList_plain hgd fun K' hK' => ?_
  unfold Oper.wp
  simp [execOp, ho, resolve, invoke, builtin, hs, hx, hrun, Result.andThen]
  exact hK' _ _ (K v' w' h2 h3)
theorem alloc_new (w : World) (o : Obj) : Below w.heap.size w (w.alloc o) := (Below.refl _ _).alloc (Nat.le_refl _) o
theorem filt_yes {α : Type} {l : List α} {p : α → Bool} {k : Nat} (hk : k < l.length) (h : p l[k] = true) : (l.take (k + 1)).filter p = (l.take k).filter p ++ [l[k]] := by
  rw [List.take_succ_eq_append_getElem hk, List.filter_append]; simp [h]
theorem filt_no {α : Type} {l : List α} {p : α → Bool} {k : Nat} (hk : k < l.length) (h : p l[k] = false) : (l.take (k + 1)).filter p = (l.take k).filter p := by
  rw [List.take_succ_eq_append_getElem hk, List.filter_append]; simp [h]
theorem filt_len {α : Type} (l : List α) (p : α → Bool) (k : Nat) : ((l.take k).filter p).length ≤ k := Nat.le_trans (List.length_filter_le _ _) (by simp; omega)
end Go.Proofs.Ytobghogkflgpeaa

/- Contract of the model of HitBy. No conditions but that the slices have at most 2^40 elements. -/
namespace Go.Proofs.Ytobghogkflgpeaa
open Go.ChangeShapes Go.WideShapes Go.ChangeAt Go.RowKit
set_option maxRecDepth 100000
theorem l4Has_any {w : World} {A : Option Addr} {n c : Nat} {a : Int} {S : List Int} (hl : Hid (S.length = n)) (hn : n ≤ 1099511627776) (hr : Rd w w.heap.size A (ivs S)) :
    Calls Try.prog 90 #[.slice A n c, .int .i64 a] w (fun e w' => e = .returned (.bool (S.contains a)) ∧ w = w') := by
  go_enter Try.func90, Try.ntmps90
  go_wp2_with fail
  go_loopw [5] (fun i wr => ∃ k : Nat, k ≤ n ∧ i = .int .i64 k ∧ wr = w ∧ Hid ((S.take k).contains a = false)) (fun i _ => n - (intOf i).toNat)
  case atStart => exact ⟨0, Nat.zero_le _, rfl, rfl, Lib.hid rfl⟩
  case round =>
    obtain ⟨k, hk, rfl, rfl, hno⟩ := hrel
    by_cases hlt : k < n
    · have hkz : k < S.length := by rw [hl.out]; exact hlt
      obtain ⟨ad, rfl, hab, hc⟩ := ivs_at hr hkz
      have i0 : (0 : Int) ≤ (k : Int) := by omega
      by_cases h1 : S[k] = a
      · have HY := Lib.hid (show S.contains a = true by rw [List.contains_iff_mem]; exact h1 ▸ List.getElem_mem hkz)
        rw [h1] at hc
        clear h1
        go_wp2_with fail
        go_ret
        exact ⟨ret_b HY.out.symm, rfl⟩
      · have HN := Lib.hid (show (S.take (k + 1)).contains a = false by
          rw [List.take_succ_eq_append_getElem hkz]
          have := hno.out
          simp only [List.contains_eq_mem, decide_eq_false_iff_not, List.mem_append, List.mem_singleton, not_or] at this ⊢
          exact ⟨this, fun e => h1 e.symm⟩)
        have h1' : (S[k] == a) = false := by simpa using h1
        obtain ⟨z, hz⟩ : ∃ z, z = S[k] := ⟨_, rfl⟩
        rw [← hz] at hc h1 h1'
        clear hz
        go_wp2_with fail
        go_roundw
        case rel => exact ⟨k + 1, by omega, by go_num, trivial, HN⟩
        case measure => simp [intOf]; omega
    · have e : k = n := by omega
      subst e
      have HF := Lib.hid (show S.contains a = false by have := hno.out; rwa [List.take_of_length_le (by rw [hl.out]; exact Nat.le_refl _)] at this)
      go_wp2_with fail
      go_ret
      exact ⟨ret_b HF.out.symm, rfl⟩
theorem hitL_yes {X : List (List Int)} {S : List Int} {k : Nat} (h : hitP X S k = true) : hitL X S (k + 1) = hitL X S k ++ [(k : Int)] := by simp [hitL, List.range_succ, h]
theorem hitL_no {X : List (List Int)} {S : List Int} {k : Nat} (h : hitP X S k = false) : hitL X S (k + 1) = hitL X S k := by simp [hitL, List.range_succ, h]
theorem hitL_len (X : List (List Int)) (S : List Int) (k : Nat) : (hitL X S k).length ≤ k := by
  unfold hitL
  rw [List.length_map]
  exact Nat.le_trans (List.length_filter_le _ _) (by simp)
end Go.Proofs.Ytobghogkflgpeaa

/- Contracts of the models of chapter 5: IsSet, IsFree, Defends. No conditions but that the slices have at most 2^40 elements. -/
namespace Go.Proofs.Ytobghogkflgpeaa
open Go.ChangeShapes Go.WideShapes Go.ChangeAt Go.RowKit
set_option maxRecDepth 100000
theorem one_graph (w : World) (cs : Array Value) (t : TypeId) : ∃ W1 : World, W1 = w.alloc (Obj.cells cs t) ∧ Bx W1 w.heap.size t cs ∧ Below w.heap.size w W1 := ⟨_, rfl, Bx.made w t cs, (Below.refl _ _).alloc (Nat.le_refl _) _⟩
theorem any_takeF {α : Type} {X : List α} {f : α → Bool} {k : Nat} (hk : k < X.length) : (X.take (k + 1)).any f = ((X.take k).any f || f X[k]) := by
  rw [List.take_succ_eq_append_getElem hk, List.any_append]; simp
def okS (N : Int) (S : List Int) (i : Nat) : Bool := inr (S.getD i 0) 0 (N - 1) && (decide (i = 0) || decide (S.getD (i - 1) 0 < S.getD i 0))
def SPre (N : Int) (S : List Int) (k : Nat) : Prop := ∀ i, i < k → okS N S i = true
instance (N : Int) (S : List Int) (k : Nat) : Decidable (SPre N S k) := by unfold SPre; infer_instance
/-- Whether a list is a set of the graph's claims. -/
def setB (N : Int) (X : List (List Int)) (S : List Int) : Bool := gB N X && decide (SPre N S S.length)
theorem SPre.succ {N : Int} {S : List Int} {k : Nat} (h : SPre N S k) (hk : okS N S k = true) : SPre N S (k + 1) := fun i hi => by
  rcases Nat.lt_succ_iff_lt_or_eq.1 hi with h1 | rfl
  · exact h i h1
  · exact hk
theorem setB_bad {N : Int} {X : List (List Int)} {S : List Int} {k : Nat} (hk : k < S.length) (h : okS N S k = false) : setB N X S = false := by
  unfold setB
  rw [decide_eq_false (fun hp => by rw [hp k hk] at h; cases h), Bool.and_false]
theorem getD_i {S : List Int} {k : Nat} (h : k < S.length) : S.getD k 0 = S[k] := by simp [List.getD, h]
/-- Whether a list is free of quarrels. -/
def freeB (N : Int) (X : List (List Int)) (S : List Int) : Bool := !(S.any fun z => (hit N X S).contains z) && setB N X S
theorem hit_len (N : Int) (Y : List (List Int)) (S : List Int) : (hit N Y S).length ≤ 10 := by
  rw [← hit_code]
  exact lsT_len _ _
/-- Whether a set defends a claim. -/
def defB (N : Int) (X : List (List Int)) (S : List Int) (c : Int) : Bool := setB N X S && inr c 0 (N - 1) && !((atk N X c).any fun z => !((hit N X S).contains z))
theorem atk_lenF (N : Int) (X : List (List Int)) (c : Int) (h : gB N X = true) : (atk N X c).length ≤ X.length := by
  unfold atk
  rw [if_pos h, List.length_map]
  exact List.length_filter_le _ _
theorem atk_lenX (N : Int) (X : List (List Int)) (c : Int) : (atk N X c).length ≤ X.length := by
  by_cases h : gB N X = true
  · exact atk_lenF N X c h
  · unfold atk; rw [if_neg h]; simp
end Go.Proofs.Ytobghogkflgpeaa
