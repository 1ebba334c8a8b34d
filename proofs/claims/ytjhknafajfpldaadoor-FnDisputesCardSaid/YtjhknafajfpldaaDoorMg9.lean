/- Contract of slices.Clone. Condition: the slice has at most 2^40 elements. -/
import Derived.Test.YtjhknafajfpldaaDoorMg1
import Derived.Lib.SliceRun
import Derived.Test.YtjhknafajfpldaaDoorMg8
namespace Go.Proofs.YtjhknafajfpldaaDoor
open Go.ChangeShapes Go.WideShapes Go.ChangeAt Go.RowKit
set_option maxRecDepth 100000
theorem clone_any {w : World} {A : Option Addr} {n c : Nat} {xs : List Int} (hl : Hid (xs.length = n)) (hn : n ≤ 1099511627776) (hr : Rd w w.heap.size A (ivs xs)) :
    Calls Tryd.prog 63 #[.slice A n c] w (Fresh 3 (ivs xs) w) := by
  obtain ⟨i0, hi, hz0, hz1, hz2⟩ := info_parts IntS_info
  have q22 : ∀ (w : World) (a : Option Addr) (n c n' c' : Nat), (binOp .eql 27 (.slice a n c) (.slice none n' c')).run Tryd.prog w = .ok (.bool a.isNone) w := fun w a n c n' c' => Lib.run_eql_slice_nil w _ _ a n c n' c' Tryd.underlying27
  cases A with
  | none =>
    have hx : xs = [] := by
      cases xs with
      | nil => rfl
      | cons x xs =>
        obtain ⟨ad, e, _⟩ := ivs_at hr (k := 0) (by simp)
        cases e
    subst hx
    go_enter Tryd.func63, Tryd.ntmps63
    go_wp2
    go_ret
    exact ⟨_, rfl, Row.nil, Below.refl _ _⟩
  | some ad =>
    have hrow0 := Row.made (w := w) w.heap.size #[] 0 3 (Nat.le_refl _) rfl (Nat.zero_le _)
    have hb0 : Below w.heap.size w (w.alloc (Obj.cells #[] 3)) := (Below.refl _ _).alloc (Nat.le_refl _) _
    have hr1 := hr.below hb0
    have L : ([] : List Value).length + n ≤ maxLen ∧ (([] : List Value).length + n) * 8 ≤ 140737488355328 := by unfold maxLen; simp; omega
    have L1 := Lib.hid L
    have HLn := Lib.hid (show (ivs xs).length = n by rw [ivs_len, hl.out])
    clear L
    go_enter Tryd.func63, Tryd.ntmps63
    go_wp2_with (at_builtin; refine wpList_app rfl (.tmp 5) (.tmp 6) 27 rfl 3 i0 _ 8 Tryd.underlying27 hi hz0 hz1 hz2 rfl rfl rfl hrow0 HLn.out hr1 int_one L1.out.1 L1.out.2 (by simp) ?_; intro v1 w1 hrow1 ho1)
    go_ret
    exact ⟨v1, rfl, by simpa using hrow1, hb0.trans (ho1.below (Nat.le_refl _) (by simp))⟩
end Go.Proofs.YtjhknafajfpldaaDoor

/- A row that a loop makes grow: which blocks it may turn and which stay, and append's law for it; filters of a list's beginning. No conditions. -/
namespace Go.Proofs.YtjhknafajfpldaaDoor
open Go.ChangeShapes Go.WideShapes Go.ChangeAt Go.RowKit
/-- A row that began in block q of world W and has grown since; of what W held, block q alone has turned. -/
structure Gr (W : World) (q : Nat) (t : TypeId) (w : World) (v : Value) (xs : List Value) : Prop where
  row : Row w q w.heap.size t v xs
  out : Out q (q + 1) W w
  own : ∀ g, v.ownBlock = some g → g = q ∨ W.heap.size ≤ g
section
variable {W w w' : World} {q : Nat} {t : TypeId} {v : Value} {xs : List Value}
theorem Gr.start (h : Row W q W.heap.size t (.slice (some ⟨q, 0, none⟩) 0 0) xs) : Gr W q t W (.slice (some ⟨q, 0, none⟩) 0 0) xs :=
  ⟨h, Out.refl, fun g hg => by simp [Value.ownBlock] at hg; exact .inl hg.symm⟩
theorem Gr.nil (W : World) (q : Nat) (t : TypeId) : Gr W q t W (.slice none 0 0) [] := ⟨Row.nil, Out.refl, fun g hg => by simp [Value.ownBlock] at hg⟩
theorem Gr.new (h : Gr W q t w v xs) (hb : Below w.heap.size w w') : Gr W q t w' v xs :=
  ⟨(h.row.new hb).wide (Nat.le_refl _) hb.size, h.out.trans (Out.of_below hb), h.own⟩
theorem Gr.drewN (h : Gr W q t w v xs) (n : Nat) : Gr W q t (w.drewN n) v xs := ⟨h.row, h.out.drewN n, h.own⟩
theorem Gr.drew (h : Gr W q t w v xs) : Gr W q t w.drew v xs := h.drewN 1
theorem Gr.below (h : Gr W q t w v xs) {B : Nat} (hB : B ≤ q) (hs : B ≤ W.heap.size) : Below B W w := h.out.below hB hs
theorem Gr.rd {B : Nat} {A : Option Addr} {ys : List Value} (h : Gr W q t w v xs) (r : Rd W B A ys) (hB : B ≤ q) (hs : B ≤ W.heap.size) : Rd w w.heap.size A ys := (r.below (h.below hB hs)).more (by have := h.out.size; omega)
theorem Gr.other {lo hi : Nat} {t' : TypeId} {u : Value} {ys : List Value} (h : Gr W q t w v xs) (r : Row W lo hi t' u ys) (hq : q < lo) : Row w lo hi t' u ys := r.out h.out (.inr hq)
/-- The row may only lie in block q, or in blocks made since: another row's block is not touched. -/
theorem run_gr {P : Program} (ty ty' : TypeId) (e : TypeId) (i : TypeInfo) (z : Value) (bytes : Nat) (ht : P.underlying ty = some (.slice e)) (hi : P.info? e = some i) (hz : i.zero = some z) (hsize : i.size = 1) (hby : i.bytes = bytes) (hzs : z.cells.size = 1)
    {B m c : Nat} {news : List Value} {ad : Addr} (h : Gr W q e w v xs) (hq : q ≤ w.heap.size) (hm : news.length = m) (hr : Rd w B (some ad) news) (h1 : ∀ u ∈ news, u.oneCell' = true)
    (h63 : xs.length + m ≤ maxLen) (hbytes : (xs.length + m) * bytes ≤ 140737488355328) :
    ∃ v' w', (Builtin.append_ #[ty, ty] ty' #[v, .slice (some ad) m c]).run P w = .ok v' w' ∧ Gr W q e w' v' (xs ++ news) ∧ w.heap.size ≤ w'.heap.size := by
  obtain ⟨v', w', hrun, h2, h3⟩ := run_app (P := P) ty ty' e i z bytes ht hi hz hsize hby hzs (c := c) h.row hm hr h1 h63 hbytes hq
  obtain ⟨v2, w2, hrun2, _, b2, _, b4⟩ := run_append_own_at (P := P) w q ty ty' e i z 1 bytes ht hi hz hsize hby hzs (by omega) v xs.length xs h.row.1 ad m c news (by omega) (fun j u hu => by
    obtain ⟨ad', e1, _, hc⟩ := hr j u hu
    injection e1 with e1
    subst e1
    exact hc) h1 h63 hbytes hq
  rw [hrun] at hrun2
  injection hrun2 with e1 e2
  subst e1
  subst e2
  have hs := h.out.size
  refine ⟨v', w', hrun, ⟨h2, ⟨b2.os.trans h.out.os, b2.tape.trans h.out.tape, b2.output.trans h.out.output, by have := b2.size; omega, fun k hk hn => ?_⟩, fun g hg => ?_⟩, b2.size⟩
  · refine (b2.block k (by omega) (fun e => ?_)).trans (h.out.block k hk hn)
    have := h.own k e.symm
    omega
  · rcases b4 with b4 | b4
    · exact h.own g (b4 ▸ hg)
    · rw [b4] at hg
      injection hg with hg
      exact .inr (by omega)
end
/-- Append's law for a row that grows. -/
theorem wpList_gr {P : Program} {w : World} {ops : Array Oper} {rest : List Oper} {o : Oper} {a : Act} {Q : Exit → Act → World → Prop} (hgd : o.guard = none) (s x : Operand) (t : TypeId)
    (ho : o.op = .call { callee := .builtin .append, args := #[s, x], argTypes := #[t, t] })
    (e : TypeId) (i : TypeInfo) (z : Value) (bytes : Nat) (ht : P.underlying t = some (.slice e)) (hi : P.info? e = some i) (hz : i.zero = some z) (hsize : i.size = 1) (hby : i.bytes = bytes) (hzs : z.cells.size = 1)
    {W : World} {q B m c : Nat} {v : Value} {xs news : List Value} {ad : Addr} (hs : a.eval s = v) (hx : a.eval x = .slice (some ad) m c) (h : Gr W q e w v xs) (hq : q ≤ w.heap.size) (hm : news.length = m) (hr : Rd w B (some ad) news) (h1 : ∀ u ∈ news, u.oneCell' = true)
    (h63 : xs.length + m ≤ maxLen) (hbytes : (xs.length + m) * bytes ≤ 140737488355328)
    (K : ∀ v' w', Gr W q e w' v' (xs ++ news) → w.heap.size ≤ w'.heap.size → wpList P ops Q rest (a.put o.dst v') w') : wpList P ops Q (o :: rest) a w := by
  obtain ⟨v', w', hrun, h2, h3⟩ := run_gr (P := P) t o.type e i z bytes ht hi hz hsize hby hzs (c := c) h hq hm hr h1 h63 hbytes
  refine wpList_plain hgd fun K' hK' => ?_
  unfold Oper.wp
  simp [execOp, ho, resolve, invoke, builtin, hs, hx, hrun, Result.andThen]
  exact hK' _ _ (K v' w' h2 h3)
theorem alloc_new (w : World) (o : Obj) : Below w.heap.size w (w.alloc o) := (Below.refl _ _).alloc (Nat.le_refl _) o
theorem filt_yes {α : Type} {l : List α} {p : α → Bool} {k : Nat} (hk : k < l.length) (h : p l[k] = true) : (l.take (k + 1)).filter p = (l.take k).filter p ++ [l[k]] := by
  rw [List.take_succ_eq_append_getElem hk, List.filter_append]; simp [h]
theorem filt_no {α : Type} {l : List α} {p : α → Bool} {k : Nat} (hk : k < l.length) (h : p l[k] = false) : (l.take (k + 1)).filter p = (l.take k).filter p := by
  rw [List.take_succ_eq_append_getElem hk, List.filter_append]; simp [h]
theorem filt_len {α : Type} (l : List α) (p : α → Bool) (k : Nat) : ((l.take k).filter p).length ≤ k := Nat.le_trans (List.length_filter_le _ _) (by simp; omega)
end Go.Proofs.YtjhknafajfpldaaDoor

/- Contracts of the code's copyOfLists and of the model's l12Copy. Condition: the slices have at most 2^40 elements. -/
namespace Go.Proofs.YtjhknafajfpldaaDoor
open Go.ChangeShapes Go.WideShapes Go.ChangeAt Go.RowKit
set_option maxRecDepth 100000
theorem OwnSS.made0 (w : World) : OwnSS (w.alloc (Obj.cells #[] 27)) w.heap.size (w.alloc (Obj.cells #[] 27)).heap.size (.slice (some ⟨w.heap.size, 0, none⟩) 0 0) [] := by
  have h := Row.made (w := w) w.heap.size #[] 0 27 (Nat.le_refl _) rfl (Nat.zero_le _)
  have h1 := h.1
  refine ⟨[w.heap.size], ⟨.slice (some ⟨w.heap.size, 0, none⟩) 0 0, [], rfl, rfl, ⟨h1.1, ?_⟩, rfl, by simp, by simp, by simp⟩, by simp, by simp⟩
  rcases h1.2 with hn | ⟨g, cap, cur, e, hb, rest⟩
  · exact .inl hn
  · exact .inr ⟨g, cap, cur, e, Nat.zero_le _, rest⟩
set_option maxHeartbeats 4000000 in
theorem copyLists_any {w : World} {A : Option Addr} {n c : Nat} {X : List (List Int)} (hl : Hid (X.length = n)) (hn : n ≤ 1099511627776) (hs : Hid (∀ x ∈ X, x.length ≤ 1099511627776)) (hr : RdSS w w.heap.size A X) :
    Calls Tryd.prog 50 #[.slice A n c] w (fun e w' => ∃ v, e = .returned v ∧ OwnSS w' w.heap.size w'.heap.size v X ∧ Below w.heap.size w w') := by
  have ho0 := OwnSS.made0 w
  have hb0 := alloc_new w (Obj.cells #[] 27)
  have HR := Lib.hid hr
  clear hr
  go_enter Tryd.func50, Tryd.ntmps50
  go_wp2_with fail
  go_loopw [3, 9] (fun v i wr => ∃ k : Nat, k ≤ n ∧ i = .int .i64 k ∧ OwnSS wr w.heap.size wr.heap.size v (X.take k) ∧ Below w.heap.size w wr) (fun _ i _ => n - (intOf i).toNat)
  case atStart => exact ⟨0, Nat.zero_le _, rfl, ho0, hb0⟩
  case round =>
    obtain ⟨k, hk, rfl, hov, hbw⟩ := hrel
    have hsz := hbw.size
    clear ho0 hb0
    by_cases hlt : k < n
    · have hkz : k < X.length := by rw [hl.out]; exact hlt
      obtain ⟨ad, Aj, cj, rfl, hab, hc, _, _, hrd⟩ := ((HR.out.below hbw).more hsz).at_ hkz
      have hxl := hs.out X[k] (List.getElem_mem _)
      have HT := Lib.hid (List.take_succ_eq_append_getElem hkz)
      obtain ⟨x, hx⟩ : ∃ x, x = X[k] := ⟨_, rfl⟩
      obtain ⟨Y, hY⟩ : ∃ Y, Y = X.take k := ⟨_, rfl⟩
      have hYl : Y.length ≤ k := by rw [hY]; simp; omega
      rw [← hx] at hc hrd hxl HT
      rw [← hY] at hov HT
      have i0' : (0 : Int) ≤ (k : Int) := by omega
      clear hx hY
      go_wp2_with fail
      refine (clone_any (xs := x) (Lib.hid rfl) hxl hrd).mono ?_
      rintro e w1 ⟨u, rfl, hrow, r⟩
      obtain ⟨A9, c9, rfl, _, _, _⟩ := hrow.rd (n := x.length) (by simp [ivs])
      have ho1 := hov.new r
      have q1 := hbw.trans (r.mono hsz)
      have hq1 := q1.size
      have hba := alloc_new w1 (Obj.cells #[Value.slice A9 x.length c9] 27)
      have HO := Lib.hid (ho1.new hba)
      have HRW := Lib.hid (hrow.new hba)
      have HM := Lib.hid (Rd.made w1 #[Value.slice A9 x.length c9] 27)
      have hq2 := q1.trans (hba.mono hq1)
      have hlw := r.size
      clear hov ho1 hrow hrd
      go_wp2_with (at_builtin; refine wpList_appSS rfl (.tmp 13) (.tmp 16) rfl rfl rfl HO.out HRW.out HM.out (by omega) (by omega) (by omega) (by simp; omega) ?_; intro v9 w9 hown9 hb9)
      go_roundw
      case rel => exact ⟨k + 1, by omega, by go_num, by rw [HT.out]; exact hown9, hq2.trans hb9⟩
      case measure => simp [intOf]; omega
    · have e : k = n := by omega
      subst e
      have HO := Lib.hid hov
      clear hov
      go_wp2_with fail
      go_ret
      have h := HO.out
      rw [List.take_of_length_le (by rw [hl.out]; exact Nat.le_refl _)] at h
      exact ⟨_, rfl, h, hbw⟩
end Go.Proofs.YtjhknafajfpldaaDoor
