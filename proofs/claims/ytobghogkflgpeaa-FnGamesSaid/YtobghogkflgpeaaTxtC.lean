/- Contracts of the code's texts of trees, and of FormulaText. Conditions: the slices have at most 2^40 elements. -/
import Derived.Test.YtobghogkflgpeaaValC
namespace Go.Proofs.Ytobghogkflgpeaa
open Go.ChangeShapes Go.WideShapes Go.ChangeAt Go.RowKit
set_option maxRecDepth 100000
/-- The text of a tree. -/
def trT : Tr → List UInt8
  | .lt k => [UInt8.ofNat (97 + k.toNat)]
  | .nt t => 33 :: trT t
  | .jt op a b => 40 :: (trT a ++ opT op ++ trT b ++ [41])
def txV (l : List UInt8) : Value := .string ⟨l.toArray⟩
def trFT : Tr → FuncId
  | .lt _ => 114
  | .nt _ => 116
  | .jt _ _ _ => 118
theorem meth_txt (t : Tr) (w : World) : (method 251 (trI t) (trP t) "loop.example/g03009/impl.text").run Try.prog w = .ok (trFT t, trP t) w := by
  cases t <;> kernel_rfl
theorem call_txt (t : Tr) (w : World) : (callFunc (trFT t) #[trP t]).run Try.prog w = .ok (.enter (trFT t) #[trP t]) w := by
  cases t <;> kernel_rfl
theorem ba_app (a b : Array UInt8) : (⟨a⟩ : ByteArray) ++ (⟨b⟩ : ByteArray) = ⟨a ++ b⟩ := by
  apply ByteArray.ext
  simp
theorem ltTxt_any {w : World} {k : Int} (h0 : 0 ≤ k) (h1 : k ≤ 5) : Calls Try.prog 114 #[.int .i64 k] w (fun e w' => e = .returned (txV (trT (.lt k))) ∧ Below w.heap.size w w') := by
  have : k = 0 ∨ k = 1 ∨ k = 2 ∨ k = 3 ∨ k = 4 ∨ k = 5 := by omega
  rcases this with rfl | rfl | rfl | rfl | rfl | rfl
  all_goals
    go_enter Try.func114, Try.ntmps114
    go_wp2_with fail
    go_ret
    exact ⟨by first | rfl | decide, Below.refl _ _⟩
theorem jointText_any {w : World} {op : Int} : Calls Try.prog 120 #[.int .i64 op] w (fun e w' => e = .returned (txV (opT op)) ∧ w = w') := by
  by_cases h1 : op = -2
  · subst h1
    go_enter Try.func120, Try.ntmps120
    go_wp2_with fail
    go_ret
    exact ⟨rfl, rfl⟩
  · have h1' : (op == -2) = false := by simpa using h1
    by_cases h2 : op = -3
    · subst h2
      go_enter Try.func120, Try.ntmps120
      go_wp2_with fail
      go_ret
      exact ⟨rfl, rfl⟩
    · have h2' : (op == -3) = false := by simpa using h2
      have HO := Lib.hid (show opT op = [62] by unfold opT; rw [if_neg h1, if_neg h2])
      clear h1 h2
      go_enter Try.func120, Try.ntmps120
      go_wp2_with fail
      go_ret
      exact ⟨by rw [HO.out]; rfl, rfl⟩
theorem run_sadd (l l' : List UInt8) (h : l.length + l'.length ≤ 1000000) (w : World) : (Op.stringOp .add ⟨l.toArray⟩ ⟨l'.toArray⟩).run Try.prog w = .ok (.string ⟨(l ++ l').toArray⟩) w := by
  rw [run_string_add_if, if_neg (by simp [ByteArray.size]; omega), ba_app]
  simp
theorem ntTxt_any {w : World} {t : Tr} (hs : (trT (.nt t)).length ≤ 1000000) (ih : ∀ w, Calls Try.prog (trFT t) #[trP t] w (fun e w' => e = .returned (txV (trT t)) ∧ Below w.heap.size w w')) :
    Calls Try.prog 116 #[.agg #[encT t]] w (fun e w' => e = .returned (txV (trT (.nt t))) ∧ Below w.heap.size w w') := by
  have hm := meth_txt t
  have hc := call_txt t
  have hE : trT (.nt t) = 33 :: trT t := rfl
  have h1 := run_sadd [33] (trT t) (by rw [hE] at hs; simp at hs ⊢; omega)
  rw [encT_eq, hE]
  clear hs hE
  obtain ⟨r1, hr1⟩ : ∃ r1 : ByteArray, r1 = ⟨([33] ++ trT t).toArray⟩ := ⟨_, rfl⟩
  rw [← hr1] at h1
  have HR := Lib.hid hr1
  clear hr1
  unfold txV at ih ⊢
  generalize trT t = l at ih h1 HR ⊢
  generalize trI t = i at hm ⊢
  generalize trP t = p at hm hc ih ⊢
  generalize trFT t = f at hm hc ih ⊢
  have bx := Bx.made w 131 #[.iface i p]
  have hb1 := alloc_new w (Obj.cells #[.iface i p] 131)
  obtain ⟨W1, hW⟩ : ∃ u : World, u = w.alloc (Obj.cells #[.iface i p] 131) := ⟨_, rfl⟩
  rw [← hW] at bx hb1
  have hW' := hW.symm
  have c0 := bx.at_ (k := 0) (v := .iface i p) rfl
  have HI := Lib.hid ih
  clear ih hW
  go_enter Try.func116, Try.ntmps116
  go_wp2_with fail
  refine (HI.out _).mono ?_
  rintro e w2 ⟨rfl, hb2⟩
  go_wp2_with fail
  go_ret
  exact ⟨ret_s (by rw [HR.out]; rfl), hb1.trans (hb2.mono hb1.size)⟩
set_option maxHeartbeats 2000000 in
theorem jtTxt_any {w : World} {op : Int} {t u : Tr} (hs : (trT (.jt op t u)).length ≤ 1000000) (ih : ∀ w, Calls Try.prog (trFT t) #[trP t] w (fun e w' => e = .returned (txV (trT t)) ∧ Below w.heap.size w w')) (ih' : ∀ w, Calls Try.prog (trFT u) #[trP u] w (fun e w' => e = .returned (txV (trT u)) ∧ Below w.heap.size w w')) :
    Calls Try.prog 118 #[.agg #[.int .i64 op, encT t, encT u]] w (fun e w' => e = .returned (txV (trT (.jt op t u))) ∧ Below w.heap.size w w') := by
  have hm := meth_txt t
  have hc := call_txt t
  have hm' := meth_txt u
  have hc' := call_txt u
  have hE : trT (.jt op t u) = 40 :: (trT t ++ opT op ++ trT u ++ [41]) := rfl
  rw [hE] at hs
  simp only [List.length_cons, List.length_append, List.length_nil] at hs
  have h1 := run_sadd [40] (trT t) (by simp; omega)
  have h2 := run_sadd ([40] ++ trT t) (opT op) (by simp; omega)
  have h3 := run_sadd (([40] ++ trT t) ++ opT op) (trT u) (by simp; omega)
  have h4 := run_sadd ((([40] ++ trT t) ++ opT op) ++ trT u) [41] (by simp; omega)
  rw [encT_eq, encT_eq, hE]
  clear hs hE
  obtain ⟨r1, hr1⟩ : ∃ r : ByteArray, r = ⟨([40] ++ trT t).toArray⟩ := ⟨_, rfl⟩
  obtain ⟨r2, hr2⟩ : ∃ r : ByteArray, r = ⟨(([40] ++ trT t) ++ opT op).toArray⟩ := ⟨_, rfl⟩
  obtain ⟨r3, hr3⟩ : ∃ r : ByteArray, r = ⟨((([40] ++ trT t) ++ opT op) ++ trT u).toArray⟩ := ⟨_, rfl⟩
  obtain ⟨r4, hr4⟩ : ∃ r : ByteArray, r = ⟨(((([40] ++ trT t) ++ opT op) ++ trT u) ++ [41]).toArray⟩ := ⟨_, rfl⟩
  rw [← hr1] at h1 h2
  rw [← hr2] at h2 h3
  rw [← hr3] at h3 h4
  rw [← hr4] at h4
  have HR := Lib.hid hr4
  clear hr1 hr2 hr3 hr4
  have HJ := Lib.hid (fun w => jointText_any (w := w) (op := op))
  unfold txV at ih ih' HJ ⊢
  generalize trT t = l at ih h1 HR ⊢
  generalize trT u = l' at ih' h3 HR ⊢
  generalize opT op = lo at HJ h2 HR ⊢
  generalize trI t = i at hm ⊢
  generalize trP t = p at hm hc ih ⊢
  generalize trFT t = f at hm hc ih ⊢
  generalize trI u = i' at hm' ⊢
  generalize trP u = p' at hm' hc' ih' ⊢
  generalize trFT u = f' at hm' hc' ih' ⊢
  have bx := Bx.made w 133 #[.int .i64 op, .iface i p, .iface i' p']
  have hb1 := alloc_new w (Obj.cells #[.int .i64 op, .iface i p, .iface i' p'] 133)
  obtain ⟨W1, hW⟩ : ∃ v : World, v = w.alloc (Obj.cells #[.int .i64 op, .iface i p, .iface i' p'] 133) := ⟨_, rfl⟩
  rw [← hW] at bx hb1
  have hW' := hW.symm
  have KE := fun (w' : World) (k : Below W1.heap.size W1 w') => bx.three k
  obtain ⟨_, c0, c1, c2⟩ := bx.three (Below.refl _ _)
  have HI := Lib.hid ih
  have HI' := Lib.hid ih'
  clear ih ih' hW
  go_enter Try.func118, Try.ntmps118
  go_wp2_with fail
  go_region_held3 (fun w' => Below W1.heap.size W1 w' ∧ w'.cell? ⟨w.heap.size, 0, none⟩ = some (.int .i64 op) ∧ w'.cell? ⟨w.heap.size, 1, none⟩ = some (.iface i p) ∧ w'.cell? ⟨w.heap.size, 2, none⟩ = some (.iface i' p')) (first | assumption | with_reducible exact KE _ (Below.refl _ _) | with_reducible exact KE _ (Below.refl _ _).drew | with_reducible exact KE _ k9 | with_reducible exact KE _ (Below.drew k9))
    (first
    | ((with_reducible refine (HI.out _).mono ?_); rintro e u9 ⟨rfl, hb9⟩; have k9 := trans_new (‹Below W1.heap.size W1 _ ∧ _›).1 hb9)
    | ((with_reducible refine (HI'.out _).mono ?_); rintro e u9 ⟨rfl, hb9⟩; have k9 := trans_new (‹Below W1.heap.size W1 _ ∧ _›).1 hb9)
    | (go_at_call 120; (with_reducible refine (HJ.out _).mono ?_); rintro e u9 ⟨rfl, rfl⟩; have k9 := (‹Below W1.heap.size W1 _ ∧ _›).1))
  all_goals
    go_wp2_with fail
    go_ret
    exact ⟨ret_s (by rw [HR.out]; simp), hb1.trans (k9.mono hb1.size)⟩
theorem trTxt_any : ∀ (t : Tr), trOk t → (trT t).length ≤ 1000000 → ∀ w, Calls Try.prog (trFT t) #[trP t] w (fun e w' => e = .returned (txV (trT t)) ∧ Below w.heap.size w w')
  | .lt _, ho, _, _ => ltTxt_any ho.1 ho.2
  | .nt t, ho, hs, _ => ntTxt_any hs (trTxt_any t ho (by simp [trT] at hs; omega))
  | .jt _ a b, ho, hs, _ => jtTxt_any hs (trTxt_any a ho.1 (by simp [trT] at hs; omega)) (trTxt_any b ho.2 (by simp [trT] at hs; omega))
theorem pileT_snoc (f : List Int) (x : Int) : pileT (f ++ [x]) = stT (pileT f) x := by simp [pileT, List.foldl_append]
theorem stR_txt {p : List Tr} {x : Int} {m : Nat} (h : stF (some p.length) x = some m) : (stR p x).map trT = stT (p.map trT) x := by
  obtain ⟨n, e, h⟩ := stF_some h
  injection e with e
  unfold stR stT
  rcases h with ⟨h1, _, rfl⟩ | ⟨rfl, h2, rfl⟩ | ⟨h1, h2, h3, rfl⟩
  · rw [if_pos h1, if_pos h1]; simp [trT]
  · rw [if_neg (by decide), if_pos rfl, if_neg (by decide), if_pos rfl]
    have hp : p ≠ [] := fun e0 => by subst e0; simp at e; omega
    simp only [List.map_append, List.map_dropLast, List.map_cons, List.map_nil, trT]
    rw [getLastD_map trT (a := default) hp]
  · rw [if_neg (by omega), if_neg (by omega), if_neg (by omega), if_neg (by omega)]
    have hp : p ≠ [] := fun e => by subst e; simp at *; omega
    have hp2 : p.dropLast ≠ [] := fun e => by
      have := congrArg List.length e
      simp at this
      omega
    simp only [List.map_append, List.map_dropLast, List.map_cons, List.map_nil, trT]
    rw [← List.map_dropLast, getLastD_map trT (a := default) hp, getLastD_map trT (a := default) hp2]
theorem pileR_txt {f : List Int} : ∀ {k n : Nat}, cntF (f.take k) = some n → k ≤ f.length → (pileR (f.take k)).map trT = pileT (f.take k)
  | 0, _, _, _ => by simp [pileR, pileT]
  | k + 1, n, h, hk => by
    have e := take_next (f := f) (k := k) (by omega)
    rw [e] at h ⊢
    obtain ⟨m, hm⟩ := cnt_some_pre h
    rw [cntF_snoc, hm] at h
    rw [pileR_snoc, pileT_snoc, ← pileR_txt hm (by omega)]
    exact stR_txt (by rw [pileR_take hm (by omega)]; exact h)
def sumT (p : List (List UInt8)) : Nat := (p.map List.length).sum
theorem sumT_app (p q : List (List UInt8)) : sumT (p ++ q) = sumT p + sumT q := by simp [sumT]
theorem sumT_last (p : List (List UInt8)) : sumT p.dropLast + (p.getLastD []).length = sumT p := by
  by_cases hp : p = []
  · subst hp; rfl
  · have e := List.dropLast_concat_getLast hp
    have h1 : p.getLastD [] = p.getLast hp := by rw [List.getLastD_eq_getLast?, List.getLast?_eq_some_getLast hp]; rfl
    rw [h1]
    have h2 : sumT p = sumT (p.dropLast ++ [p.getLast hp]) := by rw [e]
    rw [h2, sumT_app]
    simp [sumT]
theorem opT_len (x : Int) : (opT x).length = 1 := by
  unfold opT
  split
  · rfl
  · split <;> rfl
theorem stT_sum (p : List (List UInt8)) (x : Int) : sumT (stT p x) ≤ sumT p + 3 := by
  have h1 := sumT_last p
  have h2 := sumT_last p.dropLast
  have h3 := opT_len x
  unfold stT
  split
  · rw [sumT_app]; simp [sumT]
  · split
    · rw [sumT_app]
      have : sumT [33 :: p.getLastD []] = (p.getLastD []).length + 1 := by simp [sumT]
      omega
    · rw [sumT_app]
      have : sumT [40 :: (p.dropLast.getLastD [] ++ opT x ++ p.getLastD [] ++ [41])] = (p.dropLast.getLastD []).length + (p.getLastD []).length + 3 := by
        simp [sumT, h3]; omega
      omega
theorem pileT_sum (f : List Int) : sumT (pileT f) ≤ 3 * f.length := by
  have key : ∀ (f : List Int) (p : List (List UInt8)), sumT (f.foldl stT p) ≤ sumT p + 3 * f.length := by
    intro f
    induction f with
    | nil => intro p; simp
    | cons x f ih =>
      intro p
      have h1 := ih (stT p x)
      have h2 := stT_sum p x
      rw [List.foldl_cons, List.length_cons]
      omega
  have := key f []
  simpa [sumT, pileT] using this
theorem fml_txt {f : List Int} (h : isF f = true) : ∃ t, pileR f = [t] ∧ trOk t ∧ txtF f = trT t ∧ (trT t).length ≤ 72 := by
  obtain ⟨t, ht, _⟩ := fml_tree h
  have h0 := h
  unfold isF at h
  rw [Bool.and_eq_true, decide_eq_true_iff, decide_eq_true_iff] at h
  have hc : cntF (f.take f.length) = some 1 := by rw [List.take_length]; exact h.1
  have hp := pileR_txt hc (Nat.le_refl _)
  rw [List.take_length, ht] at hp
  have hs := pileT_sum f
  rw [← hp] at hs
  refine ⟨t, ht, pileR_ok (f := f) (k := f.length) (n := 1) hc (Nat.le_refl _) t (by rw [List.take_length, ht]; simp), ?_, ?_⟩
  · unfold txtF
    rw [h0, ← hp]; rfl
  · simp [sumT] at hs; omega
set_option maxHeartbeats 2000000 in
theorem impFormulaText_any {w : World} {A : Option Addr} {n c : Nat} {f : List Int} (hl : Hid (f.length = n)) (hr : Rd w w.heap.size A (ivs f)) :
    Calls Try.prog 32 #[.slice A n c] w (fun e w' => e = .returned (txV (txtF f)) ∧ Below w.heap.size w w') := by
  by_cases hf : isF f = true
  · obtain ⟨t, ht, hok, hv, hsz⟩ := fml_txt hf
    have ih := trTxt_any t hok (by omega)
    have HV := Lib.hid hv
    have HT := Lib.hid (show resT f = .iface (trI t) (trP t) by unfold resT; rw [hf, ht]; exact encT_eq t)
    have HF := Lib.hid hf
    have hm := meth_txt t
    have hc := call_txt t
    generalize trI t = i at hm HT ⊢
    generalize trP t = p at hm hc ih HT ⊢
    generalize trFT t = q at hm hc ih ⊢
    generalize trT t = b at ih HV ⊢
    have HI := Lib.hid ih
    clear ih hf ht hv hok hsz
    go_enter Try.func32, Try.ntmps32
    go_wp2_with fail
    refine (treeOf_any (f := f) hl hr).mono ?_
    rintro e w1 ⟨rfl, hb⟩
    rw [HT.out, HF.out]
    go_wp2_with fail
    refine (HI.out _).mono ?_
    rintro e w2 ⟨rfl, hb2⟩
    go_wp2_with fail
    go_ret
    exact ⟨by rw [HV.out]; rfl, hb.trans (hb2.mono hb.size)⟩
  · have HF := Lib.hid (show isF f = false by simpa using hf)
    have HV := Lib.hid (show txtF f = [] by unfold txtF; rw [if_neg hf])
    clear hf
    go_enter Try.func32, Try.ntmps32
    go_wp2_with fail
    refine (treeOf_any (f := f) hl hr).mono ?_
    rintro e w1 ⟨rfl, hb⟩
    rw [HF.out]
    go_wp2_with fail
    go_ret
    exact ⟨by rw [HV.out]; rfl, hb⟩
end Go.Proofs.Ytobghogkflgpeaa
