/- Trees that the code makes of formulas: as values, and contracts of takenBy, isJoint, treeAbove. No conditions. -/
import Derived.Test.YtfcckpapcnhejaaDoorFmlM
import Derived.Test.YtfcckpapcnhejaaDoorGrow
import Derived.Test.YtfcckpapcnhejaaDoorBoolS
namespace Go.Proofs.YtfcckpapcnhejaaDoor
open Go.ChangeShapes Go.WideShapes Go.ChangeAt Go.RowKit
set_option maxRecDepth 100000
inductive Tr where
  | lt (k : Int)
  | nt (t : Tr)
  | jt (op : Int) (a b : Tr)
deriving Inhabited
/-- A tree as an interface value. -/
def encT : Tr → Value
  | .lt k => .iface 50 (.int .i64 k)
  | .nt t => .iface 52 (.agg #[encT t])
  | .jt op a b => .iface 54 (.agg #[.int .i64 op, encT a, encT b])
def trV (L : List Bool) : Tr → Bool
  | .lt k => L.getD k.toNat false
  | .nt t => !(trV L t)
  | .jt op a b => opB op (trV L a) (trV L b)
/-- The pile of trees after one sign more. -/
def stR (p : List Tr) (x : Int) : List Tr :=
  if 0 ≤ x then p ++ [.lt x] else if x = -1 then p.dropLast ++ [.nt (p.getLastD default)] else p.dropLast.dropLast ++ [.jt x (p.dropLast.getLastD default) (p.getLastD default)]
def pileR (f : List Int) : List Tr := f.foldl stR []
theorem pileR_snoc (f : List Int) (x : Int) : pileR (f ++ [x]) = stR (pileR f) x := by simp [pileR, List.foldl_append]
theorem stR_len {p : List Tr} {x : Int} {o : Option Nat} {m : Nat} (ho : o = some p.length) (h : stF o x = some m) : (stR p x).length = m := by
  obtain ⟨n, e, h⟩ := stF_some h
  rw [ho] at e
  injection e with e
  unfold stR
  rcases h with ⟨h1, _, rfl⟩ | ⟨rfl, h2, rfl⟩ | ⟨h1, h2, h3, rfl⟩
  · rw [if_pos h1]; simp [e]
  · rw [if_neg (by decide), if_pos rfl]; simp; omega
  · rw [if_neg (by omega), if_neg (by omega)]; simp; omega
theorem pileR_take {f : List Int} : ∀ {k n : Nat}, cntF (f.take k) = some n → k ≤ f.length → (pileR (f.take k)).length = n
  | 0, n, h, _ => by simp [cntF] at h; subst h; simp [pileR]
  | k + 1, n, h, hk => by
    have e := take_next (f := f) (k := k) (by omega)
    rw [e] at h ⊢
    obtain ⟨m, hm⟩ := cnt_some_pre h
    rw [cntF_snoc] at h
    rw [pileR_snoc]
    exact stR_len (by rw [hm, pileR_take hm (by omega)]) h
theorem getLastD_map {α β : Type} (g : α → β) {p : List α} {a : α} {b : β} (h : p ≠ []) : (p.map g).getLastD b = g (p.getLastD a) := by
  cases p with
  | nil => exact absurd rfl h
  | cons x p => rw [List.map_cons, List.getLastD_cons, List.getLastD_cons]; induction p generalizing x with
    | nil => rfl
    | cons y p ih => rw [List.map_cons, List.getLastD_cons, List.getLastD_cons]; exact ih y (by simp)
theorem stR_val {L : List Bool} {p : List Tr} {x : Int} {m : Nat} (h : stF (some p.length) x = some m) : (stR p x).map (trV L) = stV L (p.map (trV L)) x := by
  obtain ⟨n, e, h⟩ := stF_some h
  injection e with e
  unfold stR stV
  rcases h with ⟨h1, _, rfl⟩ | ⟨rfl, h2, rfl⟩ | ⟨h1, h2, h3, rfl⟩
  · rw [if_pos h1, if_pos h1]; simp [trV]
  · rw [if_neg (by decide), if_pos rfl, if_neg (by decide), if_pos rfl]
    have hp : p ≠ [] := fun e0 => by subst e0; simp at e; omega
    simp only [List.map_append, List.map_dropLast, List.map_cons, List.map_nil, trV]
    rw [getLastD_map (trV L) (a := default) hp]
  · rw [if_neg (by omega), if_neg (by omega), if_neg (by omega), if_neg (by omega)]
    have hp : p ≠ [] := fun e => by subst e; simp at *; omega
    have hp2 : p.dropLast ≠ [] := fun e => by
      have := congrArg List.length e
      simp at this
      omega
    simp only [List.map_append, List.map_dropLast, List.map_cons, List.map_nil, trV]
    rw [← List.map_dropLast, getLastD_map (trV L) (a := default) hp, getLastD_map (trV L) (a := default) hp2]
theorem pileR_val {L : List Bool} {f : List Int} : ∀ {k n : Nat}, cntF (f.take k) = some n → k ≤ f.length → (pileR (f.take k)).map (trV L) = pileV L (f.take k)
  | 0, _, _, _ => by simp [pileR, pileV]
  | k + 1, n, h, hk => by
    have e := take_next (f := f) (k := k) (by omega)
    rw [e] at h ⊢
    obtain ⟨m, hm⟩ := cnt_some_pre h
    rw [cntF_snoc, hm] at h
    rw [pileR_snoc, pileV_snoc, ← pileR_val hm (by omega)]
    exact stR_val (by rw [pileR_take hm (by omega)]; exact h)
/-- A formula is one tree, which has its value. -/
theorem fml_tree {f : List Int} (h : isF f = true) : ∃ t, pileR f = [t] ∧ ∀ L, trV L t = valB f L := by
  have h0 := h
  unfold isF at h
  rw [Bool.and_eq_true, decide_eq_true_iff] at h
  have hc : cntF (f.take f.length) = some 1 := by rw [List.take_length]; exact h.1
  have hl := pileR_take hc (Nat.le_refl _)
  rw [List.take_length] at hl
  obtain ⟨t, ht⟩ := List.length_eq_one_iff.1 hl
  refine ⟨t, ht, fun L => ?_⟩
  have hv := pileR_val (L := L) hc (Nat.le_refl _)
  rw [List.take_length, ht] at hv
  unfold valB
  rw [h0, ← hv]
  rfl
/-- How many values a sign takes off. -/
def tkn (x : Int) : Int := if 0 ≤ x ∧ x ≤ 5 then 0 else if x = -1 then 1 else if -4 ≤ x ∧ x ≤ -2 then 2 else 0
def knw (x : Int) : Bool := decide ((0 ≤ x ∧ x ≤ 5) ∨ x = -1 ∨ (-4 ≤ x ∧ x ≤ -2))
theorem isJoint_any (x : Int) (w : World) : Calls Tryd.prog 20 #[.int .i64 x] w (fun e w' => e = .returned (.bool (decide (-4 ≤ x ∧ x ≤ -2))) ∧ w = w') := by
  by_cases h1 : x = -2
  · subst h1
    go_enter Tryd.func20, Tryd.ntmps20
    go_wp2_with fail
    go_ret
    exact ⟨rfl, rfl⟩
  · have h1' : (x == -2) = false := by simpa using h1
    by_cases h2 : x = -3
    · subst h2
      go_enter Tryd.func20, Tryd.ntmps20
      go_wp2_with fail
      go_ret
      exact ⟨rfl, rfl⟩
    · have h2' : (x == -3) = false := by simpa using h2
      by_cases h3 : x = -4
      · subst h3
        go_enter Tryd.func20, Tryd.ntmps20
        go_wp2_with fail
        go_ret
        exact ⟨rfl, rfl⟩
      · have h3' : (x == -4) = false := by simpa using h3
        have HD := Lib.hid (show decide (-4 ≤ x ∧ x ≤ -2) = false from decide_eq_false (by omega))
        clear h1 h2 h3
        go_enter Tryd.func20, Tryd.ntmps20
        go_wp2_with fail
        go_ret
        exact ⟨ret_b HD.out.symm, rfl⟩
theorem takenBy_any (x : Int) (w : World) : Calls Tryd.prog 17 #[.int .i64 x] w (fun e w' => e = .returned (.tuple #[.int .i64 (tkn x), .bool (knw x)]) ∧ w = w') := by
  by_cases h1 : 0 ≤ x ∧ x ≤ 5
  · have HI := Lib.hid (inr_t h1.1 h1.2)
    have HT := Lib.hid (show tkn x = 0 by unfold tkn; rw [if_pos h1])
    have HK := Lib.hid (show knw x = true from decide_eq_true (.inl h1))
    clear h1
    go_enter Tryd.func17, Tryd.ntmps17
    go_wp2_with (first | (go_at_call 19; refine (inRange_any _ _ _ _).mono ?_; rintro e w1 ⟨he, rfl⟩; rw [HI.out] at he; subst he))
    go_ret2
    exact ⟨by rw [HT.out, HK.out]; rfl, rfl⟩
  · have HI := Lib.hid (show inr x 0 5 = false from inr_f (by omega))
    by_cases h2 : x = -1
    · subst h2
      have HT := Lib.hid (show tkn (-1) = 1 from rfl)
      have HK := Lib.hid (show knw (-1) = true from rfl)
      clear h1
      go_enter Tryd.func17, Tryd.ntmps17
      go_wp2_with (first | (go_at_call 19; refine (inRange_any _ _ _ _).mono ?_; rintro e w1 ⟨he, rfl⟩; rw [HI.out] at he; subst he))
      go_ret2
      exact ⟨by rw [HT.out, HK.out]; rfl, rfl⟩
    · have h2' : (x == -1) = false := by simpa using h2
      by_cases h3 : -4 ≤ x ∧ x ≤ -2
      · have HJ := Lib.hid (show decide (-4 ≤ x ∧ x ≤ -2) = true from decide_eq_true h3)
        have HT := Lib.hid (show tkn x = 2 by unfold tkn; rw [if_neg h1, if_neg h2, if_pos h3])
        have HK := Lib.hid (show knw x = true from decide_eq_true (.inr (.inr h3)))
        clear h1 h2 h3
        go_enter Tryd.func17, Tryd.ntmps17
        go_wp2_with (first | (go_at_call 19; refine (inRange_any _ _ _ _).mono ?_; rintro e w1 ⟨he, rfl⟩; rw [HI.out] at he; subst he) | (go_at_call 20; refine (isJoint_any _ _).mono ?_; rintro e w1 ⟨he, rfl⟩; rw [HJ.out] at he; subst he))
        go_ret2
        exact ⟨by rw [HT.out, HK.out]; rfl, rfl⟩
      · have HJ := Lib.hid (show decide (-4 ≤ x ∧ x ≤ -2) = false from decide_eq_false h3)
        have HT := Lib.hid (show tkn x = 0 by unfold tkn; rw [if_neg h1, if_neg h2, if_neg h3])
        have HK := Lib.hid (show knw x = false from decide_eq_false (by omega))
        clear h1 h2 h3
        go_enter Tryd.func17, Tryd.ntmps17
        go_wp2_with (first | (go_at_call 19; refine (inRange_any _ _ _ _).mono ?_; rintro e w1 ⟨he, rfl⟩; rw [HI.out] at he; subst he) | (go_at_call 20; refine (isJoint_any _ _).mono ?_; rintro e w1 ⟨he, rfl⟩; rw [HJ.out] at he; subst he))
        go_ret2
        exact ⟨by rw [HT.out, HK.out]; rfl, rfl⟩
theorem encT_if (t : Tr) : ∃ i v, encT t = .iface i v := by cases t <;> exact ⟨_, _, rfl⟩
def encs (p : List Tr) : List Value := p.map encT
theorem encT_one (t : Tr) : (encT t).oneCell' = true := by cases t <;> rfl
theorem encs_one {p : List Tr} : ∀ u ∈ encs p, u.oneCell' = true := by
  intro u hu
  obtain ⟨t, _, rfl⟩ := List.mem_map.1 hu
  exact encT_one t
theorem encs_len (p : List Tr) : (encs p).length = p.length := by simp [encs]
theorem above0_any {x : Int} {A : Option Addr} {c : Nat} {w : World} : Calls Tryd.prog 18 #[.int .i64 x, .slice A 0 c] w (fun e w' => e = .returned (encT (.lt x)) ∧ ∃ m, w' = w.drewN m) := by
  go_enter Tryd.func18, Tryd.ntmps18
  go_wp2_with fail
  go_ret
  exact ⟨rfl, 0, rfl⟩
theorem above1_any {x : Int} {ad : Addr} {c : Nat} {w : World} {t : Tr} (h : w.cell? ad = some (encT t)) : Calls Tryd.prog 18 #[.int .i64 x, .slice (some ad) 1 c] w (fun e w' => e = .returned (encT (.nt t)) ∧ ∃ m, w' = w.drewN m) := by
  obtain ⟨i, v, hv⟩ := encT_if t
  rw [hv] at h
  have HV := Lib.hid (show encT (.nt t) = .iface 52 (.agg #[.iface i v]) by rw [← hv]; rfl)
  clear hv
  go_enter Tryd.func18, Tryd.ntmps18
  go_wp2_with fail
  go_ret
  exact ⟨by rw [HV.out]; rfl, 0, rfl⟩
theorem above2_any {x : Int} {b o : Nat} {c : Nat} {w : World} {t u : Tr} (h : w.cell? ⟨b, o, none⟩ = some (encT t)) (k : w.cell? ⟨b, o + 1, none⟩ = some (encT u)) : Calls Tryd.prog 18 #[.int .i64 x, .slice (some ⟨b, o, none⟩) 2 c] w (fun e w' => e = .returned (encT (.jt x t u)) ∧ ∃ m, w' = w.drewN m) := by
  obtain ⟨i, v, hv⟩ := encT_if t
  obtain ⟨i', v', hv'⟩ := encT_if u
  rw [hv] at h
  rw [hv'] at k
  have HV := Lib.hid (show encT (.jt x t u) = .iface 54 (.agg #[.int .i64 x, .iface i v, .iface i' v']) by rw [← hv, ← hv']; rfl)
  clear hv hv'
  go_enter Tryd.func18, Tryd.ntmps18
  go_wp2_with fail
  go_quiet (fail)
  go_wp2_with fail
  go_ret
  exact ⟨by rw [HV.out]; rfl, _, rfl⟩
end Go.Proofs.YtfcckpapcnhejaaDoor
