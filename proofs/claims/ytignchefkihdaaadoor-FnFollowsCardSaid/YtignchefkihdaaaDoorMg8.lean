/- Contracts of the models of chapter 10: IsFormula, NotOf, Join. No conditions but that the slices have at most 2^40 elements. -/
import Derived.Test.YtignchefkihdaaaDoorMg7
import Derived.Test.YtignchefkihdaaaDoorMg2
import Derived.Test.YtignchefkihdaaaDoorMg4
import Derived.Deep.RegionWith
import Derived.Test.YtignchefkihdaaaDoorMg6
import Derived.Deep.RegionLaw
import Derived.Deep.RegionHeld3
namespace Go.Proofs.YtignchefkihdaaaDoor
open Go.ChangeShapes Go.WideShapes Go.ChangeAt Go.RowKit
set_option maxRecDepth 100000
theorem isF_bad {f : List Int} {k : Nat} (h : cntF (f.take k) = none) : isF f = false := by
  unfold isF
  rw [cntF_pre h]
  rfl
theorem isF_end {f : List Int} {n j : Nat} (hl : f.length = n) (h : cntF f = some j) : isF f = (decide (j = 1) && decide (n ≤ 24)) := by
  unfold isF
  rw [h, hl]
  simp
theorem take_next {f : List Int} {k : Nat} (h : k < f.length) : f.take (k + 1) = f.take k ++ [f[k]] := List.take_succ_eq_append_getElem h
theorem cnt_next {f : List Int} {k j : Nat} {x : Int} (hk : k < f.length) (hx : x = f[k]) (h : cntF (f.take k) = some j) : cntF (f.take (k + 1)) = stF (some j) x := by
  rw [take_next hk, cntF_snoc, h, hx]
set_option maxHeartbeats 2000000 in
theorem specIsFormula_any {w : World} {A : Option Addr} {n c : Nat} {f : List Int} (hl : Hid (f.length = n)) (hn : n ≤ 1099511627776) (hr : Rd w w.heap.size A (ivs f)) :
    Calls Tryd.prog 36 #[.slice A n c] w (fun e w' => e = .returned (.bool (isF f)) ∧ w = w') := by
  go_enter Tryd.func36, Tryd.ntmps36
  go_wp2
  go_loop [3, 4] (fun m i => ∃ k j : Nat, k ≤ n ∧ j ≤ k ∧ i = .int .i64 k ∧ m = .int .i64 j ∧ Hid (cntF (f.take k) = some j)) (fun _ i => n - (intOf i).toNat)
  case atStart => exact ⟨0, 0, Nat.zero_le _, Nat.zero_le _, rfl, rfl, Lib.hid rfl⟩
  case round =>
    obtain ⟨k, j, hk, hjk, rfl, rfl, hc⟩ := hrel
    by_cases hlt : k < n
    · have hkz : k < f.length := by rw [hl.out]; exact hlt
      obtain ⟨ad, rfl, hab, hcell⟩ := ivs_at hr hkz
      obtain ⟨x, hx⟩ : ∃ x, x = f[k] := ⟨_, rfl⟩
      rw [← hx] at hcell
      have HN := Lib.hid (cnt_next hkz hx hc.out)
      clear hx hr
      have fin : ∀ {P : Prop}, (stF (some j) x = none) → Hid (isF f = false) := fun h => Lib.hid (isF_bad (HN.out.trans h))
      by_cases h1 : 0 ≤ x ∧ x ≤ 5
      · have J1 := inr_t h1.1 h1.2
        have HS := Lib.hid (HN.out.trans (stF_let h1))
        clear h1 fin
        go_wp2_with (go_at_call 37; refine (l1In_any _ _ _ _).mono ?_; rintro e w1 ⟨rfl, rfl⟩)
        go_round
        case rel => exact ⟨k + 1, j + 1, by omega, by omega, by go_num, by go_num, HS.out⟩
        case measure => simp [intOf]; omega
      · have J1 : inr x 0 5 = false := inr_f (by omega)
        by_cases h2 : x = -1
        · subst h2
          have J2 : inr (-1) (-4) (-2) = false := by decide
          by_cases h3 : 1 ≤ j
          · have HS := Lib.hid (HN.out.trans (stF_not h3))
            clear h1 fin
            go_wp2_with (go_at_call 37; refine (l1In_any _ _ _ _).mono ?_; rintro e w1 ⟨rfl, rfl⟩)
            go_round
            case rel => exact ⟨k + 1, j, by omega, by omega, by go_num, rfl, HS.out⟩
            case measure => simp [intOf]; omega
          · have HB := fin (P := True) (stF_bad (by omega) (by omega) (by omega))
            clear h1 fin
            go_wp2_with (go_at_call 37; refine (l1In_any _ _ _ _).mono ?_; rintro e w1 ⟨rfl, rfl⟩)
            go_ret
            exact ⟨ret_b HB.out.symm, rfl⟩
        · have J3 : (x == -1) = false := beq_eq_false_iff_ne.2 h2
          by_cases h4 : -4 ≤ x ∧ x ≤ -2
          · have J2 := inr_t h4.1 h4.2
            by_cases h5 : 2 ≤ j
            · have HS := Lib.hid (HN.out.trans (stF_op h4 h5))
              clear h1 fin h2 h4
              go_wp2_with (go_at_call 37; refine (l1In_any _ _ _ _).mono ?_; rintro e w1 ⟨rfl, rfl⟩)
              go_round
              case rel => exact ⟨k + 1, j - 1, by omega, by omega, by go_num, by go_num, HS.out⟩
              case measure => simp [intOf]; omega
            · have HB := fin (P := True) (stF_bad h1 (by omega) (by omega))
              clear h1 fin h2 h4
              go_wp2_with (go_at_call 37; refine (l1In_any _ _ _ _).mono ?_; rintro e w1 ⟨rfl, rfl⟩)
              go_ret
              exact ⟨ret_b HB.out.symm, rfl⟩
          · have J2 : inr x (-4) (-2) = false := inr_f (by omega)
            have HB := fin (P := True) (stF_bad h1 (by omega) (by omega))
            clear h1 fin h2 h4
            go_wp2_with (go_at_call 37; refine (l1In_any _ _ _ _).mono ?_; rintro e w1 ⟨rfl, rfl⟩)
            go_ret
            exact ⟨ret_b HB.out.symm, rfl⟩
    · have e : k = n := by omega
      subst e
      have HE := Lib.hid (isF_end hl.out (by rw [← hc.out, List.take_of_length_le (by rw [hl.out]; exact Nat.le_refl _)]))
      by_cases h1 : j = 1
      · subst h1
        by_cases h2 : k ≤ 24
        · go_wp2
          go_ret
          exact ⟨ret_b (by rw [HE.out]; simp [h2]; omega), rfl⟩
        · go_wp2
          go_ret
          exact ⟨ret_b (by rw [HE.out]; simp [h2]; omega), rfl⟩
      · have h1' : ((j : Int) == 1) = false := beq_eq_false_iff_ne.2 (by omega)
        go_wp2
        go_ret
        exact ⟨ret_b (by rw [HE.out]; simp [h1]), rfl⟩
end Go.Proofs.YtignchefkihdaaaDoor

/- Trees that the code makes of formulas: as values, and contracts of takenBy, isJoint, treeAbove. No conditions. -/
namespace Go.Proofs.YtignchefkihdaaaDoor
open Go.ChangeShapes Go.WideShapes Go.ChangeAt Go.RowKit
set_option maxRecDepth 100000
inductive Tr where
  | lt (k : Int)
  | nt (t : Tr)
  | jt (op : Int) (a b : Tr)
deriving Inhabited
/-- A tree as an interface value. -/
def encT : Tr → Value
  | .lt k => .iface 76 (.int .i64 k)
  | .nt t => .iface 78 (.agg #[encT t])
  | .jt op a b => .iface 80 (.agg #[.int .i64 op, encT a, encT b])
def trV (L : List Bool) : Tr → Bool
  | .lt k => L.getD k.toNat false
  | .nt t => !(trV L t)
  | .jt op a b => opB op (trV L a) (trV L b)
/-- The pile of trees after one sign more. -/
def stR (p : List Tr) (x : Int) : List Tr :=
  if 0 ≤ x then p ++ [.lt x] else if x = -1 then p.dropLast ++ [.nt (p.getLastD default)] else p.dropLast.dropLast ++ [.jt x (p.dropLast.getLastD default) (p.getLastD default)]
def pileR (f : List Int) : List Tr := f.foldl stR []
theorem pileR_snoc (f : List Int) (x : Int) : pileR (f ++ [x]) = stR (pileR f) x := by simp [pileR, List.foldl_append]
theorem stR_len {p : List Tr} {x : Int} {o : Option Nat} {m : Nat} (ho : o = some p.length) (h : stF o x = some m) : (stR p x).length = m := by
  obtain ⟨n, e, h⟩ := stF_some h
  rw [ho] at e
  injection e with e
  unfold stR
  rcases h with ⟨h1, _, rfl⟩ | ⟨rfl, h2, rfl⟩ | ⟨h1, h2, h3, rfl⟩
  · rw [if_pos h1]; simp [e]
  · rw [if_neg (by decide), if_pos rfl]; simp; omega
  · rw [if_neg (by omega), if_neg (by omega)]; simp; omega
theorem pileR_take {f : List Int} : ∀ {k n : Nat}, cntF (f.take k) = some n → k ≤ f.length → (pileR (f.take k)).length = n
  | 0, n, h, _ => by simp [cntF] at h; subst h; simp [pileR]
  | k + 1, n, h, hk => by
    have e := take_next (f := f) (k := k) (by omega)
    rw [e] at h ⊢
    obtain ⟨m, hm⟩ := cnt_some_pre h
    rw [cntF_snoc] at h
    rw [pileR_snoc]
    exact stR_len (by rw [hm, pileR_take hm (by omega)]) h
theorem getLastD_map {α β : Type} (g : α → β) {p : List α} {a : α} {b : β} (h : p ≠ []) : (p.map g).getLastD b = g (p.getLastD a) := by
  cases p with
  | nil => exact absurd rfl h
  | cons x p => rw [List.map_cons, List.getLastD_cons, List.getLastD_cons]; induction p generalizing x with
    | nil => rfl
    | cons y p ih => rw [List.map_cons, List.getLastD_cons, List.getLastD_cons]; exact ih y (by simp)
theorem stR_val {L : List Bool} {p : List Tr} {x : Int} {m : Nat} (h : stF (some p.length) x = some m) : (stR p x).map (trV L) = stV L (p.map (trV L)) x := by
  obtain ⟨n, e, h⟩ := stF_some h
  injection e with e
  unfold stR stV
  rcases h with ⟨h1, _, rfl⟩ | ⟨rfl, h2, rfl⟩ | ⟨h1, h2, h3, rfl⟩
  · rw [if_pos h1, if_pos h1]; simp [trV]
  · rw [if_neg (by decide), if_pos rfl, if_neg (by decide), if_pos rfl]
    have hp : p ≠ [] := fun e0 => by subst e0; simp at e; omega
    simp only [List.map_append, List.map_dropLast, List.map_cons, List.map_nil, trV]
    rw [getLastD_map (trV L) (a := default) hp]
  · rw [if_neg (by omega), if_neg (by omega), if_neg (by omega), if_neg (by omega)]
    have hp : p ≠ [] := fun e => by subst e; simp at *; omega
    have hp2 : p.dropLast ≠ [] := fun e => by
      have := congrArg List.length e
      simp at this
      omega
    simp only [List.map_append, List.map_dropLast, List.map_cons, List.map_nil, trV]
    rw [← List.map_dropLast, getLastD_map (trV L) (a := default) hp, getLastD_map (trV L) (a := default) hp2]
theorem pileR_val {L : List Bool} {f : List Int} : ∀ {k n : Nat}, cntF (f.take k) = some n → k ≤ f.length → (pileR (f.take k)).map (trV L) = pileV L (f.take k)
  | 0, _, _, _ => by simp [pileR, pileV]
  | k + 1, n, h, hk => by
    have e := take_next (f := f) (k := k) (by omega)
    rw [e] at h ⊢
    obtain ⟨m, hm⟩ := cnt_some_pre h
    rw [cntF_snoc, hm] at h
    rw [pileR_snoc, pileV_snoc, ← pileR_val hm (by omega)]
    exact stR_val (by rw [pileR_take hm (by omega)]; exact h)
/-- A formula is one tree, which has its value. -/
theorem fml_tree {f : List Int} (h : isF f = true) : ∃ t, pileR f = [t] ∧ ∀ L, trV L t = valB f L := by
  have h0 := h
  unfold isF at h
  rw [Bool.and_eq_true, decide_eq_true_iff] at h
  have hc : cntF (f.take f.length) = some 1 := by rw [List.take_length]; exact h.1
  have hl := pileR_take hc (Nat.le_refl _)
  rw [List.take_length] at hl
  obtain ⟨t, ht⟩ := List.length_eq_one_iff.1 hl
  refine ⟨t, ht, fun L => ?_⟩
  have hv := pileR_val (L := L) hc (Nat.le_refl _)
  rw [List.take_length, ht] at hv
  unfold valB
  rw [h0, ← hv]
  rfl
/-- How many values a sign takes off. -/
def tkn (x : Int) : Int := if 0 ≤ x ∧ x ≤ 5 then 0 else if x = -1 then 1 else if -4 ≤ x ∧ x ≤ -2 then 2 else 0
def knw (x : Int) : Bool := decide ((0 ≤ x ∧ x ≤ 5) ∨ x = -1 ∨ (-4 ≤ x ∧ x ≤ -2))
theorem isJoint_any (x : Int) (w : World) : Calls Tryd.prog 42 #[.int .i64 x] w (fun e w' => e = .returned (.bool (decide (-4 ≤ x ∧ x ≤ -2))) ∧ w = w') := by
  by_cases h1 : x = -2
  · subst h1
    go_enter Tryd.func42, Tryd.ntmps42
    go_wp2_with fail
    go_ret
    exact ⟨rfl, rfl⟩
  · have h1' : (x == -2) = false := by simpa using h1
    by_cases h2 : x = -3
    · subst h2
      go_enter Tryd.func42, Tryd.ntmps42
      go_wp2_with fail
      go_ret
      exact ⟨rfl, rfl⟩
    · have h2' : (x == -3) = false := by simpa using h2
      by_cases h3 : x = -4
      · subst h3
        go_enter Tryd.func42, Tryd.ntmps42
        go_wp2_with fail
        go_ret
        exact ⟨rfl, rfl⟩
      · have h3' : (x == -4) = false := by simpa using h3
        have HD := Lib.hid (show decide (-4 ≤ x ∧ x ≤ -2) = false from decide_eq_false (by omega))
        clear h1 h2 h3
        go_enter Tryd.func42, Tryd.ntmps42
        go_wp2_with fail
        go_ret
        exact ⟨ret_b HD.out.symm, rfl⟩
theorem takenBy_any (x : Int) (w : World) : Calls Tryd.prog 34 #[.int .i64 x] w (fun e w' => e = .returned (.tuple #[.int .i64 (tkn x), .bool (knw x)]) ∧ w = w') := by
  by_cases h1 : 0 ≤ x ∧ x ≤ 5
  · have HI := Lib.hid (inr_t h1.1 h1.2)
    have HT := Lib.hid (show tkn x = 0 by unfold tkn; rw [if_pos h1])
    have HK := Lib.hid (show knw x = true from decide_eq_true (.inl h1))
    clear h1
    go_enter Tryd.func34, Tryd.ntmps34
    go_wp2_with (first | (go_at_call 41; refine (inRange_any _ _ _ _).mono ?_; rintro e w1 ⟨he, rfl⟩; rw [HI.out] at he; subst he))
    go_ret2
    exact ⟨by rw [HT.out, HK.out]; rfl, rfl⟩
  · have HI := Lib.hid (show inr x 0 5 = false from inr_f (by omega))
    by_cases h2 : x = -1
    · subst h2
      have HT := Lib.hid (show tkn (-1) = 1 from rfl)
      have HK := Lib.hid (show knw (-1) = true from rfl)
      clear h1
      go_enter Tryd.func34, Tryd.ntmps34
      go_wp2_with (first | (go_at_call 41; refine (inRange_any _ _ _ _).mono ?_; rintro e w1 ⟨he, rfl⟩; rw [HI.out] at he; subst he))
      go_ret2
      exact ⟨by rw [HT.out, HK.out]; rfl, rfl⟩
    · have h2' : (x == -1) = false := by simpa using h2
      by_cases h3 : -4 ≤ x ∧ x ≤ -2
      · have HJ := Lib.hid (show decide (-4 ≤ x ∧ x ≤ -2) = true from decide_eq_true h3)
        have HT := Lib.hid (show tkn x = 2 by unfold tkn; rw [if_neg h1, if_neg h2, if_pos h3])
        have HK := Lib.hid (show knw x = true from decide_eq_true (.inr (.inr h3)))
        clear h1 h2 h3
        go_enter Tryd.func34, Tryd.ntmps34
        go_wp2_with (first | (go_at_call 41; refine (inRange_any _ _ _ _).mono ?_; rintro e w1 ⟨he, rfl⟩; rw [HI.out] at he; subst he) | (go_at_call 42; refine (isJoint_any _ _).mono ?_; rintro e w1 ⟨he, rfl⟩; rw [HJ.out] at he; subst he))
        go_ret2
        exact ⟨by rw [HT.out, HK.out]; rfl, rfl⟩
      · have HJ := Lib.hid (show decide (-4 ≤ x ∧ x ≤ -2) = false from decide_eq_false h3)
        have HT := Lib.hid (show tkn x = 0 by unfold tkn; rw [if_neg h1, if_neg h2, if_neg h3])
        have HK := Lib.hid (show knw x = false from decide_eq_false (by omega))
        clear h1 h2 h3
        go_enter Tryd.func34, Tryd.ntmps34
        go_wp2_with (first | (go_at_call 41; refine (inRange_any _ _ _ _).mono ?_; rintro e w1 ⟨he, rfl⟩; rw [HI.out] at he; subst he) | (go_at_call 42; refine (isJoint_any _ _).mono ?_; rintro e w1 ⟨he, rfl⟩; rw [HJ.out] at he; subst he))
        go_ret2
        exact ⟨by rw [HT.out, HK.out]; rfl, rfl⟩
theorem encT_if (t : Tr) : ∃ i v, encT t = .iface i v := by cases t <;> exact ⟨_, _, rfl⟩
def encs (p : List Tr) : List Value := p.map encT
theorem encT_one (t : Tr) : (encT t).oneCell' = true := by cases t <;> rfl
theorem encs_one {p : List Tr} : ∀ u ∈ encs p, u.oneCell' = true := by
  intro u hu
  obtain ⟨t, _, rfl⟩ := List.mem_map.1 hu
  exact encT_one t
theorem encs_len (p : List Tr) : (encs p).length = p.length := by simp [encs]
theorem above0_any {x : Int} {A : Option Addr} {c : Nat} {w : World} : Calls Tryd.prog 35 #[.int .i64 x, .slice A 0 c] w (fun e w' => e = .returned (encT (.lt x)) ∧ ∃ m, w' = w.drewN m) := by
  go_enter Tryd.func35, Tryd.ntmps35
  go_wp2_with fail
  go_ret
  exact ⟨rfl, 0, rfl⟩
theorem above1_any {x : Int} {ad : Addr} {c : Nat} {w : World} {t : Tr} (h : w.cell? ad = some (encT t)) : Calls Tryd.prog 35 #[.int .i64 x, .slice (some ad) 1 c] w (fun e w' => e = .returned (encT (.nt t)) ∧ ∃ m, w' = w.drewN m) := by
  obtain ⟨i, v, hv⟩ := encT_if t
  rw [hv] at h
  have HV := Lib.hid (show encT (.nt t) = .iface 78 (.agg #[.iface i v]) by rw [← hv]; rfl)
  clear hv
  go_enter Tryd.func35, Tryd.ntmps35
  go_wp2_with fail
  go_ret
  exact ⟨by rw [HV.out]; rfl, 0, rfl⟩
theorem above2_any {x : Int} {b o : Nat} {c : Nat} {w : World} {t u : Tr} (h : w.cell? ⟨b, o, none⟩ = some (encT t)) (k : w.cell? ⟨b, o + 1, none⟩ = some (encT u)) : Calls Tryd.prog 35 #[.int .i64 x, .slice (some ⟨b, o, none⟩) 2 c] w (fun e w' => e = .returned (encT (.jt x t u)) ∧ ∃ m, w' = w.drewN m) := by
  obtain ⟨i, v, hv⟩ := encT_if t
  obtain ⟨i', v', hv'⟩ := encT_if u
  rw [hv] at h
  rw [hv'] at k
  have HV := Lib.hid (show encT (.jt x t u) = .iface 80 (.agg #[.int .i64 x, .iface i v, .iface i' v']) by rw [← hv, ← hv']; rfl)
  clear hv hv'
  go_enter Tryd.func35, Tryd.ntmps35
  go_wp2_with fail
  go_quiet (fail)
  go_wp2_with fail
  go_ret
  exact ⟨by rw [HV.out]; rfl, _, rfl⟩
end Go.Proofs.YtignchefkihdaaaDoor

/- The law of append of XAppend as a step of a region that draws its order, and words for what such a region keeps: over any program. -/
namespace Go.Proofs.YtignchefkihdaaaDoor
open Go.ChangeShapes Go.WideShapes Go.ChangeAt Go.RowKit
theorem step_app {P : Program} {w : World} {ops : Array Oper} {o : Oper} {a : Act} {K : Act → World → Prop} {Q : Exit → Act → World → Prop} {E : Prop} (hgd : o.guard = none) (s x : Operand) (t : TypeId)
    (ho : o.op = .call { callee := .builtin .append, args := #[s, x], argTypes := #[t, t] })
    (e : TypeId) (i : TypeInfo) (z : Value) (bytes : Nat) (ht : P.underlying t = some (.slice e)) (hi : P.info? e = some i) (hz : i.zero = some z) (hsize : i.size = 1) (hby : i.bytes = bytes) (hzs : z.cells.size = 1)
    {lo hi' B m c : Nat} {v : Value} {xs news : List Value} {A : Option Addr} (hs : a.eval s = v) (hx : a.eval x = .slice A m c) (hrow : Row w lo hi' e v xs) (hm : news.length = m) (hr : Rd w B A news) (h1 : ∀ u ∈ news, u.oneCell' = true)
    (h63 : xs.length + m ≤ maxLen) (hbytes : (xs.length + m) * bytes ≤ 140737488355328) (hlo : lo ≤ w.heap.size)
    (h : ∀ v' w', Row w' lo w'.heap.size e v' (xs ++ news) → Out lo hi' w w' → K (a.put o.dst v') w') :
    if Region.wanted o (yielded ops a.tmps) = true then Oper.wp P o a w K Q else E := by
  obtain ⟨v', w', hrun, h2, h3⟩ := run_app (P := P) t o.type e i z bytes ht hi hz hsize hby hzs (c := c) hrow hm hr h1 h63 hbytes hlo
  have hw : Region.wanted o (yielded ops a.tmps) = true := by simp [Region.wanted, hgd]
  rw [if_pos hw]
  unfold Oper.wp
  simp [execOp, ho, resolve, invoke, builtin, hs, hx, hrun, Result.andThen]
  exact h v' w' h2 h3
/-- wpList_app where the operation is guarded, and its guard says yes. -/
theorem wpList_app_w {P : Program} {w : World} {ops : Array Oper} {rest : List Oper} {o : Oper} {a : Act} {Q : Exit → Act → World → Prop} (hw : Region.wanted o (yielded ops a.tmps) = true) (s x : Operand) (t : TypeId)
    (ho : o.op = .call { callee := .builtin .append, args := #[s, x], argTypes := #[t, t] })
    (e : TypeId) (i : TypeInfo) (z : Value) (bytes : Nat) (ht : P.underlying t = some (.slice e)) (hi : P.info? e = some i) (hz : i.zero = some z) (hsize : i.size = 1) (hby : i.bytes = bytes) (hzs : z.cells.size = 1)
    {lo hi' B m c : Nat} {v : Value} {xs news : List Value} {A : Option Addr} (hs : a.eval s = v) (hx : a.eval x = .slice A m c) (hrow : Row w lo hi' e v xs) (hm : news.length = m) (hr : Rd w B A news) (h1 : ∀ u ∈ news, u.oneCell' = true)
    (h63 : xs.length + m ≤ maxLen) (hbytes : (xs.length + m) * bytes ≤ 140737488355328) (hlo : lo ≤ w.heap.size)
    (K : ∀ v' w', Row w' lo w'.heap.size e v' (xs ++ news) → Out lo hi' w w' → wpList P ops Q rest (a.put o.dst v') w') : wpList P ops Q (o :: rest) a w := by
  obtain ⟨v', w', hrun, h2, h3⟩ := run_app (P := P) t o.type e i z bytes ht hi hz hsize hby hzs (c := c) hrow hm hr h1 h63 hbytes hlo
  unfold wpList
  rw [if_pos hw]
  refine .inl ?_
  unfold Oper.wp
  simp [execOp, ho, resolve, invoke, builtin, hs, hx, hrun, Result.andThen]
  exact K v' w' h2 h3
section
variable {w w1 w2 : World} {a : Addr} {v : Value}
/-- A cell is as it was, and so is all old memory. -/
theorem hc_call (hl : a.block < w.heap.size) (h : w1.cell? a = some v ∧ Below w.heap.size w w1) (hb : Below w1.heap.size w1 w2) : w2.cell? a = some v ∧ Below w.heap.size w w2 := by
  have h3 := h.2.trans (hb.mono h.2.size)
  exact ⟨(World.cell?_of_block (hb.block _ (Nat.lt_of_lt_of_le hl h.2.size))).trans h.1, h3⟩
theorem hc_start (h : w.cell? a = some v) : w.drew.cell? a = some v ∧ Below w.heap.size w w.drew := ⟨h, (Below.refl _ _).drew⟩
theorem hc_refl (h : w.cell? a = some v) : w.cell? a = some v ∧ Below w.heap.size w w := ⟨h, Below.refl _ _⟩
theorem hc_drew (h : w1.cell? a = some v ∧ Below w.heap.size w w1) : w1.drew.cell? a = some v ∧ Below w.heap.size w w1.drew := ⟨h.1, h.2.drew⟩
theorem hc_alloc (hl : a.block < w.heap.size) (h : w1.cell? a = some v ∧ Below w.heap.size w w1) (o : Obj) : (w1.alloc o).cell? a = some v ∧ Below w.heap.size w (w1.alloc o) :=
  hc_call hl h ((Below.refl _ _).alloc (Nat.le_refl _) _)
theorem hc_out {lo hi : Nat} (hl : a.block < w.heap.size) (h : w1.cell? a = some v ∧ Below w.heap.size w w1) (o : Out lo hi w1 w2) (hlo : w.heap.size ≤ lo) : w2.cell? a = some v ∧ Below w.heap.size w w2 := by
  have hb := o.below hlo h.2.size
  exact ⟨(World.cell?_of_block (hb.block _ hl)).trans h.1, h.2.trans hb⟩
theorem hc_at (h : w1.cell? a = some v) (hb : Below w.heap.size w w1) : w1.cell? a = some v ∧ Below w.heap.size w w1 := ⟨h, hb⟩
theorem hc_atd (h : w1.cell? a = some v) (hb : Below w.heap.size w w1) : w1.drew.cell? a = some v ∧ Below w.heap.size w w1.drew := ⟨h, hb.drew⟩
end
end Go.Proofs.YtignchefkihdaaaDoor
