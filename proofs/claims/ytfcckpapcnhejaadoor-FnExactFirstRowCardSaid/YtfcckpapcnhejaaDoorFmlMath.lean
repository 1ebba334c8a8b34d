/- Sums of chapter 10, without code: formulas, their values, letters and joins. -/
import Derived.Test.YtfcckpapcnhejaaDoorInts
namespace Go.Proofs.YtfcckpapcnhejaaDoor
/-- How many values lie on the pile after one sign more. -/
def stF (o : Option Nat) (x : Int) : Option Nat :=
  match o with
  | none => none
  | some n => if 0 ≤ x ∧ x ≤ 5 then some (n + 1) else if x = -1 ∧ 1 ≤ n then some n else if (-4 ≤ x ∧ x ≤ -2) ∧ 2 ≤ n then some (n - 1) else none
def cntF (f : List Int) : Option Nat := f.foldl stF (some 0)
def isF (f : List Int) : Bool := decide (cntF f = some 1) && decide (f.length ≤ 24)
theorem cntF_snoc (f : List Int) (x : Int) : cntF (f ++ [x]) = stF (cntF f) x := by simp [cntF, List.foldl_append]
theorem stF_none (f : List Int) : f.foldl stF none = none := by
  induction f with
  | nil => rfl
  | cons x f ih => exact ih
theorem cntF_pre {f : List Int} {k : Nat} (h : cntF (f.take k) = none) : cntF f = none := by
  have e : f = f.take k ++ f.drop k := (List.take_append_drop k f).symm
  rw [e]
  unfold cntF at h ⊢
  rw [List.foldl_append, h]
  exact stF_none _
theorem stF_let {j : Nat} {x : Int} (h : 0 ≤ x ∧ x ≤ 5) : stF (some j) x = some (j + 1) := by simp only [stF]; rw [if_pos h]
theorem stF_not {j : Nat} (h : 1 ≤ j) : stF (some j) (-1) = some j := by simp only [stF]; simp [h]
theorem stF_op {j : Nat} {x : Int} (h : -4 ≤ x ∧ x ≤ -2) (hj : 2 ≤ j) : stF (some j) x = some (j - 1) := by simp only [stF]; rw [if_neg (by omega), if_neg (by omega), if_pos ⟨h, hj⟩]
theorem stF_bad {j : Nat} {x : Int} (h1 : ¬ (0 ≤ x ∧ x ≤ 5)) (h2 : ¬ (x = -1 ∧ 1 ≤ j)) (h3 : ¬ ((-4 ≤ x ∧ x ≤ -2) ∧ 2 ≤ j)) : stF (some j) x = none := by simp only [stF]; rw [if_neg h1, if_neg h2, if_neg h3]
/-- The pile of values, the top last. -/
def opB (x : Int) (a b : Bool) : Bool := if x = -2 then a && b else if x = -3 then a || b else !a || b
def stV (L : List Bool) (p : List Bool) (x : Int) : List Bool :=
  if 0 ≤ x then p ++ [L.getD x.toNat false] else if x = -1 then p.dropLast ++ [!(p.getLastD false)] else p.dropLast.dropLast ++ [opB x (p.dropLast.getLastD false) (p.getLastD false)]
def pileV (L : List Bool) (f : List Int) : List Bool := f.foldl (stV L) []
theorem pileV_snoc (L : List Bool) (f : List Int) (x : Int) : pileV L (f ++ [x]) = stV L (pileV L f) x := by simp [pileV, List.foldl_append]
def valB (f : List Int) (L : List Bool) : Bool := isF f && (pileV L f).headD false
/-- The pile has as many values as are counted. -/
theorem stF_some {o : Option Nat} {x : Int} {m : Nat} (h : stF o x = some m) : ∃ n, o = some n ∧ ((0 ≤ x ∧ x ≤ 5 ∧ m = n + 1) ∨ (x = -1 ∧ 1 ≤ n ∧ m = n) ∨ (-4 ≤ x ∧ x ≤ -2 ∧ 2 ≤ n ∧ m = n - 1)) := by
  cases o with
  | none => cases h
  | some n =>
    refine ⟨n, rfl, ?_⟩
    unfold stF at h
    simp only at h
    split at h
    · next c => injection h with h; exact .inl ⟨c.1, c.2, h.symm⟩
    · split at h
      · next c => injection h with h; exact .inr (.inl ⟨c.1, c.2, h.symm⟩)
      · split at h
        · next c => injection h with h; exact .inr (.inr ⟨c.1.1, c.1.2, c.2, h.symm⟩)
        · cases h
theorem stV_len {L : List Bool} {p : List Bool} {x : Int} {o : Option Nat} {m : Nat} (ho : o = some p.length) (h : stF o x = some m) : (stV L p x).length = m := by
  obtain ⟨n, e, h⟩ := stF_some h
  rw [ho] at e
  injection e with e
  unfold stV
  rcases h with ⟨h1, _, rfl⟩ | ⟨rfl, h2, rfl⟩ | ⟨h1, h2, h3, rfl⟩
  · rw [if_pos h1]; simp [e]
  · rw [if_neg (by decide), if_pos rfl]; simp; omega
  · rw [if_neg (by omega), if_neg (by omega)]; simp; omega
theorem cnt_some_pre {f g : List Int} {m : Nat} (h : cntF (f ++ g) = some m) : ∃ n, cntF f = some n := by
  cases hf : cntF f with
  | none =>
    unfold cntF at h hf
    rw [List.foldl_append, hf, stF_none] at h
    cases h
  | some n => exact ⟨n, rfl⟩
theorem pile_len {L : List Bool} {f : List Int} {n : Nat} (h : cntF f = some n) : (pileV L f).length = n := by
  have key : ∀ (k : Nat) (f : List Int) (n : Nat), f.length = k → cntF f = some n → (pileV L f).length = n := by
    intro k
    induction k with
    | zero =>
      intro f n hl h
      obtain rfl := List.eq_nil_of_length_eq_zero hl
      injection h with h
    | succ k ih =>
      intro f n hl h
      obtain ⟨g, x, rfl⟩ : ∃ g x, f = g ++ [x] := ⟨f.dropLast, f.getLast (by intro e; rw [e] at hl; cases hl), (List.dropLast_concat_getLast _).symm⟩
      rw [pileV_snoc]
      rw [cntF_snoc] at h
      obtain ⟨m, hm⟩ := cnt_some_pre (f := g) (g := [x]) (by rw [cntF_snoc]; exact h)
      exact stV_len (o := cntF g) (by rw [hm, ih g m (by simpa using hl) hm]) h
  exact key _ f n rfl h
theorem last_app {α : Type} {p q : List α} (h : p ≠ []) : (q ++ p).getLast? = p.getLast? := by
  rw [List.getLast?_append]
  cases hp : p.getLast? with
  | none => exact absurd (List.getLast?_eq_none_iff.1 hp) h
  | some a => rfl
/-- A formula behind what is there puts one value on the pile. -/
theorem cnt_from (f : List Int) : ∀ (n j : Nat), f.foldl stF (some n) = some j → ∀ d, f.foldl stF (some (n + d)) = some (j + d) := by
  induction f with
  | nil => intro n j h d; injection h with h; subst h; rfl
  | cons x f ih =>
    intro n j h d
    rw [List.foldl_cons] at h ⊢
    cases hs : stF (some n) x with
    | none => rw [hs, stF_none] at h; cases h
    | some m =>
      rw [hs] at h
      have e : stF (some (n + d)) x = some (m + d) := by
        obtain ⟨n', e, hc⟩ := stF_some hs
        injection e with e
        subst e
        unfold stF
        simp only
        rcases hc with ⟨h1, h2, rfl⟩ | ⟨rfl, h2, rfl⟩ | ⟨h1, h2, h3, rfl⟩
        · rw [if_pos ⟨h1, h2⟩]; congr 1; omega
        · rw [if_neg (by decide), if_pos ⟨rfl, by omega⟩]
        · rw [if_neg (by omega), if_neg (by omega), if_pos ⟨⟨h1, h2⟩, by omega⟩]; congr 1; omega
      rw [e]
      exact ih m j h d
theorem pile_from (L : List Bool) (f : List Int) : ∀ (p q : List Bool) (j : Nat), f.foldl stF (some p.length) = some j → f.foldl (stV L) (q ++ p) = q ++ f.foldl (stV L) p := by
  induction f with
  | nil => intro p q j _; rfl
  | cons x f ih =>
    intro p q j h
    rw [List.foldl_cons] at h
    rw [List.foldl_cons, List.foldl_cons]
    cases hs : stF (some p.length) x with
    | none => rw [hs, stF_none] at h; cases h
    | some m =>
      rw [hs] at h
      have hl := stV_len (L := L) (p := p) rfl hs
      have e : stV L (q ++ p) x = q ++ stV L p x := by
        obtain ⟨n, e, hc⟩ := stF_some hs
        injection e with e
        unfold stV
        rcases hc with ⟨h1, _, _⟩ | ⟨rfl, h2, _⟩ | ⟨h1, h2, h3, _⟩
        · rw [if_pos h1, if_pos h1, List.append_assoc]
        · have hp : p ≠ [] := fun e' => by rw [e'] at e; simp at e; omega
          rw [if_neg (by decide), if_pos rfl, if_neg (by decide), if_pos rfl]
          rw [List.dropLast_append_of_ne_nil hp, List.append_assoc]
          congr 3
          rw [List.getLastD_eq_getLast?, List.getLastD_eq_getLast?, last_app hp]
        · have hp : p ≠ [] := fun e' => by rw [e'] at e; simp at e; omega
          have hp2 : p.dropLast ≠ [] := fun e' => by
            have := congrArg List.length e'
            simp at this
            omega
          rw [if_neg (by omega), if_neg (by omega), if_neg (by omega), if_neg (by omega)]
          rw [List.dropLast_append_of_ne_nil hp, List.dropLast_append_of_ne_nil hp2, List.append_assoc]
          rw [List.getLastD_eq_getLast?, List.getLastD_eq_getLast?, List.getLastD_eq_getLast?, List.getLastD_eq_getLast?, last_app hp, last_app hp2]
      rw [e]
      exact ih _ q j (by rw [hl]; exact h)
theorem isF_cnt {f : List Int} (h : isF f = true) : cntF f = some 1 := by
  unfold isF at h
  rw [Bool.and_eq_true, decide_eq_true_iff] at h
  exact h.1
theorem isF_len {f : List Int} (h : isF f = true) : f.length ≤ 24 := by
  unfold isF at h
  rw [Bool.and_eq_true, decide_eq_true_iff, decide_eq_true_iff] at h
  exact h.2
theorem pile_one {L : List Bool} {f : List Int} (h : isF f = true) : pileV L f = [valB f L] := by
  have hl := pile_len (L := L) (isF_cnt h)
  match hp : pileV L f, hl with
  | [b], _ => unfold valB; rw [h, hp]; rfl
theorem val_of {L : List Bool} {f : List Int} {b : Bool} (h : isF f = true) (hp : pileV L f = [b]) : valB f L = b := by
  unfold valB
  rw [h, hp]
  rfl
def notL (f : List Int) : List Int := if isF (f ++ [-1]) then f ++ [-1] else []
def joinL (a b : List Int) (x : Int) : List Int := if isF a && isF b && inr x (-4) (-2) && isF (a ++ b ++ [x]) then a ++ b ++ [x] else []
theorem isF_not {f : List Int} (h : isF (f ++ [-1]) = true) : isF f = true := by
  have h1 := isF_cnt h
  have h2 := isF_len h
  rw [cntF_snoc] at h1
  obtain ⟨n, e, hc⟩ := stF_some h1
  have : n = 1 := by omega
  subst this
  simp at h2
  unfold isF
  rw [e, decide_eq_true rfl, decide_eq_true (by omega)]
  rfl
theorem val_not {f : List Int} {L : List Bool} (h : isF (f ++ [-1]) = true) : valB (f ++ [-1]) L = !(valB f L) := by
  refine val_of h ?_
  rw [pileV_snoc, pile_one (isF_not h)]
  rfl
theorem val_join {a b : List Int} {x : Int} {L : List Bool} (ha : isF a = true) (hb : isF b = true) (hx : -4 ≤ x ∧ x ≤ -2) (h : isF (a ++ b ++ [x]) = true) : valB (a ++ b ++ [x]) L = opB x (valB a L) (valB b L) := by
  refine val_of h ?_
  have e : pileV L (a ++ b) = [valB a L, valB b L] := by
    have h1 : pileV L (a ++ b) = b.foldl (stV L) (pileV L a ++ []) := by simp [pileV, List.foldl_append]
    rw [h1, pile_from L b [] (pileV L a) 1 (isF_cnt hb), pile_one ha]
    have : b.foldl (stV L) [] = pileV L b := rfl
    rw [this, pile_one hb]
    rfl
  rw [pileV_snoc, e]
  unfold stV
  rw [if_neg (by omega), if_neg (by omega)]
  rfl
/-- The letters, ascending. -/
def putL (n : Int) : List Int → List Int
  | [] => [n]
  | x :: l => if x < n then x :: putL n l else if x = n then x :: l else n :: x :: l
def letL (f : List Int) : List Int := if isF f then f.foldl (fun l x => if 0 ≤ x then putL x l else l) [] else []
theorem putL_mem {n z : Int} : ∀ {l : List Int}, z ∈ putL n l ↔ z = n ∨ z ∈ l
  | [] => by simp [putL]
  | x :: l => by
    have ih := putL_mem (n := n) (z := z) (l := l)
    unfold putL
    split
    · rw [List.mem_cons, ih, List.mem_cons]
      constructor
      · rintro (h | h | h)
        · exact .inr (.inl h)
        · exact .inl h
        · exact .inr (.inr h)
      · rintro (h | h | h)
        · exact .inr (.inl h)
        · exact .inl h
        · exact .inr (.inr h)
    · split
      · next h => subst h; simp
      · simp
theorem putL_asc {n : Int} : ∀ {l : List Int}, l.Pairwise (· < ·) → (putL n l).Pairwise (· < ·)
  | [], _ => by simp [putL]
  | x :: l, h => by
    have h' := List.pairwise_cons.1 h
    unfold putL
    split
    · next hx =>
      refine List.pairwise_cons.2 ⟨fun z hz => ?_, putL_asc h'.2⟩
      rcases putL_mem.1 hz with rfl | hz
      · exact hx
      · exact h'.1 z hz
    · split
      · exact h
      · next h1 h2 =>
        refine List.pairwise_cons.2 ⟨fun z hz => ?_, h⟩
        rcases List.mem_cons.1 hz with rfl | hz
        · omega
        · have := h'.1 z hz; omega
def putAll (f : List Int) (l : List Int) : List Int := f.foldl (fun l x => if 0 ≤ x then putL x l else l) l
theorem putAll_mem {z : Int} : ∀ {f l : List Int}, z ∈ putAll f l ↔ z ∈ l ∨ (z ∈ f ∧ 0 ≤ z)
  | [], l => by simp [putAll]
  | x :: f, l => by
    have ih := putAll_mem (z := z) (f := f) (l := if 0 ≤ x then putL x l else l)
    unfold putAll at ih ⊢
    rw [List.foldl_cons, ih]
    by_cases hx : 0 ≤ x
    · rw [if_pos hx, putL_mem, List.mem_cons]
      constructor
      · rintro ((h | h) | h)
        · exact .inr ⟨.inl h, by omega⟩
        · exact .inl h
        · exact .inr ⟨.inr h.1, h.2⟩
      · rintro (h | ⟨h | h, h0⟩)
        · exact .inl (.inr h)
        · exact .inl (.inl h)
        · exact .inr ⟨h, h0⟩
    · rw [if_neg hx, List.mem_cons]
      constructor
      · rintro (h | h)
        · exact .inl h
        · exact .inr ⟨.inr h.1, h.2⟩
      · rintro (h | ⟨h | h, h0⟩)
        · exact .inl h
        · exact absurd (h ▸ h0) hx
        · exact .inr ⟨h, h0⟩
theorem putAll_asc : ∀ {f l : List Int}, l.Pairwise (· < ·) → (putAll f l).Pairwise (· < ·)
  | [], _, h => h
  | x :: f, l, h => by
    unfold putAll
    rw [List.foldl_cons]
    refine putAll_asc (f := f) ?_
    split
    · exact putL_asc h
    · exact h
theorem letL_asc (f : List Int) : (letL f).Pairwise (· < ·) := by
  unfold letL
  split
  · exact putAll_asc List.Pairwise.nil
  · exact List.Pairwise.nil
theorem letL_mem {f : List Int} {z : Int} : z ∈ letL f ↔ isF f = true ∧ z ∈ f ∧ 0 ≤ z := by
  unfold letL
  split
  · next h => rw [show (f.foldl (fun l x => if 0 ≤ x then putL x l else l) []) = putAll f [] from rfl, putAll_mem]; simp [h]
  · next h => simp [h]
/-- What letters say that a formula does not have changes nothing. -/
theorem pile_same {L M : List Bool} : ∀ (f : List Int) (p : List Bool), (∀ z ∈ f, 0 ≤ z → L.getD z.toNat false = M.getD z.toNat false) → f.foldl (stV L) p = f.foldl (stV M) p
  | [], _, _ => rfl
  | x :: f, p, h => by
    rw [List.foldl_cons, List.foldl_cons]
    have e : stV L p x = stV M p x := by
      unfold stV
      by_cases hx : 0 ≤ x
      · rw [if_pos hx, if_pos hx, h x (by simp) hx]
      · rw [if_neg hx, if_neg hx]
    rw [e]
    exact pile_same f _ fun z hz h0 => h z (List.mem_cons_of_mem _ hz) h0
theorem val_same {f : List Int} {L M : List Bool} (h : ∀ z ∈ f, 0 ≤ z → L.getD z.toNat false = M.getD z.toNat false) : valB f L = valB f M := by
  unfold valB pileV
  rw [pile_same f [] h]
/-- The text, as a pile of texts. -/
def opT (x : Int) : List UInt8 := if x = -2 then [38] else if x = -3 then [124] else [62]
def stT (p : List (List UInt8)) (x : Int) : List (List UInt8) :=
  if 0 ≤ x then p ++ [[UInt8.ofNat (97 + x.toNat)]] else if x = -1 then p.dropLast ++ [33 :: p.getLastD []] else p.dropLast.dropLast ++ [40 :: (p.dropLast.getLastD [] ++ opT x ++ p.getLastD [] ++ [41])]
def pileT (f : List Int) : List (List UInt8) := f.foldl stT []
def txtF (f : List Int) : List UInt8 := if isF f then (pileT f).headD [] else []
end Go.Proofs.YtfcckpapcnhejaaDoor
