/- Plain mathematics of lists of varints; no program is spoken of. Proves that decoding a list inverts encoding it, and that nothing can be decoded behind the end. Conditions: the integers lie in 0 to 1000000000000. -/
import Derived.Test.YtdpaoaoipnoiiaaMg1
namespace Go.Proofs.Ytdpaoaoipnoiiaa
def encs (l : List Int) : List Int := l.flatMap uvr
theorem encs_nil : encs [] = [] := rfl
theorem encs_snoc (l : List Int) (x : Int) : encs (l ++ [x]) = encs l ++ uvr x := by simp [encs]
theorem encs_len (l : List Int) : (encs l).length ≤ 6 * l.length := by
  induction l with
  | nil => simp [encs]
  | cons x l ih =>
    have := uvr_len x
    have e : encs (x :: l) = uvr x ++ encs l := by simp [encs]
    rw [e, List.length_append, List.length_cons]; omega
theorem encs_byte (l : List Int) : ∀ x ∈ encs l, 0 ≤ x ∧ x ≤ 255 := by
  intro x hx
  obtain ⟨y, _, h⟩ := List.mem_flatMap.1 hx
  exact uvr_byte y x h
theorem encs_take (l : List Int) (k : Nat) (h : k < l.length) : encs (l.take (k + 1)) = encs (l.take k) ++ uvr l[k] := by
  rw [List.take_succ_eq_append_getElem h, encs_snoc]
def decAt (zs : List Int) : Nat → Int → Option (List Int × Int)
  | 0, o => some ([], o)
  | n + 1, o => match rvAt zs o with
    | none => none
    | some (m, j) => (decAt zs n (o + j)).map fun p => (m :: p.1, p.2)
def pre (done : List Int) (R : Option (List Int × Int)) : Option (List Int × Int) := R.map fun p => (done ++ p.1, p.2)
theorem pre_nil (R : Option (List Int × Int)) : pre [] R = R := by
  cases R <;> simp [pre]
theorem pre_end {done zs : List Int} {o : Int} {R : Option (List Int × Int)} {n k : Nat} (h : pre done (decAt zs (n - k) o) = R) (hk : n ≤ k) : R = some (done, o) := by
  rw [← h, show n - k = 0 by omega]; simp [pre, decAt]
theorem pre_none {done zs : List Int} {o : Int} {R : Option (List Int × Int)} {n k : Nat} (h : pre done (decAt zs (n - k) o) = R) (hk : k < n) (hr : rvAt zs o = none) : R = none := by
  rw [← h, show n - k = (n - (k + 1)) + 1 by omega]; simp [pre, decAt, hr]
theorem pre_some {done zs : List Int} {o m : Int} {R : Option (List Int × Int)} {n k j : Nat} (h : pre done (decAt zs (n - k) o) = R) (hk : k < n) (hr : rvAt zs o = some (m, j)) :
    pre (done ++ [m]) (decAt zs (n - (k + 1)) (o + (j : Int))) = R := by
  rw [← h, show n - k = (n - (k + 1)) + 1 by omega]
  simp only [pre, decAt, hr]
  cases decAt zs (n - (k + 1)) (o + (j : Int)) <;> simp
theorem decAt_len (zs : List Int) : ∀ (n : Nat) (o e : Int) (l : List Int), decAt zs n o = some (l, e) → l.length = n := by
  intro n
  induction n with
  | zero => intro o e l h; simp [decAt] at h; simp [← h.1]
  | succ n ih =>
    intro o e l h
    unfold decAt at h
    split at h
    · cases h
    · rename_i m j hr
      cases hd : decAt zs n (o + j) with
      | none => rw [hd] at h; cases h
      | some p =>
        rw [hd] at h
        simp only [Option.map_some, Option.some.injEq, Prod.mk.injEq] at h
        have := ih _ _ _ hd
        rw [← h.1, List.length_cons, this]
theorem decAt_encs (zs r : List Int) (l : List Int) : ∀ (done : List Int), (∀ x ∈ l, 0 ≤ x ∧ x ≤ 1000000000000) → zs = encs done ++ (encs l ++ r) →
    decAt zs l.length ((encs done).length : Int) = some (l, (((encs done).length + (encs l).length : Nat) : Int)) := by
  induction l with
  | nil => intro done _ _; simp [decAt, encs]
  | cons x l ih =>
    intro done hl hz
    have hx := hl x (by simp)
    have e : encs (x :: l) = uvr x ++ encs l := by simp [encs]
    have hr : rvAt zs ((encs done).length : Int) = some (x, (uvr x).length) := by
      rw [hz, e, List.append_assoc]
      exact rvAt_uvr _ _ x hx.1 hx.2
    have h2 := ih (done ++ [x]) (fun y hy => hl y (by simp [hy])) (by rw [hz, e, encs_snoc]; simp)
    rw [List.length_cons]
    unfold decAt
    rw [hr]
    simp only []
    rw [encs_snoc, List.length_append] at h2
    rw [show ((encs done).length : Int) + ((uvr x).length : Int) = (((encs done).length + (uvr x).length : Nat) : Int) by omega, h2, e]
    simp only [Option.map_some, List.length_append]
    congr 3
    omega
theorem decAt_more (l : List Int) (hl : ∀ x ∈ l, 0 ≤ x ∧ x ≤ 1000000000000) : decAt (encs l) (l.length + 1) 0 = none := by
  have gen : ∀ (n : Nat) (zs : List Int) (o e : Int) (m : List Int), decAt zs n o = some (m, e) → (zs.length : Int) ≤ e → decAt zs (n + 1) o = none := by
    intro n
    induction n with
    | zero =>
      intro zs o e m h he
      simp only [decAt, Option.some.injEq, Prod.mk.injEq] at h
      unfold decAt
      rw [rvAt_end zs o (by omega)]
    | succ n ih =>
      intro zs o e m h he
      unfold decAt at h
      unfold decAt
      split at h
      · cases h
      · rename_i a j hr
        cases hd : decAt zs n (o + j) with
        | none => rw [hd] at h; cases h
        | some p =>
          rw [hd] at h
          simp only [Option.map_some, Option.some.injEq, Prod.mk.injEq] at h
          have := ih zs (o + j) p.2 p.1 hd (by omega)
          rw [this]; rfl
  have h := decAt_encs (encs l) [] l [] hl (by simp [encs])
  simp only [encs_nil, List.length_nil] at h
  exact gen _ _ _ _ _ h (by omega)
end Go.Proofs.Ytdpaoaoipnoiiaa
