/- Plain mathematics of varints (base 128 groups, least first), over lists of integers; no program is spoken of. Proves that decoding inverts encoding and that a decoded varint is the encoding of its integer. No conditions but the ranges that each theorem names. -/
import Derived.Test.YtdhnhhicjjcmdaaBase
namespace Go.Proofs.Ytdhnhhicjjcmdaa
/-- The groups of n, at most f + 1 of them. -/
def uv : Nat → Int → List Int
  | 0, n => [n]
  | f + 1, n => if n < 128 then [n] else (n % 128 + 128) :: uv f (n / 128)
def pw (k : Nat) : Int := 128 ^ k
theorem pw_succ (k : Nat) : pw (k + 1) = 128 * pw k := by unfold pw; rw [Int.pow_succ]; omega
theorem pw_pos (k : Nat) : 0 < pw k := by unfold pw; exact Int.pow_pos (by omega)
/-- Decodes: fuel, groups already read, what they hold, the bytes to come. -/
def rv : Nat → Nat → Int → List Int → Option (Int × Nat)
  | 0, _, _, _ => none
  | _ + 1, _, _, [] => none
  | f + 1, k, n, x :: r => if x < 128 then (if (x = 0 ∧ 0 < k) ∨ 1000000000000 < n + x * pw k then none else some (n + x * pw k, k + 1)) else rv f (k + 1) (n + (x - 128) * pw k) r
theorem uv_len (f : Nat) : ∀ n, 0 < (uv f n).length ∧ (uv f n).length ≤ f + 1 := by
  induction f with
  | zero => intro n; simp [uv]
  | succ f ih => intro n; unfold uv; split <;> simp; have := ih (n / 128); omega
theorem uv_small (f : Nat) (n : Int) (h : n < 128) : uv f n = [n] := by
  cases f <;> simp [uv, h]
theorem uv_byte (f : Nat) : ∀ n, 0 ≤ n → n < pw (f + 1) → ∀ x ∈ uv f n, 0 ≤ x ∧ x ≤ 255 := by
  induction f with
  | zero => intro n h0 h1 x hx; have : pw 1 = 128 := by decide
            simp [uv] at hx; simp at h1; omega
  | succ f ih =>
    intro n h0 h1 x hx
    unfold uv at hx
    split at hx
    · simp at hx; omega
    · rw [List.mem_cons] at hx
      rcases hx with rfl | hx
      · omega
      · exact ih (n / 128) (by omega) (by have := pw_succ (f + 1); omega) x hx
theorem rv_uv (f : Nat) : ∀ (k : Nat) (a m : Int) (r : List Int), 0 ≤ m → m < pw (f + 1) → (0 < k → 0 < m) → a + m * pw k ≤ 1000000000000 →
    rv (f + 1) k a (uv f m ++ r) = some (a + m * pw k, k + (uv f m).length) := by
  induction f with
  | zero =>
    intro k a m r h0 h1 hk hM
    have e1 : pw (0 + 1) = 128 := by decide
    have h2 : m < 128 := by omega
    simp only [uv, List.cons_append, List.nil_append, rv, h2, if_true, List.length_singleton]
    rw [if_neg]; rintro (⟨rfl, h⟩ | h)
    · have := hk h; omega
    · omega
  | succ f ih =>
    intro k a m r h0 h1 hk hM
    by_cases h2 : m < 128
    · rw [uv_small _ _ h2]
      simp only [List.cons_append, List.nil_append, rv, h2, if_true, List.length_singleton]
      rw [if_neg]; rintro (⟨rfl, h⟩ | h)
      · have := hk h; omega
      · omega
    · have e : uv (f + 1) m = (m % 128 + 128) :: uv f (m / 128) := by simp [uv, h2]
      have hs := pw_succ k
      have hd : m / 128 * pw (k + 1) + m % 128 * pw k = m * pw k := by
        rw [hs]
        have : m = 128 * (m / 128) + m % 128 := by omega
        generalize m / 128 = q at *
        generalize m % 128 = t at *
        subst this
        rw [Int.add_mul, Int.mul_assoc 128 q, Int.mul_left_comm q 128]
      have h3 := ih (k + 1) (a + m % 128 * pw k) (m / 128) r (by omega) (by have := pw_succ (f + 1); omega) (by omega) (by omega)
      rw [e, List.cons_append]
      show (if m % 128 + 128 < 128 then _ else rv (f + 1) (k + 1) (a + (m % 128 + 128 - 128) * pw k) (uv f (m / 128) ++ r)) = _
      rw [if_neg (by omega), show m % 128 + 128 - 128 = m % 128 by omega, h3, List.length_cons]
      congr 2
      · omega
      · omega
theorem pos_of {x : Int} (h : 0 ≤ x) (h2 : x = 0 → False) : 0 < x := by
  rcases Int.lt_or_eq_of_le h with h | h
  · exact h
  · exact (h2 h.symm).elim
theorem uv_rv (f : Nat) : ∀ (k : Nat) (a n : Int) (j : Nat) (l : List Int), (∀ x ∈ l, 0 ≤ x ∧ x ≤ 255) → rv (f + 1) k a l = some (n, j) →
    ∃ m : Int, 0 ≤ m ∧ n = a + m * pw k ∧ k < j ∧ j - k ≤ l.length ∧ uv f m = l.take (j - k) ∧ (0 < k → 0 < m) ∧ n ≤ 1000000000000 := by
  induction f with
  | zero =>
    intro k a n j l hl h
    cases l with
    | nil => simp [rv] at h
    | cons x r =>
      have hx := hl x (by simp)
      unfold rv at h
      split at h
      · split at h
        · cases h
        · rename_i h1 h2
          injection h with h; injection h with h3 h4
          exact ⟨x, hx.1, h3.symm, by omega, by simp; omega, by subst h4; simp [uv], fun hk => pos_of hx.1 (fun e => h2 (.inl ⟨e, hk⟩)), by omega⟩
      · simp [rv] at h
  | succ f ih =>
    intro k a n j l hl h
    cases l with
    | nil => simp [rv] at h
    | cons x r =>
      have hx := hl x (by simp)
      unfold rv at h
      split at h
      · split at h
        · cases h
        · rename_i h1 h2
          injection h with h; injection h with h3 h4
          exact ⟨x, hx.1, h3.symm, by omega, by simp; omega, by subst h4; rw [uv_small _ _ h1]; simp, fun hk => pos_of hx.1 (fun e => h2 (.inl ⟨e, hk⟩)), by omega⟩
      · rename_i h1
        obtain ⟨m, h0, rfl, hj, hjl, hu, hp, hn⟩ := ih (k + 1) _ n j r (fun y hy => hl y (by simp [hy])) h
        have hm : 0 < m := hp (by omega)
        refine ⟨128 * m + (x - 128), by omega, ?_, by omega, by simp; omega, ?_, by omega, hn⟩
        · rw [pw_succ, Int.add_mul, Int.mul_left_comm m 128, Int.mul_assoc 128 m]; omega
        · have e : j - k = (j - (k + 1)) + 1 := by omega
          unfold uv
          rw [if_neg (by omega), e, List.take_succ_cons, show (128 * m + (x - 128)) % 128 + 128 = x by omega, show (128 * m + (x - 128)) / 128 = m by omega, hu]
/-- What reading at offset o gives: the integer, the offset behind, and whether it is one. -/
def rvAt (zs : List Int) (o : Int) : Option (Int × Nat) := if o < 0 then none else rv 6 0 0 (zs.drop o.toNat)
/-- What is appended for n. -/
def uvr (n : Int) : List Int := if 0 ≤ n ∧ n ≤ 1000000000000 then uv 5 n else []
theorem uvr_len (n : Int) : (uvr n).length ≤ 6 := by
  unfold uvr; split
  · have := uv_len 5 n; omega
  · simp
theorem pw6 : pw (5 + 1) = 4398046511104 := by decide
theorem uvr_byte (n : Int) : ∀ x ∈ uvr n, 0 ≤ x ∧ x ≤ 255 := by
  unfold uvr; split
  · rename_i h
    exact uv_byte 5 n h.1 (by have := pw6; omega)
  · simp
/-- Decoding inverts encoding. -/
theorem rvAt_uvr (zs r : List Int) (n : Int) (h0 : 0 ≤ n) (h1 : n ≤ 1000000000000) : rvAt (zs ++ (uvr n ++ r)) zs.length = some (n, (uvr n).length) := by
  unfold rvAt
  rw [if_neg (by omega), Int.toNat_natCast, List.drop_append_of_le_length (by simp), List.drop_length, List.nil_append]
  unfold uvr; rw [if_pos ⟨h0, h1⟩]
  have := rv_uv 5 0 0 n r h0 (by have := pw6; omega) (by omega) (by simp [pw]; omega)
  rw [this]; simp [pw]
theorem rvAt_end (zs : List Int) (o : Int) (h : zs.length ≤ o) : rvAt zs o = none := by
  unfold rvAt; split
  · rfl
  · rw [List.drop_eq_nil_of_le (by omega)]; rfl
/-- A decoded varint is the encoding of its integer. -/
theorem uvr_rvAt (zs : List Int) (o n : Int) (j : Nat) (hz : ∀ x ∈ zs, 0 ≤ x ∧ x ≤ 255) (h : rvAt zs o = some (n, j)) :
    0 ≤ o ∧ 0 < j ∧ o.toNat + j ≤ zs.length ∧ 0 ≤ n ∧ n ≤ 1000000000000 ∧ uvr n = (zs.drop o.toNat).take j ∧ j ≤ 6 := by
  unfold rvAt at h
  split at h
  · cases h
  · obtain ⟨m, h0, hn, hj, hjl, hu, _, hM⟩ := uv_rv 5 0 0 n j _ (fun x hx => hz x (List.mem_of_mem_drop hx)) h
    have e : n = m := by rw [hn]; simp [pw]
    subst e
    rw [List.length_drop] at hjl
    have hl := uv_len 5 n
    rw [hu] at hl
    rw [List.length_take, List.length_drop] at hl
    exact ⟨by omega, hj, by omega, h0, hM, by unfold uvr; rw [if_pos ⟨h0, hM⟩, hu]; rfl, by omega⟩
theorem pw_two (k : Nat) : pw k = (2 : Int) ^ (7 * k) := by
  induction k with
  | zero => rfl
  | succ k ih =>
    rw [pw_succ, ih, show 7 * (k + 1) = 7 * k + 1 + 1 + 1 + 1 + 1 + 1 + 1 by omega]
    simp only [Int.pow_succ]
    generalize (2 : Int) ^ (7 * k) = e
    omega
theorem pw_le (k : Nat) (h : k ≤ 5) : pw k ≤ 34359738368 := by
  have h5 : pw 5 = 34359738368 := by decide
  have h4 : pw 4 = 268435456 := by decide
  have h3 : pw 3 = 2097152 := by decide
  have h2 : pw 2 = 16384 := by decide
  have h1 : pw 1 = 128 := by decide
  have h0 : pw 0 = 1 := by decide
  rcases (show k = 0 ∨ k = 1 ∨ k = 2 ∨ k = 3 ∨ k = 4 ∨ k = 5 by omega) with rfl | rfl | rfl | rfl | rfl | rfl <;> omega
section
variable {zs : List Int} {p k : Nat} {z : Int} {R : Option (Int × Nat)}
theorem rv_out (h : rv (6 - k) k z (zs.drop (p + k)) = R) (hk : k = 6 ∨ zs.length ≤ p + k) : R = none := by
  rw [← h]
  rcases hk with rfl | hk
  · rfl
  · rw [List.drop_eq_nil_of_le hk]
    cases 6 - k <;> rfl
theorem rv_round (h : rv (6 - k) k z (zs.drop (p + k)) = R) (hk : k < 6) (hlt : p + k < zs.length) {x : Int} (hx : x = zs[p + k]) : rv (5 - k + 1) k z (x :: zs.drop (p + (k + 1))) = R := by
  rw [← h, List.drop_eq_getElem_cons hlt, show 6 - k = 5 - k + 1 by omega, hx, Nat.add_assoc]
theorem rv_no {x : Int} {l : List Int} (h : rv (5 - k + 1) k z (x :: l) = R) (h1 : x < 128) (h2 : (x = 0 ∧ 0 < k) ∨ 1000000000000 < z + x % 128 * pw k) (hx : 0 ≤ x) : R = none := by
  rw [← h]; unfold rv
  rw [if_pos h1, if_pos]
  rwa [show x % 128 = x by omega] at h2
theorem rv_yes {x : Int} {l : List Int} (h : rv (5 - k + 1) k z (x :: l) = R) (h1 : x < 128) (h2 : ¬ ((x = 0 ∧ 0 < k) ∨ 1000000000000 < z + x % 128 * pw k)) (hx : 0 ≤ x) : R = some (z + x % 128 * pw k, k + 1) := by
  rw [show x % 128 = x by omega] at h2 ⊢
  rw [← h]; unfold rv
  rw [if_pos h1, if_neg h2]
theorem rv_more {x : Int} {l : List Int} (h : rv (5 - k + 1) k z (x :: l) = R) (hk : k < 6) (h1 : 128 ≤ x) (h2 : x ≤ 255) : rv (6 - (k + 1)) (k + 1) (z + x % 128 * pw k) l = R := by
  rw [← h]
  conv => rhs; unfold rv
  rw [if_neg (by omega), show x % 128 = x - 128 by omega, show 6 - (k + 1) = 5 - k by omega]
end
theorem mul_lo {a b : Int} (h : 0 ≤ a) (k : 0 ≤ b) : 0 ≤ a * b := Int.mul_nonneg h k
theorem mul_hi {a b c : Int} (h : a ≤ c) (k : 0 ≤ b) : a * b ≤ c * b := Int.mul_le_mul_of_nonneg_right h k
end Go.Proofs.Ytdhnhhicjjcmdaa
