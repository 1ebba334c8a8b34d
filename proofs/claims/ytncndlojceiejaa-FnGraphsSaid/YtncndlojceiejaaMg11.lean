/- Contract of the model of RoundOf. No conditions but that the slices have at most 2^40 elements. -/
import Derived.Test.YtncndlojceiejaaMg10
namespace Go.Proofs.Ytncndlojceiejaa
open Go.ChangeShapes Go.WideShapes Go.ChangeAt Go.RowKit
set_option maxRecDepth 100000
def rndT (N : Int) (X : List (List Int)) (c : Int) : Nat → Nat → Int
  | 0, _ => -1
  | f + 1, k => if (itS N X (k + 1)).contains c then ((k + 1 : Nat) : Int) else rndT N X c f (k + 1)
/-- The step at which a claim stands; -1 if none. -/
def rnd (N : Int) (X : List (List Int)) (c : Int) : Int := if gB N X then rndT N X c N.toNat 0 else -1
end Go.Proofs.Ytncndlojceiejaa

/- Contracts of the code's Grounded and RoundOf. No conditions but that the slices have at most 2^40 elements. -/
namespace Go.Proofs.Ytncndlojceiejaa
open Go.ChangeShapes Go.WideShapes Go.ChangeAt Go.RowKit Go.Shelf
attribute [local go_sem] Oper.semAt_some
set_option maxRecDepth 100000
theorem stop_it {N : Int} {X : List (List Int)} {K : Nat} (hK : itB (rn N X) (rf N X) (K + 1) = itB (rn N X) (rf N X) K) (hgrow : ∀ j, j < K → itB (rn N X) (rf N X) (j + 1) ≠ itB (rn N X) (rf N X) j) : itS N X K = grd N X :=
  it_fix' (fun j hj e => hgrow j hj ((itB_eq N X _ _).2 e)) ((itB_eq N X _ _).1 hK)
/-- 'has' of what stands after k rounds. -/
theorem has_it (N : Int) (X : List (List Int)) (c : Int) (k : Nat) : (inr c 0 9 && (itB (rn N X) (rf N X) k).testBit c.toNat) = (itS N X k).contains c := by
  rw [itB_code, bS_bit]
  by_cases h : inr c 0 9 = true
  · have h' : 0 ≤ c ∧ c ≤ 9 := by simpa [inr] using h
    obtain ⟨j, rfl⟩ := Int.eq_ofNat_of_zero_le h'.1
    have : j < 10 := by omega
    rw [h, Int.toNat_natCast, decide_eq_true this]
    simp
  · rw [show inr c 0 9 = false by simpa using h, Bool.false_and]
    symm
    rw [← Bool.not_eq_true]
    intro hc
    have hm : c ∈ itS N X k := by simpa using hc
    by_cases hg : gB N X = true
    · have h0 := hg
      obtain ⟨n, rfl, hn, hp, _⟩ := gB_ok hg
      obtain ⟨p, rfl, hlt⟩ := set_lt h0 (it_set h0 hp k) hm
      exact h (inr_t (by omega) (by omega))
    · rw [it_none (by simpa using hg)] at hm
      cases hm
theorem rndT_hit {N : Int} {X : List (List Int)} {c : Int} {x : Nat} (hx : (itS N X (x + 1)).contains c = true) (hno : ∀ y, y < x → (itS N X (y + 1)).contains c = false) : ∀ fu k, k ≤ x → x < k + fu → rndT N X c fu k = ((x + 1 : Nat) : Int)
  | 0, k, h1, h2 => absurd h2 (by omega)
  | fu + 1, k, h1, h2 => by
    unfold rndT
    by_cases e : k = x
    · subst e
      rw [hx]; rfl
    · rw [hno k (by omega)]
      exact rndT_hit hx hno fu (k + 1) (by omega) (by omega)
theorem rndT_miss {N : Int} {X : List (List Int)} {c : Int} (hno : ∀ y, (itS N X (y + 1)).contains c = false) : ∀ fu k, rndT N X c fu k = -1
  | 0, k => rfl
  | fu + 1, k => by
    unfold rndT
    rw [hno k]
    exact rndT_miss hno fu (k + 1)
section
variable {N : Int} {X : List (List Int)} {c : Int} {K : Nat} (hK : itB (rn N X) (rf N X) (K + 1) = itB (rn N X) (rf N X) K) (hgrow : ∀ j, j < K → itB (rn N X) (rf N X) (j + 1) ≠ itB (rn N X) (rf N X) j)
include hK hgrow
theorem rnd_hit {x : Nat} (hxK : x < K) (hx : (inr c 0 9 && (itB (rn N X) (rf N X) (x + 1)).testBit c.toNat) = true) (hno : ∀ y, y < x → (inr c 0 9 && (itB (rn N X) (rf N X) (y + 1)).testBit c.toNat) = false) : rnd N X c = (x : Int) + 1 := by
  rw [has_it] at hx
  have hno' : ∀ y, y < x → (itS N X (y + 1)).contains c = false := fun y hy => by rw [← has_it]; exact hno y hy
  unfold rnd
  by_cases hg : gB N X = true
  · rw [if_pos hg]
    obtain ⟨n, rfl, hn, hp, _⟩ := gB_ok hg
    have h1 := itS_many n X K (fun j hj e => hgrow j hj ((itB_eq n X _ _).2 e))
    have h2 := it_len (n := n) (X := X) K
    rw [rndT_hit hx hno' _ 0 (by omega) (by rw [Int.toNat_natCast]; omega)]
    push_cast
    rfl
  · rw [it_none (by simpa using hg)] at hx
    simp at hx
omit hgrow in
theorem rnd_miss (hno : ∀ y, y < K → (inr c 0 9 && (itB (rn N X) (rf N X) (y + 1)).testBit c.toNat) = false) : rnd N X c = -1 := by
  unfold rnd
  split
  · refine rndT_miss (fun y => ?_) _ _
    rw [← has_it]
    by_cases h : y < K
    · exact hno y h
    · have hst : itB (rn N X) (rf N X) (y + 1) = itB (rn N X) (rf N X) K := by
        rw [itB_eq]
        have := it_stay ((itB_eq N X _ _).1 hK) (y + 1 - K)
        rw [show K + (y + 1 - K) = y + 1 by omega] at this
        exact this
      rw [hst]
      cases K with
      | zero => simp [itB]
      | succ K => exact hno K (by omega)
  · rfl
end
end Go.Proofs.Ytncndlojceiejaa

/- Contract of the model of Labels. No conditions but that the slices have at most 2^40 elements. -/
namespace Go.Proofs.Ytncndlojceiejaa
open Go.ChangeShapes Go.WideShapes Go.ChangeAt Go.RowKit
set_option maxRecDepth 100000
theorem StringS_info : (Try.prog.info? 9).map (fun i => (i.zero, i.size, i.bytes)) = some (some (.string ByteArray.empty), 1, 16) := by kernel_rfl
def svs (zs : List ByteArray) : List Value := zs.map Value.string
theorem svs_len (zs : List ByteArray) : (svs zs).length = zs.length := by simp [svs]
theorem svs_snoc (zs : List ByteArray) (x : ByteArray) : svs zs ++ [Value.string x] = svs (zs ++ [x]) := by simp [svs]
def lab (N : Int) (X : List (List Int)) (k : Nat) : ByteArray :=
  if (grd N X).contains (k : Int) then ⟨#[105, 110]⟩ else if (hit N X (grd N X)).contains (k : Int) then ⟨#[111, 117, 116]⟩ else ⟨#[111, 112, 101, 110]⟩
def labT (N : Int) (X : List (List Int)) (k : Nat) : List ByteArray := (List.range k).map (lab N X)
/-- The labels of a graph's claims. -/
def labs (N : Int) (X : List (List Int)) : List ByteArray := if gB N X then labT N X N.toNat else []
theorem labT_succ (N : Int) (X : List (List Int)) (k : Nat) : labT N X (k + 1) = labT N X k ++ [lab N X k] := by simp [labT, List.range_succ]
theorem labT_len (N : Int) (X : List (List Int)) (k : Nat) : (labT N X k).length = k := by simp [labT]
theorem grd_len (N : Int) (X : List (List Int)) : (grd N X).length ≤ 10 := it_len10 N X 10
/-- One element is appended: which block alone may turn, and which block the row then has. -/
theorem wpList_app2 {P : Program} {w : World} {ops : Array Oper} {rest : List Oper} {o : Oper} {a : Act} {Q : Exit → Act → World → Prop} (hgd : o.guard = none) (s x : Operand) (t : TypeId)
    (ho : o.op = .call { callee := .builtin .append, args := #[s, x], argTypes := #[t, t] })
    (e : TypeId) (i : TypeInfo) (z : Value) (bytes : Nat) (ht : P.underlying t = some (.slice e)) (hi : P.info? e = some i) (hz : i.zero = some z) (hsize : i.size = 1) (hby : i.bytes = bytes) (hzs : z.cells.size = 1)
    {lo hi' B m c : Nat} {v : Value} {xs news : List Value} {ad : Addr} (hs : a.eval s = v) (hx : a.eval x = .slice (some ad) m c) (hrow : Row w lo hi' e v xs) (hm : news.length = m) (hr : Rd w B (some ad) news) (h1 : ∀ u ∈ news, u.oneCell' = true)
    (h63 : xs.length + m ≤ maxLen) (hbytes : (xs.length + m) * bytes ≤ 140737488355328) (hlo : lo ≤ w.heap.size)
    (K : ∀ v' w', Row w' lo w'.heap.size e v' (xs ++ news) → w.heap.size ≤ w'.heap.size → Below lo w w' → (∀ b, b < w.heap.size → v.ownBlock ≠ some b → w'.heap[b]? = w.heap[b]?) → (∀ b, v'.ownBlock = some b → v.ownBlock = some b ∨ b = w.heap.size) → wpList P ops Q rest (a.put o.dst v') w') : wpList P ops Q (o :: rest) a w := by
  obtain ⟨v', w', hrun, h2, h3⟩ := run_app (P := P) t o.type e i z bytes ht hi hz hsize hby hzs (c := c) hrow hm hr h1 h63 hbytes hlo
  obtain ⟨v2, w2, hrun2, _, b2, _, b4⟩ := run_append_own_at (P := P) w lo t o.type e i z 1 bytes ht hi hz hsize hby hzs (by omega) v xs.length xs hrow.1 ad m c news (by omega) (fun j u hu => by
    obtain ⟨ad', e1, _, hc⟩ := hr j u hu
    injection e1 with e1
    subst e1
    exact hc) h1 h63 hbytes hlo
  rw [hrun] at hrun2
  injection hrun2 with e1 e2
  subst e1
  subst e2
  refine wpList_plain hgd fun K' hK' => ?_
  unfold Oper.wp
  simp [execOp, ho, resolve, invoke, builtin, hs, hx, hrun, Result.andThen]
  refine hK' _ _ (K v' w' h2 b2.size ?_ (fun b hb hv => b2.block b hb (fun e => hv e.symm)) (fun b hb => ?_))
  · exact (Below.refl lo w).grown b2 hlo (fun k hk => by
      rcases hrow.1.2 with ⟨rfl, _⟩ | ⟨g, cap, cur, rfl, hg, _⟩
      · simp [Value.ownBlock] at hk
      · have : g = k := by simpa [Value.ownBlock] using hk
        omega)
  · rcases b4 with b4 | b4
    · exact .inl (b4 ▸ hb)
    · rw [b4] at hb
      injection hb with hb
      exact .inr hb.symm
end Go.Proofs.Ytncndlojceiejaa
