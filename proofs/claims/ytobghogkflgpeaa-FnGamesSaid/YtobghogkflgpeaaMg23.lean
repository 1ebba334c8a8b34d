/- Contract of the model of Labels. No conditions but that the slices have at most 2^40 elements. -/
import Derived.Test.YtobghogkflgpeaaMg21
import Derived.Test.YtobghogkflgpeaaMg20
import Derived.Test.YtobghogkflgpeaaMg22
namespace Go.Proofs.Ytobghogkflgpeaa
open Go.ChangeShapes Go.WideShapes Go.ChangeAt Go.RowKit
set_option maxRecDepth 100000
theorem StringS_info : (Try.prog.info? 9).map (fun i => (i.zero, i.size, i.bytes)) = some (some (.string ByteArray.empty), 1, 16) := by kernel_rfl
def svs (zs : List ByteArray) : List Value := zs.map Value.string
theorem svs_len (zs : List ByteArray) : (svs zs).length = zs.length := by simp [svs]
theorem svs_snoc (zs : List ByteArray) (x : ByteArray) : svs zs ++ [Value.string x] = svs (zs ++ [x]) := by simp [svs]
def lab (N : Int) (X : List (List Int)) (k : Nat) : ByteArray :=
  if (grd N X).contains (k : Int) then ⟨#[105, 110]⟩ else if (hit N X (grd N X)).contains (k : Int) then ⟨#[111, 117, 116]⟩ else ⟨#[111, 112, 101, 110]⟩
def labT (N : Int) (X : List (List Int)) (k : Nat) : List ByteArray := (List.range k).map (lab N X)
/-- The labels of a graph's claims. -/
def labs (N : Int) (X : List (List Int)) : List ByteArray := if gB N X then labT N X N.toNat else []
theorem labT_succ (N : Int) (X : List (List Int)) (k : Nat) : labT N X (k + 1) = labT N X k ++ [lab N X k] := by simp [labT, List.range_succ]
theorem labT_len (N : Int) (X : List (List Int)) (k : Nat) : (labT N X k).length = k := by simp [labT]
theorem grd_len (N : Int) (X : List (List Int)) : (grd N X).length ≤ 10 := it_len10 N X 10
/-- One element is appended: which block alone may turn, and which block the row then has. -/
theorem wpList_app2 {P : Program} {w : World} {ops : Array Oper} {rest : List Oper} {o : Oper} {a : Act} {Q : Exit → Act → World → Prop} (hgd : o.guard = none) (s x : Operand) (t : TypeId)
    (ho : o.op = .call { callee := .builtin .append, args := #[s, x], argTypes := #[t, t] })
    (e : TypeId) (i : TypeInfo) (z : Value) (bytes : Nat) (ht : P.underlying t = some (.slice e)) (hi : P.info? e = some i) (hz : i.zero = some z) (hsize : i.size = 1) (hby : i.bytes = bytes) (hzs : z.cells.size = 1)
    {lo hi' B m c : Nat} {v : Value} {xs news : List Value} {ad : Addr} (hs : a.eval s = v) (hx : a.eval x = .slice (some ad) m c) (hrow : Row w lo hi' e v xs) (hm : news.length = m) (hr : Rd w B (some ad) news) (h1 : ∀ u ∈ news, u.oneCell' = true)
    (h63 : xs.length + m ≤ maxLen) (hbytes : (xs.length + m) * bytes ≤ 140737488355328) (hlo : lo ≤ w.heap.size)
    (K : ∀ v' w', Row w' lo w'.heap.size e v' (xs ++ news) → w.heap.size ≤ w'.heap.size → Below lo w w' → (∀ b, b < w.heap.size → v.ownBlock ≠ some b → w'.heap[b]? = w.heap[b]?) → (∀ b, v'.ownBlock = some b → v.ownBlock = some b ∨ b = w.heap.size) → wpList P ops Q rest (a.put o.dst v') w') : wpList P ops Q (o :: rest) a w := by
  obtain ⟨v', w', hrun, h2, h3⟩ := run_app (P := P) t o.type e i z bytes ht hi hz hsize hby hzs (c := c) hrow hm hr h1 h63 hbytes hlo
  obtain ⟨v2, w2, hrun2, _, b2, _, b4⟩ := run_append_own_at (P := P) w lo t o.type e i z 1 bytes ht hi hz hsize hby hzs (by omega) v xs.length xs hrow.1 ad m c news (by omega) (fun j u hu => by
    obtain ⟨ad', e1, _, hc⟩ := hr j u hu
    injection e1 with e1
    subst e1
    exact hc) h1 h63 hbytes hlo
  rw [hrun] at hrun2
  injection hrun2 with e1 e2
  subst e1
  subst e2
  refine wpList_plain hgd fun K' hK' => ?_
  unfold Oper.wp
  simp [execOp, ho, resolve, invoke, builtin, hs, hx, hrun, Result.andThen]
  refine hK' _ _ (K v' w' h2 b2.size ?_ (fun b hb hv => b2.block b hb (fun e => hv e.symm)) (fun b hb => ?_))
  · exact (Below.refl lo w).grown b2 hlo (fun k hk => by
      rcases hrow.1.2 with ⟨rfl, _⟩ | ⟨g, cap, cur, rfl, hg, _⟩
      · simp [Value.ownBlock] at hk
      · have : g = k := by simpa [Value.ownBlock] using hk
        omega)
  · rcases b4 with b4 | b4
    · exact .inl (b4 ▸ hb)
    · rw [b4] at hb
      injection hb with hb
      exact .inr hb.symm
end Go.Proofs.Ytobghogkflgpeaa

/- Contract of the model of OpenClaims. No conditions but that the slices have at most 2^40 elements. -/
namespace Go.Proofs.Ytobghogkflgpeaa
open Go.ChangeShapes Go.WideShapes Go.ChangeAt Go.RowKit
set_option maxRecDepth 100000
def openP (N : Int) (X : List (List Int)) (k : Nat) : Bool := !((grd N X).contains (k : Int)) && !((hit N X (grd N X)).contains (k : Int))
def opnT (N : Int) (X : List (List Int)) (k : Nat) : List Int := ((List.range k).filter (openP N X)).map fun (j : Nat) => (j : Int)
/-- The claims whose label is open. -/
def opns (N : Int) (X : List (List Int)) : List Int := opnT N X (labs N X).length
theorem opnT_yes {N : Int} {X : List (List Int)} {k : Nat} (h : openP N X k = true) : opnT N X (k + 1) = opnT N X k ++ [(k : Int)] := by simp [opnT, List.range_succ, h]
theorem opnT_no {N : Int} {X : List (List Int)} {k : Nat} (h : openP N X k = false) : opnT N X (k + 1) = opnT N X k := by simp [opnT, List.range_succ, h]
theorem opnT_len (N : Int) (X : List (List Int)) (k : Nat) : (opnT N X k).length ≤ k := by
  unfold opnT
  rw [List.length_map]
  exact Nat.le_trans (List.length_filter_le _ _) (by simp)
theorem labs_len (N : Int) (X : List (List Int)) : (labs N X).length ≤ 10 := by
  unfold labs
  split
  · rename_i h
    obtain ⟨m, rfl, hm, _, _⟩ := gB_ok h
    rw [labT_len]
    omega
  · simp
theorem labs_at (N : Int) (X : List (List Int)) {k : Nat} (h : k < (labs N X).length) : (labs N X)[k] = lab N X k := by
  unfold labs at h ⊢
  split
  · simp [labT]
  · rename_i hg
    rw [if_neg hg] at h
    simp at h
theorem lab_eq (N : Int) (X : List (List Int)) (k : Nat) : ((lab N X k).toList == (⟨#[111, 112, 101, 110]⟩ : ByteArray).toList) = openP N X k := by
  unfold lab openP
  have e1 : ((⟨#[105, 110]⟩ : ByteArray).toList == (⟨#[111, 112, 101, 110]⟩ : ByteArray).toList) = false := by rw [ByteArray.toList_eq, ByteArray.toList_eq]; rfl
  have e2 : ((⟨#[111, 117, 116]⟩ : ByteArray).toList == (⟨#[111, 112, 101, 110]⟩ : ByteArray).toList) = false := by rw [ByteArray.toList_eq, ByteArray.toList_eq]; rfl
  have e3 : ((⟨#[111, 112, 101, 110]⟩ : ByteArray).toList == (⟨#[111, 112, 101, 110]⟩ : ByteArray).toList) = true := by rw [ByteArray.toList_eq]; rfl
  cases (grd N X).contains (k : Int)
  · cases (hit N X (grd N X)).contains (k : Int)
    · exact e3
    · exact e2
  · exact e1
theorem svs_at {w : World} {B : Nat} {A : Option Addr} {zs : List ByteArray} (h : Rd w B A (svs zs)) {k : Nat} (hk : k < zs.length) : ∃ ad, A = some ad ∧ ad.block < B ∧ w.cell? (ad.add k) = some (.string zs[k]) := by
  obtain ⟨ad, e, hb, hc⟩ := h.at_ (k := k) (by rw [svs_len]; exact hk)
  exact ⟨ad, e, hb, by rw [hc]; simp [svs]⟩
end Go.Proofs.Ytobghogkflgpeaa

/- What the law of chapter 6 says of the sums: without code. -/
namespace Go.Proofs.Ytobghogkflgpeaa
section
variable {N : Int} {X : List (List Int)} (hg : gB N X = true)
include hg
theorem it_adm (k : Nat) : admB N X (itS N X k) = true := by
  induction k with
  | zero =>
    obtain ⟨n, rfl, _, hp, _⟩ := gB_ok hg
    exact adm_iff.2 ⟨free_iff.2 ⟨it_set hg hp 0, fun z hz => by cases hz⟩, fun z hz => by cases hz⟩
  | succ k ih => exact adm_step ih
theorem it_end : itS N X 11 = itS N X 10 := by
  obtain ⟨n, rfl, hn, hp, _⟩ := gB_ok hg
  by_cases h : ∀ j, j < 11 → itS n X (j + 1) ≠ itS n X j
  · have h1 := it_many hg hp 11 h
    have h2 := it_len (n := n) (X := X) 11
    omega
  · simp only [Classical.not_forall] at h
    obtain ⟨j, hj, h⟩ := h
    have h := Classical.not_not.1 h
    have h1 := it_stay h (10 - j)
    have h2 := it_stay h (11 - j)
    rw [show j + (10 - j) = 10 by omega] at h1
    rw [show j + (11 - j) = 11 by omega] at h2
    rw [h1, h2]
theorem grd_fix : defL N X (grd N X) = grd N X := it_end hg
theorem grd_comp : compB N X (grd N X) = true := by
  unfold compB
  rw [Bool.and_eq_true, decide_eq_true_iff]
  exact ⟨adm_free (it_adm hg 10), grd_fix hg⟩
theorem it_sub (k j : Nat) : ∀ z ∈ itS N X k, z ∈ itS N X (k + j) := by
  obtain ⟨n, rfl, _, hp, _⟩ := gB_ok hg
  induction j with
  | zero => exact fun z hz => hz
  | succ j ih => exact fun z hz => it_mono hg hp (k + j) z (ih z hz)
theorem it_in_grd (k : Nat) (hk : k ≤ 11) : ∀ z ∈ itS N X k, z ∈ grd N X := fun z hz => by
  have h := it_sub hg k (11 - k) z hz
  rw [show k + (11 - k) = 11 by omega, it_end hg] at h
  exact h
/-- After as many steps as there are claims nothing is added. -/
theorem grd_n {n : Nat} (e : N = n) : itS N X n = grd N X := by
  subst e
  obtain ⟨m, e, hn, hp, _⟩ := gB_ok hg
  obtain rfl : n = m := by omega
  by_cases h : ∀ j, j < n + 1 → itS n X (j + 1) ≠ itS n X j
  · have h1 := it_many hg hp (n + 1) h
    have h2 := it_len (n := n) (X := X) (n + 1)
    omega
  · simp only [Classical.not_forall] at h
    obtain ⟨j, hj, h⟩ := h
    have h := Classical.not_not.1 h
    have h1 := it_stay h (10 - j)
    have h2 := it_stay h (n - j)
    rw [show j + (10 - j) = 10 by omega] at h1
    rw [show j + (n - j) = n by omega] at h2
    unfold grd
    rw [h1, h2]
theorem rnd_pos (c : Int) : decide (0 < rnd N X c) = (grd N X).contains c := by
  obtain ⟨n, rfl, hn, hp, _⟩ := gB_ok hg
  unfold rnd
  rw [if_pos hg, Int.toNat_natCast]
  by_cases h : ∀ y, (itS n X (y + 1)).contains c = false
  · rw [rndT_miss h]
    have := h 9
    unfold grd
    rw [this]
    rfl
  · simp only [Classical.not_forall] at h
    obtain ⟨y, hy⟩ := h
    have hy : (itS n X (y + 1)).contains c = true := by simpa using hy
    obtain ⟨x, hx, hno⟩ : ∃ x, (itS n X (x + 1)).contains c = true ∧ ∀ y, y < x → (itS n X (y + 1)).contains c = false := by
      induction y using Nat.strongRecOn with
      | _ y ih =>
        by_cases hh : ∃ z, z < y ∧ (itS n X (z + 1)).contains c = true
        · obtain ⟨z, hz, hzc⟩ := hh
          exact ih z hz (by rw [hzc]; exact fun e => Bool.noConfusion e) hzc
        · exact ⟨y, hy, fun z hz => by simpa using fun e => hh ⟨z, hz, e⟩⟩
    have hxn : x < n := by
      refine Nat.lt_of_not_le fun hle => ?_
      have h1 := grd_n hg (n := n) rfl
      have h2 : itS n X (x + 1) = itS n X n := by
        have : itS n X (n + 1) = itS n X n := by show defL n X (itS n X n) = _; rw [h1]; exact grd_fix hg
        have h3 := it_stay this (x + 1 - n)
        rw [show n + (x + 1 - n) = x + 1 by omega] at h3
        exact h3
      cases n with
      | zero => rw [h2] at hx; simp [itS] at hx
      | succ m =>
        have := hno m (by omega)
        rw [h2] at hx
        rw [hx] at this
        cases this
    rw [rndT_hit hx hno n 0 (by omega) (by omega)]
    have h3 : (grd n X).contains c = true := List.contains_iff_mem.2 (it_in_grd hg (x + 1) (by omega) c (List.contains_iff_mem.1 hx))
    rw [h3, decide_eq_true_iff]
    omega
theorem rnd_one {n : Nat} (k : Nat) (e : N = n) (hk : k < n) : decide (rnd N X k = 1) = decide ((atk N X k).length = 0) := by
  subst e
  obtain ⟨m, e, hn, hp, _⟩ := gB_ok hg
  obtain rfl : n = m := by omega
  have h1 : (k : Int) ∈ itS n X 1 ↔ (atk n X k).length = 0 := by
    show (k : Int) ∈ defL n X [] ↔ _
    rw [defL_mem hg hp, defB_iff hg hp, List.length_eq_zero_iff]
    constructor
    · rintro ⟨_, _, h⟩
      rw [List.eq_nil_iff_forall_not_mem]
      intro z hz
      obtain ⟨c, hc, _⟩ := (hit_mem hg hp z).1 (h z ((atk_mem hg hp k z).1 hz))
      cases hc
    · intro h
      refine ⟨it_set hg hp 0, ⟨by omega, by omega⟩, fun z hz => ?_⟩
      have := (atk_mem hg hp k z).2 hz
      rw [h] at this
      cases this
  rw [Bool.eq_iff_iff, decide_eq_true_iff, decide_eq_true_iff, ← h1]
  unfold rnd
  rw [if_pos hg, Int.toNat_natCast]
  obtain ⟨f, rfl⟩ : ∃ f, n = f + 1 := ⟨n - 1, by omega⟩
  unfold rndT
  by_cases hc : (itS ((f + 1 : Nat) : Int) X (0 + 1)).contains (k : Int) = true
  · rw [if_pos hc]
    exact ⟨fun _ => List.contains_iff_mem.1 hc, fun _ => rfl⟩
  · rw [if_neg hc]
    constructor
    · intro h
      exfalso
      have key : ∀ fu j, rndT ((f + 1 : Nat) : Int) X k fu (j + 1) ≠ 1 := by
        intro fu
        induction fu with
        | zero => intro j; simp [rndT]
        | succ fu ih =>
          intro j
          unfold rndT
          split
          · omega
          · exact ih (j + 1)
      exact key f 0 h
    · intro h
      exact absurd (List.contains_iff_mem.2 h) hc
theorem grd_least {S : List Int} (h : compB N X S = true) : ((grd N X).all fun z => S.contains z) = true := by
  obtain ⟨n, rfl, hn, hp, _⟩ := gB_ok hg
  unfold compB at h
  rw [Bool.and_eq_true, decide_eq_true_iff] at h
  obtain ⟨hf, he⟩ := h
  have key : ∀ k, ∀ z ∈ itS n X k, z ∈ S := by
    intro k
    induction k with
    | zero => intro z hz; cases hz
    | succ k ih => intro z hz; rw [← he]; exact defL_mono hg hp ih (free_set hf) z hz
  exact all_within (key 10)
theorem grd_out {c : Int} (h : (grd N X).contains c = true) : (hit N X (grd N X)).contains c = false := by
  obtain ⟨n, rfl, hn, hp, _⟩ := gB_ok hg
  obtain ⟨_, hq⟩ := free_iff.1 (adm_free (it_adm hg 10))
  have := hq c (List.contains_iff_mem.1 h)
  cases hh : (hit n X (grd n X)).contains c with
  | false => rfl
  | true => exact absurd (List.contains_iff_mem.1 hh) this
theorem opn_contains {n : Nat} (k : Nat) (e : N = n) (hk : k < n) : (opns N X).contains (k : Int) = openP N X k := by
  unfold opns labs opnT
  rw [if_pos hg, labT_len, e, Int.toNat_natCast, Bool.eq_iff_iff, List.contains_iff_mem, List.mem_map]
  constructor
  · rintro ⟨j, hj, e⟩
    obtain rfl : j = k := by omega
    exact (List.mem_filter.1 hj).2
  · intro h
    exact ⟨k, List.mem_filter.2 ⟨List.mem_range.2 hk, h⟩, rfl⟩
theorem labs_n {n : Nat} (e : N = n) : (labs N X).length = n := by
  unfold labs
  rw [if_pos hg, labT_len, e, Int.toNat_natCast]
end
theorem toList_in {a b : Array UInt8} (h : (a.toList == b.toList) = false) : ((⟨a⟩ : ByteArray).toList == (⟨b⟩ : ByteArray).toList) = false := by
  rw [ByteArray.toList_eq, ByteArray.toList_eq]; exact h
theorem lab_in (N : Int) (X : List (List Int)) (k : Nat) : ((lab N X k).toList == (⟨#[105, 110]⟩ : ByteArray).toList) = (grd N X).contains (k : Int) := by
  unfold lab
  cases (grd N X).contains (k : Int)
  · cases (hit N X (grd N X)).contains (k : Int)
    · exact toList_in rfl
    · exact toList_in rfl
  · exact beq_self_eq_true _
theorem lab_out {N : Int} {X : List (List Int)} (hg : gB N X = true) (k : Nat) : ((lab N X k).toList == (⟨#[111, 117, 116]⟩ : ByteArray).toList) = (hit N X (grd N X)).contains (k : Int) := by
  unfold lab
  cases h : (grd N X).contains (k : Int)
  · cases (hit N X (grd N X)).contains (k : Int)
    · exact toList_in rfl
    · exact beq_self_eq_true _
  · rw [grd_out hg h]
    exact toList_in rfl
end Go.Proofs.Ytobghogkflgpeaa
