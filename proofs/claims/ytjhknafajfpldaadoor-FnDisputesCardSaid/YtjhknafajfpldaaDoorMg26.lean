/- Contracts of the code's Grounded and RoundOf. No conditions but that the slices have at most 2^40 elements. -/
import Derived.Test.YtjhknafajfpldaaDoorMg25
import Derived.Test.YtjhknafajfpldaaDoorMg23
namespace Go.Proofs.YtjhknafajfpldaaDoor
open Go.ChangeShapes Go.WideShapes Go.ChangeAt Go.RowKit Go.Shelf
attribute [local go_sem] Oper.semAt_some
set_option maxRecDepth 100000
theorem stop_it {N : Int} {X : List (List Int)} {K : Nat} (hK : itB (rn N X) (rf N X) (K + 1) = itB (rn N X) (rf N X) K) (hgrow : ∀ j, j < K → itB (rn N X) (rf N X) (j + 1) ≠ itB (rn N X) (rf N X) j) : itS N X K = grd N X :=
  it_fix' (fun j hj e => hgrow j hj ((itB_eq N X _ _).2 e)) ((itB_eq N X _ _).1 hK)
/-- 'has' of what stands after k rounds. -/
theorem has_it (N : Int) (X : List (List Int)) (c : Int) (k : Nat) : (inr c 0 9 && (itB (rn N X) (rf N X) k).testBit c.toNat) = (itS N X k).contains c := by
  rw [itB_code, bS_bit]
  by_cases h : inr c 0 9 = true
  · have h' : 0 ≤ c ∧ c ≤ 9 := by simpa [inr] using h
    obtain ⟨j, rfl⟩ := Int.eq_ofNat_of_zero_le h'.1
    have : j < 10 := by omega
    rw [h, Int.toNat_natCast, decide_eq_true this]
    simp
  · rw [show inr c 0 9 = false by simpa using h, Bool.false_and]
    symm
    rw [← Bool.not_eq_true]
    intro hc
    have hm : c ∈ itS N X k := by simpa using hc
    by_cases hg : gB N X = true
    · have h0 := hg
      obtain ⟨n, rfl, hn, hp, _⟩ := gB_ok hg
      obtain ⟨p, rfl, hlt⟩ := set_lt h0 (it_set h0 hp k) hm
      exact h (inr_t (by omega) (by omega))
    · rw [it_none (by simpa using hg)] at hm
      cases hm
theorem rndT_hit {N : Int} {X : List (List Int)} {c : Int} {x : Nat} (hx : (itS N X (x + 1)).contains c = true) (hno : ∀ y, y < x → (itS N X (y + 1)).contains c = false) : ∀ fu k, k ≤ x → x < k + fu → rndT N X c fu k = ((x + 1 : Nat) : Int)
  | 0, k, h1, h2 => absurd h2 (by omega)
  | fu + 1, k, h1, h2 => by
    unfold rndT
    by_cases e : k = x
    · subst e
      rw [hx]; rfl
    · rw [hno k (by omega)]
      exact rndT_hit hx hno fu (k + 1) (by omega) (by omega)
theorem rndT_miss {N : Int} {X : List (List Int)} {c : Int} (hno : ∀ y, (itS N X (y + 1)).contains c = false) : ∀ fu k, rndT N X c fu k = -1
  | 0, k => rfl
  | fu + 1, k => by
    unfold rndT
    rw [hno k]
    exact rndT_miss hno fu (k + 1)
section
variable {N : Int} {X : List (List Int)} {c : Int} {K : Nat} (hK : itB (rn N X) (rf N X) (K + 1) = itB (rn N X) (rf N X) K) (hgrow : ∀ j, j < K → itB (rn N X) (rf N X) (j + 1) ≠ itB (rn N X) (rf N X) j)
include hK hgrow
theorem rnd_hit {x : Nat} (hxK : x < K) (hx : (inr c 0 9 && (itB (rn N X) (rf N X) (x + 1)).testBit c.toNat) = true) (hno : ∀ y, y < x → (inr c 0 9 && (itB (rn N X) (rf N X) (y + 1)).testBit c.toNat) = false) : rnd N X c = (x : Int) + 1 := by
  rw [has_it] at hx
  have hno' : ∀ y, y < x → (itS N X (y + 1)).contains c = false := fun y hy => by rw [← has_it]; exact hno y hy
  unfold rnd
  by_cases hg : gB N X = true
  · rw [if_pos hg]
    obtain ⟨n, rfl, hn, hp, _⟩ := gB_ok hg
    have h1 := itS_many n X K (fun j hj e => hgrow j hj ((itB_eq n X _ _).2 e))
    have h2 := it_len (n := n) (X := X) K
    rw [rndT_hit hx hno' _ 0 (by omega) (by rw [Int.toNat_natCast]; omega)]
    push_cast
    rfl
  · rw [it_none (by simpa using hg)] at hx
    simp at hx
omit hgrow in
theorem rnd_miss (hno : ∀ y, y < K → (inr c 0 9 && (itB (rn N X) (rf N X) (y + 1)).testBit c.toNat) = false) : rnd N X c = -1 := by
  unfold rnd
  split
  · refine rndT_miss (fun y => ?_) _ _
    rw [← has_it]
    by_cases h : y < K
    · exact hno y h
    · have hst : itB (rn N X) (rf N X) (y + 1) = itB (rn N X) (rf N X) K := by
        rw [itB_eq]
        have := it_stay ((itB_eq N X _ _).1 hK) (y + 1 - K)
        rw [show K + (y + 1 - K) = y + 1 by omega] at this
        exact this
      rw [hst]
      cases K with
      | zero => simp [itB]
      | succ K => exact hno K (by omega)
  · rfl
end
set_option maxHeartbeats 2000000 in
theorem impGrounded_any {w : World} {A : Option Addr} {n c : Nat} {N : Int} {X : List (List Int)} (hl : Hid (X.length = n)) (hn : n ≤ 1099511627776) (hr : RdSS w w.heap.size A X) :
    Calls Tryd.prog 14 #[.agg #[.int .i64 N, .slice A n c]] w (Fresh 3 (ivs (grd N X)) w) := by
  have hb1 : Below w.heap.size w (w.alloc (Obj.cells #[Value.int IntKind.i64 N, Value.slice A n c] 26)) := (Below.refl _ _).alloc (Nat.le_refl _) _
  have HR := Lib.hid hr
  clear hr
  go_enter Tryd.func14, Tryd.ntmps14
  go_wp2_with fail
  obtain ⟨W1, hW⟩ : ∃ u : World, u = w.alloc (Obj.cells #[Value.int IntKind.i64 N, Value.slice A n c] 26) := ⟨_, rfl⟩
  rw [← hW] at hb1 ⊢
  clear hW
  refine (rowsOf_any hl hn ((HR.out.below hb1).more hb1.size)).mono ?_
  rintro e w2 ⟨rfl, hb2⟩
  have hb3 := hb1.trans (hb2.mono hb1.size)
  obtain ⟨K, hK10, hK, hgrow⟩ := stop_ex N X
  have HQ := Lib.hid (show lsT (itB (rn N X) (rf N X) K) 10 = grd N X by rw [lsT_itB]; exact stop_it hK hgrow)
  obtain ⟨r0, r1⟩ := rn_le N X
  have hfl := rf_lt N X
  generalize rf N X = f at hfl HQ hK hgrow ⊢
  generalize rn N X = m at r0 r1 HQ hK hgrow ⊢
  go_wp2_with fail
  refine (grounded_any r0 r1 hfl hK10 hK hgrow).mono ?_
  rintro e w3 ⟨rfl, hb4⟩
  have hb5 := hb3.trans (hb4.mono hb3.size)
  have hx := Nat.lt_trans (itB_lt r1 f K) (show 1024 < 65536 by decide)
  go_wp2_with fail
  refine (list_any hx).mono ?_
  rintro e w4 ⟨v, rfl, hrow, hb6⟩
  go_wp2_with fail
  go_ret
  exact ⟨v, rfl, by rw [← HQ.out]; exact hrow.wide hb5.size (Nat.le_refl _), hb5.trans (hb6.mono hb5.size)⟩
end Go.Proofs.YtjhknafajfpldaaDoor

/- Contract of the model of Labels. No conditions but that the slices have at most 2^40 elements. -/
namespace Go.Proofs.YtjhknafajfpldaaDoor
open Go.ChangeShapes Go.WideShapes Go.ChangeAt Go.RowKit
set_option maxRecDepth 100000
theorem StringS_info : (Tryd.prog.info? 9).map (fun i => (i.zero, i.size, i.bytes)) = some (some (.string ByteArray.empty), 1, 16) := by kernel_rfl
def svs (zs : List ByteArray) : List Value := zs.map Value.string
theorem svs_len (zs : List ByteArray) : (svs zs).length = zs.length := by simp [svs]
theorem svs_snoc (zs : List ByteArray) (x : ByteArray) : svs zs ++ [Value.string x] = svs (zs ++ [x]) := by simp [svs]
def lab (N : Int) (X : List (List Int)) (k : Nat) : ByteArray :=
  if (grd N X).contains (k : Int) then ⟨#[105, 110]⟩ else if (hit N X (grd N X)).contains (k : Int) then ⟨#[111, 117, 116]⟩ else ⟨#[111, 112, 101, 110]⟩
def labT (N : Int) (X : List (List Int)) (k : Nat) : List ByteArray := (List.range k).map (lab N X)
/-- The labels of a graph's claims. -/
def labs (N : Int) (X : List (List Int)) : List ByteArray := if gB N X then labT N X N.toNat else []
theorem labT_succ (N : Int) (X : List (List Int)) (k : Nat) : labT N X (k + 1) = labT N X k ++ [lab N X k] := by simp [labT, List.range_succ]
theorem labT_len (N : Int) (X : List (List Int)) (k : Nat) : (labT N X k).length = k := by simp [labT]
theorem grd_len (N : Int) (X : List (List Int)) : (grd N X).length ≤ 10 := it_len10 N X 10
/-- One element is appended: which block alone may turn, and which block the row then has. -/
theorem wpList_app2 {P : Program} {w : World} {ops : Array Oper} {rest : List Oper} {o : Oper} {a : Act} {Q : Exit → Act → World → Prop} (hgd : o.guard = none) (s x : Operand) (t : TypeId)
    (ho : o.op = .call { callee := .builtin .append, args := #[s, x], argTypes := #[t, t] })
    (e : TypeId) (i : TypeInfo) (z : Value) (bytes : Nat) (ht : P.underlying t = some (.slice e)) (hi : P.info? e = some i) (hz : i.zero = some z) (hsize : i.size = 1) (hby : i.bytes = bytes) (hzs : z.cells.size = 1)
    {lo hi' B m c : Nat} {v : Value} {xs news : List Value} {ad : Addr} (hs : a.eval s = v) (hx : a.eval x = .slice (some ad) m c) (hrow : Row w lo hi' e v xs) (hm : news.length = m) (hr : Rd w B (some ad) news) (h1 : ∀ u ∈ news, u.oneCell' = true)
    (h63 : xs.length + m ≤ maxLen) (hbytes : (xs.length + m) * bytes ≤ 140737488355328) (hlo : lo ≤ w.heap.size)
    (K : ∀ v' w', Row w' lo w'.heap.size e v' (xs ++ news) → w.heap.size ≤ w'.heap.size → Below lo w w' → (∀ b, b < w.heap.size → v.ownBlock ≠ some b → w'.heap[b]? = w.heap[b]?) → (∀ b, v'.ownBlock = some b → v.ownBlock = some b ∨ b = w.heap.size) → wpList P ops Q rest (a.put o.dst v') w') : wpList P ops Q (o :: rest) a w := by
  obtain ⟨v', w', hrun, h2, h3⟩ := run_app (P := P) t o.type e i z bytes ht hi hz hsize hby hzs (c := c) hrow hm hr h1 h63 hbytes hlo
  obtain ⟨v2, w2, hrun2, _, b2, _, b4⟩ := run_append_own_at (P := P) w lo t o.type e i z 1 bytes ht hi hz hsize hby hzs (by omega) v xs.length xs hrow.1 ad m c news (by omega) (fun j u hu => by
    obtain ⟨ad', e1, _, hc⟩ := hr j u hu
    injection e1 with e1
    subst e1
    exact hc) h1 h63 hbytes hlo
  rw [hrun] at hrun2
  injection hrun2 with e1 e2
  subst e1
  subst e2
  refine wpList_plain hgd fun K' hK' => ?_
  unfold Oper.wp
  simp [execOp, ho, resolve, invoke, builtin, hs, hx, hrun, Result.andThen]
  refine hK' _ _ (K v' w' h2 b2.size ?_ (fun b hb hv => b2.block b hb (fun e => hv e.symm)) (fun b hb => ?_))
  · exact (Below.refl lo w).grown b2 hlo (fun k hk => by
      rcases hrow.1.2 with ⟨rfl, _⟩ | ⟨g, cap, cur, rfl, hg, _⟩
      · simp [Value.ownBlock] at hk
      · have : g = k := by simpa [Value.ownBlock] using hk
        omega)
  · rcases b4 with b4 | b4
    · exact .inl (b4 ▸ hb)
    · rw [b4] at hb
      injection hb with hb
      exact .inr hb.symm
end Go.Proofs.YtjhknafajfpldaaDoor

/- Contract of the model of OpenClaims. No conditions but that the slices have at most 2^40 elements. -/
namespace Go.Proofs.YtjhknafajfpldaaDoor
open Go.ChangeShapes Go.WideShapes Go.ChangeAt Go.RowKit
set_option maxRecDepth 100000
def openP (N : Int) (X : List (List Int)) (k : Nat) : Bool := !((grd N X).contains (k : Int)) && !((hit N X (grd N X)).contains (k : Int))
def opnT (N : Int) (X : List (List Int)) (k : Nat) : List Int := ((List.range k).filter (openP N X)).map fun (j : Nat) => (j : Int)
/-- The claims whose label is open. -/
def opns (N : Int) (X : List (List Int)) : List Int := opnT N X (labs N X).length
theorem opnT_yes {N : Int} {X : List (List Int)} {k : Nat} (h : openP N X k = true) : opnT N X (k + 1) = opnT N X k ++ [(k : Int)] := by simp [opnT, List.range_succ, h]
theorem opnT_no {N : Int} {X : List (List Int)} {k : Nat} (h : openP N X k = false) : opnT N X (k + 1) = opnT N X k := by simp [opnT, List.range_succ, h]
theorem opnT_len (N : Int) (X : List (List Int)) (k : Nat) : (opnT N X k).length ≤ k := by
  unfold opnT
  rw [List.length_map]
  exact Nat.le_trans (List.length_filter_le _ _) (by simp)
theorem labs_len (N : Int) (X : List (List Int)) : (labs N X).length ≤ 10 := by
  unfold labs
  split
  · rename_i h
    obtain ⟨m, rfl, hm, _, _⟩ := gB_ok h
    rw [labT_len]
    omega
  · simp
theorem labs_at (N : Int) (X : List (List Int)) {k : Nat} (h : k < (labs N X).length) : (labs N X)[k] = lab N X k := by
  unfold labs at h ⊢
  split
  · simp [labT]
  · rename_i hg
    rw [if_neg hg] at h
    simp at h
theorem lab_eq (N : Int) (X : List (List Int)) (k : Nat) : ((lab N X k).toList == (⟨#[111, 112, 101, 110]⟩ : ByteArray).toList) = openP N X k := by
  unfold lab openP
  have e1 : ((⟨#[105, 110]⟩ : ByteArray).toList == (⟨#[111, 112, 101, 110]⟩ : ByteArray).toList) = false := by rw [ByteArray.toList_eq, ByteArray.toList_eq]; rfl
  have e2 : ((⟨#[111, 117, 116]⟩ : ByteArray).toList == (⟨#[111, 112, 101, 110]⟩ : ByteArray).toList) = false := by rw [ByteArray.toList_eq, ByteArray.toList_eq]; rfl
  have e3 : ((⟨#[111, 112, 101, 110]⟩ : ByteArray).toList == (⟨#[111, 112, 101, 110]⟩ : ByteArray).toList) = true := by rw [ByteArray.toList_eq]; rfl
  cases (grd N X).contains (k : Int)
  · cases (hit N X (grd N X)).contains (k : Int)
    · exact e3
    · exact e2
  · exact e1
theorem svs_at {w : World} {B : Nat} {A : Option Addr} {zs : List ByteArray} (h : Rd w B A (svs zs)) {k : Nat} (hk : k < zs.length) : ∃ ad, A = some ad ∧ ad.block < B ∧ w.cell? (ad.add k) = some (.string zs[k]) := by
  obtain ⟨ad, e, hb, hc⟩ := h.at_ (k := k) (by rw [svs_len]; exact hk)
  exact ⟨ad, e, hb, by rw [hc]; simp [svs]⟩
end Go.Proofs.YtjhknafajfpldaaDoor
