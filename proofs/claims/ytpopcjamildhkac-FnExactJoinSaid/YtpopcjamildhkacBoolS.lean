/- Contracts of the laws' own helpers over []bool: toBoolS copies, eqBoolS compares. For every slice of at most 2^44 - 512 elements; no other condition. -/
import Derived.Test.YtpopcjamildhkacRows
import Derived.WalkKit
import Derived.ProofKit
import Derived.OpenShut
import Derived.LoopN
import Derived.Handy
import Derived.LoopTactic
import Derived.Lib.Hide
import Derived.IntWalk
import Derived.BigQuiet
import Derived.Deep.QuietTactic
import Derived.Outline
import Derived.Test.YtpopcjamildhkacIntS
import Derived.Deep.Grids
namespace Go.Proofs.Ytpopcjamildhkac
open Go.ChangeShapes Go.WideShapes Go.ChangeAt Go.RowKit
theorem BoolS_info : (Try.prog.info? 4).map (fun i => (i.zero, i.size, i.bytes)) = some (some (.bool false), 1, 1) := by kernel_rfl
def bls (zs : List Bool) : List Value := zs.map Value.bool
theorem bls_len (zs : List Bool) : (bls zs).length = zs.length := by simp [bls]
theorem bls_get (zs : List Bool) (k : Nat) (h : k < zs.length) : (bls zs)[k]? = some (.bool zs[k]) := by simp [bls, h]
theorem bls_at {w : World} {B : Nat} {A : Option Addr} {zs : List Bool} (h : Rd w B A (bls zs)) {k : Nat} (hk : k < zs.length) :
    ∃ ad, A = some ad ∧ ad.block < B ∧ w.cell? (ad.add k) = some (.bool zs[k]) := h k _ (bls_get zs k hk)
set_option maxHeartbeats 800000 in
theorem toBoolS_any {w : World} {A : Option Addr} {n c : Nat} {zs : List Bool} (hl : Hid (zs.length = n)) (hn : n ≤ 17592186043904) (hr : Rd w w.heap.size A (bls zs)) :
    Calls Try.prog 14 #[.slice A n c] w (Fresh 4 (bls zs) w) := by
  obtain ⟨i0, hi, hz0, hz1, hz2⟩ := info_parts BoolS_info
  go_enter Try.func14, Try.ntmps14
  go_wp2_with (first | (at_make; refine wpList_make_full _ rfl _ _ 26 rfl w.heap.size 4 i0 _ 1 Try.underlying26 hi hz0 hz1 _ _ _ _ n rfl rfl rfl rfl (by rw [hz2]; omega) (by unfold maxLen; omega) (Nat.le_refl _) ?_; intro w1 hown1 hg1))
  have hb1 : Below w.heap.size w w1 := (Below.refl _ _).grown hg1 (Nat.le_refl _) (by simp)
  have hsz := hown1.lt w.heap.size rfl
  have HO := Lib.hid hown1
  clear hown1
  go_loopw [4] (fun i wr => ∃ k : Nat, k ≤ n ∧ i = .int .i64 k ∧ Below w.heap.size w wr ∧ wr.ownsRow w.heap.size 4 1 (.slice (some ⟨w.heap.size, 0, none⟩) n n) n ((bls zs).take k ++ (madeCells (Value.bool false).cells (n * 1)).toList.drop k)) (fun i _ => n - (intOf i).toNat)
  case atStart => exact ⟨0, Nat.zero_le _, rfl, hb1, by simpa using HO.out⟩
  case round =>
    obtain ⟨k, hk, rfl, hb, hown⟩ := hrel
    by_cases hlt : k < n
    · have hkz : k < zs.length := by rw [hl.out]; exact hlt
      obtain ⟨ad, rfl, hab, hc⟩ := bls_at (hr.below hb) hkz
      have hlm : (madeCells (Value.bool false).cells (n * 1)).toList.length = (bls zs).length := by rw [bls_len, hl.out]; simp [madeCells, Value.cells]
      have hm := set_mix (bls zs) _ k (.bool zs[k]) (by rw [bls_len]; exact hkz) hlm (bls_get zs k hkz)
      obtain ⟨hst, hgs⟩ := hown.stored k (.bool zs[k])
      rw [hm] at hst
      have hcA := hown.cellAt k (by omega)
      obtain ⟨u0, hu0⟩ : ∃ u0, ((bls zs).take k ++ (madeCells (Value.bool false).cells (n * 1)).toList.drop k)[k]? = some u0 := by
        have : k < ((bls zs).take k ++ (madeCells (Value.bool false).cells (n * 1)).toList.drop k).length := by have := hown.1; omega
        exact ⟨_, List.getElem?_eq_getElem this⟩
      rw [hu0] at hcA
      have hfA := hown.frozenAt k
      have H1 := Lib.hid hst
      have H2 := Lib.hid hm
      have H3 := Lib.hid hu0
      have H4 := Lib.hid hb
      have H5 := Lib.hid hlm
      clear hst hm hu0 hb hlm hown HO
      go_wp2
      go_roundw
      case rel => exact ⟨k + 1, by omega, by go_num, H4.out.setCell (Nat.le_refl _) _, H1.out⟩
      case measure => simp [intOf]; omega
    · have e : k = n := by omega
      subst e
      have H4 := Lib.hid hb
      have H5 := Lib.hid hown
      clear hown hb
      go_wp2
      go_ret
      have ho := H5.out
      have hll : (bls zs).length = k := by rw [bls_len, hl.out]
      rw [List.take_of_length_le (by omega), List.drop_eq_nil_of_le (by simp [madeCells, Value.cells]), List.append_nil] at ho
      exact ⟨.slice (some ⟨w.heap.size, 0, none⟩) k k, rfl, Row.of_own ho, H4.out⟩
set_option maxHeartbeats 800000 in
theorem eqBoolS_q {w : World} {A A' : Option Addr} {n c n' c' : Nat} {zs ys : List Bool} (hl : Hid (zs.length = n)) (hl' : Hid (ys.length = n')) (hn : n ≤ 17592186043904) (hn' : n' ≤ 17592186043904)
    (hr : Rd w w.heap.size A (bls zs)) (hr' : Rd w w.heap.size A' (bls ys)) :
    Calls Try.prog 16 #[.slice A n c, .slice A' n' c'] w (TellsQ (decide (zs = ys)) w) := by
  by_cases hne : n = n'
  · subst hne
    go_enter Try.func16, Try.ntmps16
    go_wp2
    go_loopw [5] (fun i wr => ∃ k q : Nat, k ≤ n ∧ i = .int .i64 k ∧ wr = w.drewN q ∧ zs.take k = ys.take k) (fun i _ => n - (intOf i).toNat)
    case atStart => exact ⟨0, 0, Nat.zero_le _, rfl, rfl, rfl⟩
    case round =>
      obtain ⟨k, q, hk, rfl, rfl, heq⟩ := hrel
      have HE := Lib.hid heq
      clear heq
      by_cases hlt : k < n
      · have hkz : k < zs.length := by rw [hl.out]; exact hlt
        have hky : k < ys.length := by rw [hl'.out]; exact hlt
        obtain ⟨ad, rfl, hab, hc⟩ := bls_at hr hkz
        obtain ⟨ad', rfl, hab', hc'⟩ := bls_at hr' hky
        by_cases hv : zs[k] = ys[k]
        · have HV := Lib.hid hv
          rw [hv] at hc
          clear hv
          go_wp2
          go_quiet (fail)
          go_wp2
          go_roundw
          case rel => exact ⟨k + 1, _, by omega, by go_num, rfl, by rw [List.take_succ_eq_append_getElem hkz, List.take_succ_eq_append_getElem hky, HE.out, HV.out]⟩
          case measure => simp [intOf]; omega
        · have hv1 : (zs[k] == ys[k]) = false := beq_eq_false_iff_ne.2 hv
          have hv2 : (zs[k] != ys[k]) = true := bne_iff_ne.2 hv
          go_wp2
          go_quiet (fail)
          go_wp2
          go_ret
          refine ⟨ret_b ?_, q + nq, World.drewN_drewN _ _ _⟩
          symm
          simp only [decide_eq_false_iff_not]
          rintro rfl
          exact hv rfl
      · have e : k = n := by omega
        subst e
        go_wp2
        go_ret
        refine ⟨ret_b ?_, q, rfl⟩
        have h1 := HE.out
        rw [List.take_of_length_le (by rw [hl.out]; omega), List.take_of_length_le (by rw [hl'.out]; omega)] at h1
        simp [h1]
  · have hne' : ¬ (n : Int) = n' := by omega
    go_enter Try.func16, Try.ntmps16
    go_wp2
    go_ret
    refine ⟨ret_b ?_, 0, rfl⟩
    symm
    simp only [decide_eq_false_iff_not]
    rintro rfl
    exact hne (hl.out.symm.trans hl'.out)
theorem eqBoolS_any {w : World} {A A' : Option Addr} {n c n' c' : Nat} {zs ys : List Bool} (hl : Hid (zs.length = n)) (hl' : Hid (ys.length = n')) (hn : n ≤ 17592186043904) (hn' : n' ≤ 17592186043904)
    (hr : Rd w w.heap.size A (bls zs)) (hr' : Rd w w.heap.size A' (bls ys)) :
    Calls Try.prog 16 #[.slice A n c, .slice A' n' c'] w (Tells (decide (zs = ys)) w) := (eqBoolS_q hl hl' hn hn' hr hr').mono fun _ _ h => h.tells
/-- What an argument that is a slice of truth values gives. -/
theorem slice_openB {H : Type} {enc : TypeId × Value → H} {P : Program} {W : World} {t e : TypeId} {v : Value} {d : DataW H} {p : List MemPlace} {base : Nat} (ht : P.underlying t = some (.slice e)) (he : P.underlying e = some .bool) (hc : P.cellsOf e = 1)
    (hv : Value.okWide P W .any base t v) (h : DataW.Trod enc P W 0 (fun _ => true) true t v d p) :
    ∃ (A : Option Addr) (c : Nat) (zs : List Bool), v = .slice A zs.length c ∧ Rd W W.heap.size A (bls zs) ∧ zs.length ≤ c ∧ c ≤ maxLen := by
  obtain ⟨A, n, c, rfl⟩ := okWide_slice ht hv
  obtain ⟨fuel, hf⟩ := h
  rcases Go.Deep.open_bools ht he hc hf with ⟨e1, _⟩ | ⟨a, len, cap, Z, e1, _, h1, h2, _, hcell⟩
  · simp [Value.cells] at e1
    obtain ⟨rfl, rfl, rfl⟩ := e1
    exact ⟨none, 0, [], rfl, Rd.nil, Nat.le_refl _, Nat.zero_le _⟩
  · simp [Value.cells] at e1
    obtain ⟨rfl, rfl, rfl⟩ := e1
    refine ⟨some a, c, (List.range n).map Z, by simp, fun j u hu => ?_, by simpa using h1, h2⟩
    have hj : j < n := by
      rcases Nat.lt_or_ge j n with h' | h'
      · exact h'
      · rw [List.getElem?_eq_none (by simpa [bls] using h')] at hu; cases hu
    have hu2 : u = .bool (Z j) := by
      simp [bls, hj] at hu
      exact hu.symm
    have hcj := hcell j (by omega)
    refine ⟨a, rfl, ?_, by rw [hu2]; exact hcj⟩
    have := cell_lt hcj
    rwa [add_blk] at this
end Go.Proofs.Ytpopcjamildhkac
