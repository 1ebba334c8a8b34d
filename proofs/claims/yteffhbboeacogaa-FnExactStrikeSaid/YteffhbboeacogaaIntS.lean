/- Contracts of the laws' own helpers over []int: toIntS copies, eqIntS compares, markIntS writes k, k+1, .. into each place, heldIntS asks for them. For every slice of at most 2^44 - 512 elements; no other condition. -/
import Derived.Test.YteffhbboeacogaaRows
import Derived.WalkKit
import Derived.ProofKit
import Derived.OpenShut
import Derived.LoopN
import Derived.Handy
import Derived.LoopTactic
import Derived.Lib.Hide
import Derived.IntWalk
import Derived.BigQuiet
import Derived.Deep.QuietTactic
import Derived.Outline
import Derived.Test.YteffhbboeacogaaByteS
namespace Go.Proofs.Yteffhbboeacogaa
open Go.ChangeShapes Go.WideShapes Go.ChangeAt Go.RowKit
theorem IntS_info : (Try.prog.info? 3).map (fun i => (i.zero, i.size, i.bytes)) = some (some (.int .i64 0), 1, 8) := by kernel_rfl
def ivs (zs : List Int) : List Value := zs.map (Value.int .i64)
theorem ivs_len (zs : List Int) : (ivs zs).length = zs.length := by simp [ivs]
theorem ivs_get (zs : List Int) (k : Nat) (h : k < zs.length) : (ivs zs)[k]? = some (.int .i64 zs[k]) := by simp [ivs, h]
theorem ivs_at {w : World} {B : Nat} {A : Option Addr} {zs : List Int} (h : Rd w B A (ivs zs)) {k : Nat} (hk : k < zs.length) :
    ∃ ad, A = some ad ∧ ad.block < B ∧ w.cell? (ad.add k) = some (.int .i64 zs[k]) := h k _ (ivs_get zs k hk)
set_option maxHeartbeats 800000 in
theorem toIntS_any {w : World} {A : Option Addr} {n c : Nat} {zs : List Int} (hl : Hid (zs.length = n)) (hn : n ≤ 17592186043904) (hr : Rd w w.heap.size A (ivs zs)) :
    Calls Try.prog 28 #[.slice A n c] w (Fresh 3 (ivs zs) w) := by
  obtain ⟨i0, hi, hz0, hz1, hz2⟩ := info_parts IntS_info
  go_enter Try.func28, Try.ntmps28
  go_wp2_with (first | (at_make; refine wpList_make_full _ rfl _ _ 24 rfl w.heap.size 3 i0 _ 1 Try.underlying24 hi hz0 hz1 _ _ _ _ n rfl rfl rfl rfl (by rw [hz2]; omega) (by unfold maxLen; omega) (Nat.le_refl _) ?_; intro w1 hown1 hg1))
  have hb1 : Below w.heap.size w w1 := (Below.refl _ _).grown hg1 (Nat.le_refl _) (by simp)
  have hsz := hown1.lt w.heap.size rfl
  have HO := Lib.hid hown1
  clear hown1
  go_loopw [4] (fun i wr => ∃ k : Nat, k ≤ n ∧ i = .int .i64 k ∧ Below w.heap.size w wr ∧ wr.ownsRow w.heap.size 3 1 (.slice (some ⟨w.heap.size, 0, none⟩) n n) n ((ivs zs).take k ++ (madeCells (Value.int .i64 0).cells (n * 1)).toList.drop k)) (fun i _ => n - (intOf i).toNat)
  case atStart => exact ⟨0, Nat.zero_le _, rfl, hb1, by simpa using HO.out⟩
  case round =>
    obtain ⟨k, hk, rfl, hb, hown⟩ := hrel
    by_cases hlt : k < n
    · have hkz : k < zs.length := by rw [hl.out]; exact hlt
      obtain ⟨ad, rfl, hab, hc⟩ := ivs_at (hr.below hb) hkz
      have hlm : (madeCells (Value.int .i64 0).cells (n * 1)).toList.length = (ivs zs).length := by rw [ivs_len, hl.out]; simp [madeCells, Value.cells]
      have hm := set_mix (ivs zs) _ k (.int .i64 zs[k]) (by rw [ivs_len]; exact hkz) hlm (ivs_get zs k hkz)
      obtain ⟨hst, hgs⟩ := hown.stored k (.int .i64 zs[k])
      rw [hm] at hst
      have hcA := hown.cellAt k (by omega)
      obtain ⟨u0, hu0⟩ : ∃ u0, ((ivs zs).take k ++ (madeCells (Value.int .i64 0).cells (n * 1)).toList.drop k)[k]? = some u0 := by
        have : k < ((ivs zs).take k ++ (madeCells (Value.int .i64 0).cells (n * 1)).toList.drop k).length := by have := hown.1; omega
        exact ⟨_, List.getElem?_eq_getElem this⟩
      rw [hu0] at hcA
      have hfA := hown.frozenAt k
      have H1 := Lib.hid hst
      have H2 := Lib.hid hm
      have H3 := Lib.hid hu0
      have H4 := Lib.hid hb
      have H5 := Lib.hid hlm
      clear hst hm hu0 hb hlm hown HO
      go_wp2
      go_roundw
      case rel => exact ⟨k + 1, by omega, by go_num, H4.out.setCell (Nat.le_refl _) _, H1.out⟩
      case measure => simp [intOf]; omega
    · have e : k = n := by omega
      subst e
      have H4 := Lib.hid hb
      have H5 := Lib.hid hown
      clear hown hb
      go_wp2
      go_ret
      have ho := H5.out
      have hll : (ivs zs).length = k := by rw [ivs_len, hl.out]
      rw [List.take_of_length_le (by omega), List.drop_eq_nil_of_le (by simp [madeCells, Value.cells]), List.append_nil] at ho
      exact ⟨.slice (some ⟨w.heap.size, 0, none⟩) k k, rfl, Row.of_own ho, H4.out⟩
set_option maxHeartbeats 800000 in
theorem eqIntS_q {w : World} {A A' : Option Addr} {n c n' c' : Nat} {zs ys : List Int} (hl : Hid (zs.length = n)) (hl' : Hid (ys.length = n')) (hn : n ≤ 17592186043904) (hn' : n' ≤ 17592186043904)
    (hr : Rd w w.heap.size A (ivs zs)) (hr' : Rd w w.heap.size A' (ivs ys)) :
    Calls Try.prog 30 #[.slice A n c, .slice A' n' c'] w (TellsQ (decide (zs = ys)) w) := by
  by_cases hne : n = n'
  · subst hne
    go_enter Try.func30, Try.ntmps30
    go_wp2
    go_loopw [5] (fun i wr => ∃ k q : Nat, k ≤ n ∧ i = .int .i64 k ∧ wr = w.drewN q ∧ zs.take k = ys.take k) (fun i _ => n - (intOf i).toNat)
    case atStart => exact ⟨0, 0, Nat.zero_le _, rfl, rfl, rfl⟩
    case round =>
      obtain ⟨k, q, hk, rfl, rfl, heq⟩ := hrel
      have HE := Lib.hid heq
      clear heq
      by_cases hlt : k < n
      · have hkz : k < zs.length := by rw [hl.out]; exact hlt
        have hky : k < ys.length := by rw [hl'.out]; exact hlt
        obtain ⟨ad, rfl, hab, hc⟩ := ivs_at hr hkz
        obtain ⟨ad', rfl, hab', hc'⟩ := ivs_at hr' hky
        by_cases hv : zs[k] = ys[k]
        · have HV := Lib.hid hv
          rw [hv] at hc
          clear hv
          go_wp2
          go_quiet (fail)
          go_wp2
          go_roundw
          case rel => exact ⟨k + 1, _, by omega, by go_num, rfl, by rw [List.take_succ_eq_append_getElem hkz, List.take_succ_eq_append_getElem hky, HE.out, HV.out]⟩
          case measure => simp [intOf]; omega
        · go_wp2
          go_quiet (fail)
          go_wp2
          go_ret
          refine ⟨ret_b ?_, q + nq, World.drewN_drewN _ _ _⟩
          symm
          simp only [decide_eq_false_iff_not]
          rintro rfl
          exact hv rfl
      · have e : k = n := by omega
        subst e
        go_wp2
        go_ret
        refine ⟨ret_b ?_, q, rfl⟩
        have h1 := HE.out
        rw [List.take_of_length_le (by rw [hl.out]; omega), List.take_of_length_le (by rw [hl'.out]; omega)] at h1
        simp [h1]
  · have hne' : ¬ (n : Int) = n' := by omega
    go_enter Try.func30, Try.ntmps30
    go_wp2
    go_ret
    refine ⟨ret_b ?_, 0, rfl⟩
    symm
    simp only [decide_eq_false_iff_not]
    rintro rfl
    exact hne (hl.out.symm.trans hl'.out)
theorem eqIntS_any {w : World} {A A' : Option Addr} {n c n' c' : Nat} {zs ys : List Int} (hl : Hid (zs.length = n)) (hl' : Hid (ys.length = n')) (hn : n ≤ 17592186043904) (hn' : n' ≤ 17592186043904)
    (hr : Rd w w.heap.size A (ivs zs)) (hr' : Rd w w.heap.size A' (ivs ys)) :
    Calls Try.prog 30 #[.slice A n c, .slice A' n' c'] w (Tells (decide (zs = ys)) w) := (eqIntS_q hl hl' hn hn' hr hr').mono fun _ _ h => h.tells
/-- What markIntS writes: q, q + 1, .. -/
def imks (q : Int) (n : Nat) : List Int := (List.range n).map fun (j : Nat) => (q + (j : Int))
theorem imks_len (q : Int) (n : Nat) : (imks q n).length = n := by simp [imks]
theorem imks_get (q : Int) (n k : Nat) (h : k < n) : (imks q n)[k]'(by rw [imks_len]; exact h) = (q + k) := by simp [imks]
theorem jmks_get (q : Int) (n k : Nat) (h : k < n) : (ivs (imks q n))[k]? = some (.int .i64 ((q + k))) := by
  rw [ivs_get _ _ (by rw [imks_len]; exact h), imks_get q n k h]
set_option maxHeartbeats 800000 in
theorem markIntS_any {w : World} {lo hi n : Nat} {v : Value} {q : Int} {xs : List Value} (hl : Hid (xs.length = n)) (hn : n ≤ 17592186043904) (h0 : 0 ≤ q) (hq : q ≤ 1000000000000000)
    (h : Row w lo hi 3 v xs) :
    Calls Try.prog 35 #[v, .int .i64 q] w (Marked (q + n) lo hi 3 v (ivs (imks q n)) w) := by
  have hown0 := h.own hl.out
  rcases hown0.2 with ⟨rfl, rfl⟩ | ⟨g, cap, cur, rfl, hlo, _, _, _, _, _⟩
  · go_enter Try.func35, Try.ntmps35
    go_wp2
    go_loop [1, 5] (fun m i => i = .int .i64 0 ∧ m = .int .i64 q) (fun _ _ => 0)
    case atStart => exact ⟨rfl, rfl⟩
    case round =>
      obtain ⟨rfl, rfl⟩ := hrel
      go_wp2
      go_ret
      exact ⟨by simp, by simpa [imks, ivs] using Row.nil, Out.refl⟩
  · have hhi : g < hi := h.2 g rfl
    have HL := hl
    have HO := Lib.hid hown0
    clear hown0 h
    go_enter Try.func35, Try.ntmps35
    go_wp2
    go_loopw [1, 5] (fun m i wr => ∃ k : Nat, k ≤ n ∧ i = .int .i64 k ∧ m = .int .i64 (q + k) ∧ wr.ownsRow lo 3 1 (.slice (some ⟨g, 0, none⟩) n cap) n ((ivs (imks q n)).take k ++ xs.drop k) ∧ Out lo hi w wr) (fun _ i _ => n - (intOf i).toNat)
    case atStart => exact ⟨0, Nat.zero_le _, rfl, by simp, by simpa using HO.out, Out.refl⟩
    case round =>
      obtain ⟨k, hk, rfl, rfl, hown, hout⟩ := hrel
      by_cases hlt : k < n
      · have hm := set_mix (ivs (imks q n)) xs k _ (by rw [ivs_len, imks_len]; exact hlt) (by rw [ivs_len, imks_len]; exact hl.out) (jmks_get q n k hlt)
        obtain ⟨hst, hgs⟩ := hown.stored k (.int .i64 ((q + k)))
        rw [hm] at hst
        have hcA := hown.cellAt k (by omega)
        obtain ⟨u0, hu0⟩ : ∃ u0, ((ivs (imks q n)).take k ++ xs.drop k)[k]? = some u0 := by
          have : k < ((ivs (imks q n)).take k ++ xs.drop k).length := by have := hown.1; omega
          exact ⟨_, List.getElem?_eq_getElem this⟩
        rw [hu0] at hcA
        have hfA := hown.frozenAt k
        have hout2 : Out lo hi wr (wr.setCell ⟨g, k, none⟩ (.int .i64 ((q + k)))) :=
          ⟨hgs.os, hgs.tape, hgs.output, hgs.size, fun b hb hne => hgs.block b hb (fun e => by injection e; omega)⟩
        have H1 := Lib.hid hst
        have H2 := Lib.hid hm
        have H3 := Lib.hid hu0
        have H4 := Lib.hid (hout.trans hout2)
        have h256 : 0 ≤ q + (k : Int) := by omega
        clear hst hm hu0 hown HO hgs hout hout2
        go_wp2
        go_roundw
        case rel => exact ⟨k + 1, by omega, by go_num, by go_num, H1.out, H4.out⟩
        case measure => simp [intOf]; omega
      · have e : k = n := by omega
        subst e
        have H4 := Lib.hid hown
        have H5 := Lib.hid hout
        clear hown hout HO
        go_wp2
        go_ret
        have ho := H4.out
        rw [List.take_of_length_le (by rw [ivs_len, imks_len]; omega), List.drop_eq_nil_of_le (by rw [hl.out]; omega), List.append_nil] at ho
        refine ⟨rfl, ⟨?_, fun g' hg' => ?_⟩, H5.out⟩
        · rw [ivs_len, imks_len]; exact ho
        · simp [Value.ownBlock] at hg'; omega
set_option maxHeartbeats 800000 in
theorem heldIntS_any {w : World} {n c : Nat} {A : Option Addr} {q : Int} (hn : n ≤ 17592186043904) (h0 : 0 ≤ q) (hq : q ≤ 1000000000000000) (hr : Rd w w.heap.size A (ivs (imks q n))) :
    Calls Try.prog 36 #[.slice A n c, .int .i64 q] w (fun e w' => e = .returned (.int .i64 (q + n)) ∧ w = w') := by
  go_enter Try.func36, Try.ntmps36
  go_wp2
  go_loop [1, 5] (fun m i => ∃ k : Nat, k ≤ n ∧ i = .int .i64 k ∧ m = .int .i64 (q + k)) (fun _ i => n - (intOf i).toNat)
  case atStart => exact ⟨0, Nat.zero_le _, rfl, by simp⟩
  case round =>
    obtain ⟨k, hk, rfl, rfl⟩ := hrel
    by_cases hlt : k < n
    · obtain ⟨ad, rfl, hab, hc⟩ := hr k _ (jmks_get q n k hlt)
      have h256 : 0 ≤ q + (k : Int) := by omega
      go_wp2
      go_round
      case rel => exact ⟨k + 1, by omega, by go_num, by go_num⟩
      case measure => simp [intOf]; omega
    · have e : k = n := by omega
      subst e
      go_wp2
      go_ret
      exact ⟨rfl, rfl⟩
end Go.Proofs.Yteffhbboeacogaa
