/- Contracts of the laws' own helpers over []int: toIntS copies, eqIntS compares, markIntS writes k, k+1, .. into each place, heldIntS asks for them. For every slice of at most 2^44 - 512 elements; no other condition. -/
import Derived.Test.YtfcckpapcnhejaaRows
import Derived.WalkKit
import Derived.ProofKit
import Derived.OpenShut
import Derived.LoopN
import Derived.Handy
import Derived.LoopTactic
import Derived.Lib.Hide
import Derived.IntWalk
import Derived.BigQuiet
import Derived.Deep.QuietTactic
import Derived.Outline
import Derived.Test.YtfcckpapcnhejaaMg2
import Derived.Test.YtfcckpapcnhejaaMg0
import Derived.Deep.RegionWith
namespace Go.Proofs.Ytfcckpapcnhejaa
open Go.ChangeShapes Go.WideShapes Go.ChangeAt Go.RowKit
theorem IntS_info : (Try.prog.info? 3).map (fun i => (i.zero, i.size, i.bytes)) = some (some (.int .i64 0), 1, 8) := by kernel_rfl
def ivs (zs : List Int) : List Value := zs.map (Value.int .i64)
theorem ivs_len (zs : List Int) : (ivs zs).length = zs.length := by simp [ivs]
theorem ivs_get (zs : List Int) (k : Nat) (h : k < zs.length) : (ivs zs)[k]? = some (.int .i64 zs[k]) := by simp [ivs, h]
theorem ivs_at {w : World} {B : Nat} {A : Option Addr} {zs : List Int} (h : Rd w B A (ivs zs)) {k : Nat} (hk : k < zs.length) :
    ∃ ad, A = some ad ∧ ad.block < B ∧ w.cell? (ad.add k) = some (.int .i64 zs[k]) := h k _ (ivs_get zs k hk)
set_option maxHeartbeats 800000 in
theorem toIntS_any {w : World} {A : Option Addr} {n c : Nat} {zs : List Int} (hl : Hid (zs.length = n)) (hn : n ≤ 17592186043904) (hr : Rd w w.heap.size A (ivs zs)) :
    Calls Try.prog 15 #[.slice A n c] w (Fresh 3 (ivs zs) w) := by
  obtain ⟨i0, hi, hz0, hz1, hz2⟩ := info_parts IntS_info
  go_enter Try.func15, Try.ntmps15
  go_wp2_with (first | (at_make; refine wpList_make_full _ rfl _ _ 22 rfl w.heap.size 3 i0 _ 1 Try.underlying22 hi hz0 hz1 _ _ _ _ n rfl rfl rfl rfl (by rw [hz2]; omega) (by unfold maxLen; omega) (Nat.le_refl _) ?_; intro w1 hown1 hg1))
  have hb1 : Below w.heap.size w w1 := (Below.refl _ _).grown hg1 (Nat.le_refl _) (by simp)
  have hsz := hown1.lt w.heap.size rfl
  have HO := Lib.hid hown1
  clear hown1
  go_loopw [4] (fun i wr => ∃ k : Nat, k ≤ n ∧ i = .int .i64 k ∧ Below w.heap.size w wr ∧ wr.ownsRow w.heap.size 3 1 (.slice (some ⟨w.heap.size, 0, none⟩) n n) n ((ivs zs).take k ++ (madeCells (Value.int .i64 0).cells (n * 1)).toList.drop k)) (fun i _ => n - (intOf i).toNat)
  case atStart => exact ⟨0, Nat.zero_le _, rfl, hb1, by simpa using HO.out⟩
  case round =>
    obtain ⟨k, hk, rfl, hb, hown⟩ := hrel
    by_cases hlt : k < n
    · have hkz : k < zs.length := by rw [hl.out]; exact hlt
      obtain ⟨ad, rfl, hab, hc⟩ := ivs_at (hr.below hb) hkz
      have hlm : (madeCells (Value.int .i64 0).cells (n * 1)).toList.length = (ivs zs).length := by rw [ivs_len, hl.out]; simp [madeCells, Value.cells]
      have hm := set_mix (ivs zs) _ k (.int .i64 zs[k]) (by rw [ivs_len]; exact hkz) hlm (ivs_get zs k hkz)
      obtain ⟨hst, hgs⟩ := hown.stored k (.int .i64 zs[k])
      rw [hm] at hst
      have hcA := hown.cellAt k (by omega)
      obtain ⟨u0, hu0⟩ : ∃ u0, ((ivs zs).take k ++ (madeCells (Value.int .i64 0).cells (n * 1)).toList.drop k)[k]? = some u0 := by
        have : k < ((ivs zs).take k ++ (madeCells (Value.int .i64 0).cells (n * 1)).toList.drop k).length := by have := hown.1; omega
        exact ⟨_, List.getElem?_eq_getElem this⟩
      rw [hu0] at hcA
      have hfA := hown.frozenAt k
      have H1 := Lib.hid hst
      have H2 := Lib.hid hm
      have H3 := Lib.hid hu0
      have H4 := Lib.hid hb
      have H5 := Lib.hid hlm
      clear hst hm hu0 hb hlm hown HO
      go_wp2
      go_roundw
      case rel => exact ⟨k + 1, by omega, by go_num, H4.out.setCell (Nat.le_refl _) _, H1.out⟩
      case measure => simp [intOf]; omega
    · have e : k = n := by omega
      subst e
      have H4 := Lib.hid hb
      have H5 := Lib.hid hown
      clear hown hb
      go_wp2
      go_ret
      have ho := H5.out
      have hll : (ivs zs).length = k := by rw [ivs_len, hl.out]
      rw [List.take_of_length_le (by omega), List.drop_eq_nil_of_le (by simp [madeCells, Value.cells]), List.append_nil] at ho
      exact ⟨.slice (some ⟨w.heap.size, 0, none⟩) k k, rfl, Row.of_own ho, H4.out⟩
set_option maxHeartbeats 800000 in
theorem eqIntS_q {w : World} {A A' : Option Addr} {n c n' c' : Nat} {zs ys : List Int} (hl : Hid (zs.length = n)) (hl' : Hid (ys.length = n')) (hn : n ≤ 17592186043904) (hn' : n' ≤ 17592186043904)
    (hr : Rd w w.heap.size A (ivs zs)) (hr' : Rd w w.heap.size A' (ivs ys)) :
    Calls Try.prog 17 #[.slice A n c, .slice A' n' c'] w (TellsQ (decide (zs = ys)) w) := by
  by_cases hne : n = n'
  · subst hne
    go_enter Try.func17, Try.ntmps17
    go_wp2
    go_loopw [5] (fun i wr => ∃ k q : Nat, k ≤ n ∧ i = .int .i64 k ∧ wr = w.drewN q ∧ zs.take k = ys.take k) (fun i _ => n - (intOf i).toNat)
    case atStart => exact ⟨0, 0, Nat.zero_le _, rfl, rfl, rfl⟩
    case round =>
      obtain ⟨k, q, hk, rfl, rfl, heq⟩ := hrel
      have HE := Lib.hid heq
      clear heq
      by_cases hlt : k < n
      · have hkz : k < zs.length := by rw [hl.out]; exact hlt
        have hky : k < ys.length := by rw [hl'.out]; exact hlt
        obtain ⟨ad, rfl, hab, hc⟩ := ivs_at hr hkz
        obtain ⟨ad', rfl, hab', hc'⟩ := ivs_at hr' hky
        by_cases hv : zs[k] = ys[k]
        · have HV := Lib.hid hv
          rw [hv] at hc
          clear hv
          go_wp2
          go_quiet (fail)
          go_wp2
          go_roundw
          case rel => exact ⟨k + 1, _, by omega, by go_num, rfl, by rw [List.take_succ_eq_append_getElem hkz, List.take_succ_eq_append_getElem hky, HE.out, HV.out]⟩
          case measure => simp [intOf]; omega
        · go_wp2
          go_quiet (fail)
          go_wp2
          go_ret
          refine ⟨ret_b ?_, q + nq, World.drewN_drewN _ _ _⟩
          symm
          simp only [decide_eq_false_iff_not]
          rintro rfl
          exact hv rfl
      · have e : k = n := by omega
        subst e
        go_wp2
        go_ret
        refine ⟨ret_b ?_, q, rfl⟩
        have h1 := HE.out
        rw [List.take_of_length_le (by rw [hl.out]; omega), List.take_of_length_le (by rw [hl'.out]; omega)] at h1
        simp [h1]
  · have hne' : ¬ (n : Int) = n' := by omega
    go_enter Try.func17, Try.ntmps17
    go_wp2
    go_ret
    refine ⟨ret_b ?_, 0, rfl⟩
    symm
    simp only [decide_eq_false_iff_not]
    rintro rfl
    exact hne (hl.out.symm.trans hl'.out)
theorem eqIntS_any {w : World} {A A' : Option Addr} {n c n' c' : Nat} {zs ys : List Int} (hl : Hid (zs.length = n)) (hl' : Hid (ys.length = n')) (hn : n ≤ 17592186043904) (hn' : n' ≤ 17592186043904)
    (hr : Rd w w.heap.size A (ivs zs)) (hr' : Rd w w.heap.size A' (ivs ys)) :
    Calls Try.prog 17 #[.slice A n c, .slice A' n' c'] w (Tells (decide (zs = ys)) w) := (eqIntS_q hl hl' hn hn' hr hr').mono fun _ _ h => h.tells
/-- What markIntS writes: q, q + 1, .. -/
def imks (q : Int) (n : Nat) : List Int := (List.range n).map fun (j : Nat) => (q + (j : Int))
theorem imks_len (q : Int) (n : Nat) : (imks q n).length = n := by simp [imks]
theorem imks_get (q : Int) (n k : Nat) (h : k < n) : (imks q n)[k]'(by rw [imks_len]; exact h) = (q + k) := by simp [imks]
theorem jmks_get (q : Int) (n k : Nat) (h : k < n) : (ivs (imks q n))[k]? = some (.int .i64 ((q + k))) := by
  rw [ivs_get _ _ (by rw [imks_len]; exact h), imks_get q n k h]
set_option maxHeartbeats 800000 in
theorem markIntS_any {w : World} {lo hi n : Nat} {v : Value} {q : Int} {xs : List Value} (hl : Hid (xs.length = n)) (hn : n ≤ 17592186043904) (h0 : 0 ≤ q) (hq : q ≤ 1000000000000000)
    (h : Row w lo hi 3 v xs) :
    Calls Try.prog 34 #[v, .int .i64 q] w (Marked (q + n) lo hi 3 v (ivs (imks q n)) w) := by
  have hown0 := h.own hl.out
  rcases hown0.2 with ⟨rfl, rfl⟩ | ⟨g, cap, cur, rfl, hlo, _, _, _, _, _⟩
  · go_enter Try.func34, Try.ntmps34
    go_wp2
    go_loop [1, 5] (fun m i => i = .int .i64 0 ∧ m = .int .i64 q) (fun _ _ => 0)
    case atStart => exact ⟨rfl, rfl⟩
    case round =>
      obtain ⟨rfl, rfl⟩ := hrel
      go_wp2
      go_ret
      exact ⟨by simp, by simpa [imks, ivs] using Row.nil, Out.refl⟩
  · have hhi : g < hi := h.2 g rfl
    have HL := hl
    have HO := Lib.hid hown0
    clear hown0 h
    go_enter Try.func34, Try.ntmps34
    go_wp2
    go_loopw [1, 5] (fun m i wr => ∃ k : Nat, k ≤ n ∧ i = .int .i64 k ∧ m = .int .i64 (q + k) ∧ wr.ownsRow lo 3 1 (.slice (some ⟨g, 0, none⟩) n cap) n ((ivs (imks q n)).take k ++ xs.drop k) ∧ Out lo hi w wr) (fun _ i _ => n - (intOf i).toNat)
    case atStart => exact ⟨0, Nat.zero_le _, rfl, by simp, by simpa using HO.out, Out.refl⟩
    case round =>
      obtain ⟨k, hk, rfl, rfl, hown, hout⟩ := hrel
      by_cases hlt : k < n
      · have hm := set_mix (ivs (imks q n)) xs k _ (by rw [ivs_len, imks_len]; exact hlt) (by rw [ivs_len, imks_len]; exact hl.out) (jmks_get q n k hlt)
        obtain ⟨hst, hgs⟩ := hown.stored k (.int .i64 ((q + k)))
        rw [hm] at hst
        have hcA := hown.cellAt k (by omega)
        obtain ⟨u0, hu0⟩ : ∃ u0, ((ivs (imks q n)).take k ++ xs.drop k)[k]? = some u0 := by
          have : k < ((ivs (imks q n)).take k ++ xs.drop k).length := by have := hown.1; omega
          exact ⟨_, List.getElem?_eq_getElem this⟩
        rw [hu0] at hcA
        have hfA := hown.frozenAt k
        have hout2 : Out lo hi wr (wr.setCell ⟨g, k, none⟩ (.int .i64 ((q + k)))) :=
          ⟨hgs.os, hgs.tape, hgs.output, hgs.size, fun b hb hne => hgs.block b hb (fun e => by injection e; omega)⟩
        have H1 := Lib.hid hst
        have H2 := Lib.hid hm
        have H3 := Lib.hid hu0
        have H4 := Lib.hid (hout.trans hout2)
        have h256 : 0 ≤ q + (k : Int) := by omega
        clear hst hm hu0 hown HO hgs hout hout2
        go_wp2
        go_roundw
        case rel => exact ⟨k + 1, by omega, by go_num, by go_num, H1.out, H4.out⟩
        case measure => simp [intOf]; omega
      · have e : k = n := by omega
        subst e
        have H4 := Lib.hid hown
        have H5 := Lib.hid hout
        clear hown hout HO
        go_wp2
        go_ret
        have ho := H4.out
        rw [List.take_of_length_le (by rw [ivs_len, imks_len]; omega), List.drop_eq_nil_of_le (by rw [hl.out]; omega), List.append_nil] at ho
        refine ⟨rfl, ⟨?_, fun g' hg' => ?_⟩, H5.out⟩
        · rw [ivs_len, imks_len]; exact ho
        · simp [Value.ownBlock] at hg'; omega
set_option maxHeartbeats 800000 in
theorem heldIntS_any {w : World} {n c : Nat} {A : Option Addr} {q : Int} (hn : n ≤ 17592186043904) (h0 : 0 ≤ q) (hq : q ≤ 1000000000000000) (hr : Rd w w.heap.size A (ivs (imks q n))) :
    Calls Try.prog 59 #[.slice A n c, .int .i64 q] w (fun e w' => e = .returned (.int .i64 (q + n)) ∧ w = w') := by
  go_enter Try.func59, Try.ntmps59
  go_wp2
  go_loop [1, 5] (fun m i => ∃ k : Nat, k ≤ n ∧ i = .int .i64 k ∧ m = .int .i64 (q + k)) (fun _ i => n - (intOf i).toNat)
  case atStart => exact ⟨0, Nat.zero_le _, rfl, by simp⟩
  case round =>
    obtain ⟨k, hk, rfl, rfl⟩ := hrel
    by_cases hlt : k < n
    · obtain ⟨ad, rfl, hab, hc⟩ := hr k _ (jmks_get q n k hlt)
      have h256 : 0 ≤ q + (k : Int) := by omega
      go_wp2
      go_round
      case rel => exact ⟨k + 1, by omega, by go_num, by go_num⟩
      case measure => simp [intOf]; omega
    · have e : k = n := by omega
      subst e
      go_wp2
      go_ret
      exact ⟨rfl, rfl⟩
end Go.Proofs.Ytfcckpapcnhejaa

/- Contracts of the models of chapter 10: IsFormula, NotOf, Join. No conditions but that the slices have at most 2^40 elements. -/
namespace Go.Proofs.Ytfcckpapcnhejaa
open Go.ChangeShapes Go.WideShapes Go.ChangeAt Go.RowKit
set_option maxRecDepth 100000
theorem isF_bad {f : List Int} {k : Nat} (h : cntF (f.take k) = none) : isF f = false := by
  unfold isF
  rw [cntF_pre h]
  rfl
theorem isF_end {f : List Int} {n j : Nat} (hl : f.length = n) (h : cntF f = some j) : isF f = (decide (j = 1) && decide (n ≤ 24)) := by
  unfold isF
  rw [h, hl]
  simp
theorem take_next {f : List Int} {k : Nat} (h : k < f.length) : f.take (k + 1) = f.take k ++ [f[k]] := List.take_succ_eq_append_getElem h
theorem cnt_next {f : List Int} {k j : Nat} {x : Int} (hk : k < f.length) (hx : x = f[k]) (h : cntF (f.take k) = some j) : cntF (f.take (k + 1)) = stF (some j) x := by
  rw [take_next hk, cntF_snoc, h, hx]
set_option maxHeartbeats 2000000 in
theorem specIsFormula_any {w : World} {A : Option Addr} {n c : Nat} {f : List Int} (hl : Hid (f.length = n)) (hn : n ≤ 1099511627776) (hr : Rd w w.heap.size A (ivs f)) :
    Calls Try.prog 52 #[.slice A n c] w (fun e w' => e = .returned (.bool (isF f)) ∧ w = w') := by
  go_enter Try.func52, Try.ntmps52
  go_wp2
  go_loop [3, 4] (fun m i => ∃ k j : Nat, k ≤ n ∧ j ≤ k ∧ i = .int .i64 k ∧ m = .int .i64 j ∧ Hid (cntF (f.take k) = some j)) (fun _ i => n - (intOf i).toNat)
  case atStart => exact ⟨0, 0, Nat.zero_le _, Nat.zero_le _, rfl, rfl, Lib.hid rfl⟩
  case round =>
    obtain ⟨k, j, hk, hjk, rfl, rfl, hc⟩ := hrel
    by_cases hlt : k < n
    · have hkz : k < f.length := by rw [hl.out]; exact hlt
      obtain ⟨ad, rfl, hab, hcell⟩ := ivs_at hr hkz
      obtain ⟨x, hx⟩ : ∃ x, x = f[k] := ⟨_, rfl⟩
      rw [← hx] at hcell
      have HN := Lib.hid (cnt_next hkz hx hc.out)
      clear hx hr
      have fin : ∀ {P : Prop}, (stF (some j) x = none) → Hid (isF f = false) := fun h => Lib.hid (isF_bad (HN.out.trans h))
      by_cases h1 : 0 ≤ x ∧ x ≤ 5
      · have J1 := inr_t h1.1 h1.2
        have HS := Lib.hid (HN.out.trans (stF_let h1))
        clear h1 fin
        go_wp2_with (go_at_call 72; refine (l1In_any _ _ _ _).mono ?_; rintro e w1 ⟨rfl, rfl⟩)
        go_round
        case rel => exact ⟨k + 1, j + 1, by omega, by omega, by go_num, by go_num, HS.out⟩
        case measure => simp [intOf]; omega
      · have J1 : inr x 0 5 = false := inr_f (by omega)
        by_cases h2 : x = -1
        · subst h2
          have J2 : inr (-1) (-4) (-2) = false := by decide
          by_cases h3 : 1 ≤ j
          · have HS := Lib.hid (HN.out.trans (stF_not h3))
            clear h1 fin
            go_wp2_with (go_at_call 72; refine (l1In_any _ _ _ _).mono ?_; rintro e w1 ⟨rfl, rfl⟩)
            go_round
            case rel => exact ⟨k + 1, j, by omega, by omega, by go_num, rfl, HS.out⟩
            case measure => simp [intOf]; omega
          · have HB := fin (P := True) (stF_bad (by omega) (by omega) (by omega))
            clear h1 fin
            go_wp2_with (go_at_call 72; refine (l1In_any _ _ _ _).mono ?_; rintro e w1 ⟨rfl, rfl⟩)
            go_ret
            exact ⟨ret_b HB.out.symm, rfl⟩
        · have J3 : (x == -1) = false := beq_eq_false_iff_ne.2 h2
          by_cases h4 : -4 ≤ x ∧ x ≤ -2
          · have J2 := inr_t h4.1 h4.2
            by_cases h5 : 2 ≤ j
            · have HS := Lib.hid (HN.out.trans (stF_op h4 h5))
              clear h1 fin h2 h4
              go_wp2_with (go_at_call 72; refine (l1In_any _ _ _ _).mono ?_; rintro e w1 ⟨rfl, rfl⟩)
              go_round
              case rel => exact ⟨k + 1, j - 1, by omega, by omega, by go_num, by go_num, HS.out⟩
              case measure => simp [intOf]; omega
            · have HB := fin (P := True) (stF_bad h1 (by omega) (by omega))
              clear h1 fin h2 h4
              go_wp2_with (go_at_call 72; refine (l1In_any _ _ _ _).mono ?_; rintro e w1 ⟨rfl, rfl⟩)
              go_ret
              exact ⟨ret_b HB.out.symm, rfl⟩
          · have J2 : inr x (-4) (-2) = false := inr_f (by omega)
            have HB := fin (P := True) (stF_bad h1 (by omega) (by omega))
            clear h1 fin h2 h4
            go_wp2_with (go_at_call 72; refine (l1In_any _ _ _ _).mono ?_; rintro e w1 ⟨rfl, rfl⟩)
            go_ret
            exact ⟨ret_b HB.out.symm, rfl⟩
    · have e : k = n := by omega
      subst e
      have HE := Lib.hid (isF_end hl.out (by rw [← hc.out, List.take_of_length_le (by rw [hl.out]; exact Nat.le_refl _)]))
      by_cases h1 : j = 1
      · subst h1
        by_cases h2 : k ≤ 24
        · go_wp2
          go_ret
          exact ⟨ret_b (by rw [HE.out]; simp [h2]; omega), rfl⟩
        · go_wp2
          go_ret
          exact ⟨ret_b (by rw [HE.out]; simp [h2]; omega), rfl⟩
      · have h1' : ((j : Int) == 1) = false := beq_eq_false_iff_ne.2 (by omega)
        go_wp2
        go_ret
        exact ⟨ret_b (by rw [HE.out]; simp [h1]), rfl⟩
end Go.Proofs.Ytfcckpapcnhejaa

/- A row that a loop makes grow: which blocks it may turn and which stay, and append's law for it; filters of a list's beginning. No conditions. -/
namespace Go.Proofs.Ytfcckpapcnhejaa
open Go.ChangeShapes Go.WideShapes Go.ChangeAt Go.RowKit
/-- A row that began in block q of world W and has grown since; of what W held, block q alone has turned. -/
structure Gr (W : World) (q : Nat) (t : TypeId) (w : World) (v : Value) (xs : List Value) : Prop where
  row : Row w q w.heap.size t v xs
  out : Out q (q + 1) W w
  own : ∀ g, v.ownBlock = some g → g = q ∨ W.heap.size ≤ g
section
variable {W w w' : World} {q : Nat} {t : TypeId} {v : Value} {xs : List Value}
theorem Gr.start (h : Row W q W.heap.size t (.slice (some ⟨q, 0, none⟩) 0 0) xs) : Gr W q t W (.slice (some ⟨q, 0, none⟩) 0 0) xs :=
  ⟨h, Out.refl, fun g hg => by simp [Value.ownBlock] at hg; exact .inl hg.symm⟩
theorem Gr.nil (W : World) (q : Nat) (t : TypeId) : Gr W q t W (.slice none 0 0) [] := ⟨Row.nil, Out.refl, fun g hg => by simp [Value.ownBlock] at hg⟩
theorem Gr.new (h : Gr W q t w v xs) (hb : Below w.heap.size w w') : Gr W q t w' v xs :=
  ⟨(h.row.new hb).wide (Nat.le_refl _) hb.size, h.out.trans (Out.of_below hb), h.own⟩
theorem Gr.drewN (h : Gr W q t w v xs) (n : Nat) : Gr W q t (w.drewN n) v xs := ⟨h.row, h.out.drewN n, h.own⟩
theorem Gr.drew (h : Gr W q t w v xs) : Gr W q t w.drew v xs := h.drewN 1
theorem Gr.below (h : Gr W q t w v xs) {B : Nat} (hB : B ≤ q) (hs : B ≤ W.heap.size) : Below B W w := h.out.below hB hs
theorem Gr.rd {B : Nat} {A : Option Addr} {ys : List Value} (h : Gr W q t w v xs) (r : Rd W B A ys) (hB : B ≤ q) (hs : B ≤ W.heap.size) : Rd w w.heap.size A ys := (r.below (h.below hB hs)).more (by have := h.out.size; omega)
theorem Gr.other {lo hi : Nat} {t' : TypeId} {u : Value} {ys : List Value} (h : Gr W q t w v xs) (r : Row W lo hi t' u ys) (hq : q < lo) : Row w lo hi t' u ys := r.out h.out (.inr hq)
/-- The row may only lie in block q, or in blocks made since: another row's block is not touched. -/
theorem run_gr {P : Program} (ty ty' : TypeId) (e : TypeId) (i : TypeInfo) (z : Value) (bytes : Nat) (ht : P.underlying ty = some (.slice e)) (hi : P.info? e = some i) (hz : i.zero = some z) (hsize : i.size = 1) (hby : i.bytes = bytes) (hzs : z.cells.size = 1)
    {B m c : Nat} {news : List Value} {ad : Addr} (h : Gr W q e w v xs) (hq : q ≤ w.heap.size) (hm : news.length = m) (hr : Rd w B (some ad) news) (h1 : ∀ u ∈ news, u.oneCell' = true)
    (h63 : xs.length + m ≤ maxLen) (hbytes : (xs.length + m) * bytes ≤ 140737488355328) :
    ∃ v' w', (Builtin.append_ #[ty, ty] ty' #[v, .slice (some ad) m c]).run P w = .ok v' w' ∧ Gr W q e w' v' (xs ++ news) ∧ w.heap.size ≤ w'.heap.size := by
  obtain ⟨v', w', hrun, h2, h3⟩ := run_app (P := P) ty ty' e i z bytes ht hi hz hsize hby hzs (c := c) h.row hm hr h1 h63 hbytes hq
  obtain ⟨v2, w2, hrun2, _, b2, _, b4⟩ := run_append_own_at (P := P) w q ty ty' e i z 1 bytes ht hi hz hsize hby hzs (by omega) v xs.length xs h.row.1 ad m c news (by omega) (fun j u hu => by
    obtain ⟨ad', e1, _, hc⟩ := hr j u hu
    injection e1 with e1
    subst e1
    exact hc) h1 h63 hbytes hq
  rw [hrun] at hrun2
  injection hrun2 with e1 e2
  subst e1
  subst e2
  have hs := h.out.size
  refine ⟨v', w', hrun, ⟨h2, ⟨b2.os.trans h.out.os, b2.tape.trans h.out.tape, b2.output.trans h.out.output, by have := b2.size; omega, fun k hk hn => ?_⟩, fun g hg => ?_⟩, b2.size⟩
  · refine (b2.block k (by omega) (fun e => ?_)).trans (h.out.block k hk hn)
    have := h.own k e.symm
    omega
  · rcases b4 with b4 | b4
    · exact h.own g (b4 ▸ hg)
    · rw [b4] at hg
      injection hg with hg
      exact .inr (by omega)
end
/-- Append's law for a row that grows. -/
theorem wpList_gr {P : Program} {w : World} {ops : Array Oper} {rest : List Oper} {o : Oper} {a : Act} {Q : Exit → Act → World → Prop} (hgd : o.guard = none) (s x : Operand) (t : TypeId)
    (ho : o.op = .call { callee := .builtin .append, args := #[s, x], argTypes := #[t, t] })
    (e : TypeId) (i : TypeInfo) (z : Value) (bytes : Nat) (ht : P.underlying t = some (.slice e)) (hi : P.info? e = some i) (hz : i.zero = some z) (hsize : i.size = 1) (hby : i.bytes = bytes) (hzs : z.cells.size = 1)
    {W : World} {q B m c : Nat} {v : Value} {xs news : List Value} {ad : Addr} (hs : a.eval s = v) (hx : a.eval x = .slice (some ad) m c) (h : Gr W q e w v xs) (hq : q ≤ w.heap.size) (hm : news.length = m) (hr : Rd w B (some ad) news) (h1 : ∀ u ∈ news, u.oneCell' = true)
    (h63 : xs.length + m ≤ maxLen) (hbytes : (xs.length + m) * bytes ≤ 140737488355328)
    (K : ∀ v' w', Gr W q e w' v' (xs ++ news) → w.heap.size ≤ w'.heap.size → wpList P ops Q rest (a.put o.dst v') w') : wpList P ops Q (o :: rest) a w := by
  obtain ⟨v', w', hrun, h2, h3⟩ := run_gr (P := P) t o.type e i z bytes ht hi hz hsize hby hzs (c := c) h hq hm hr h1 h63 hbytes
  refine wpList_plain hgd fun K' hK' => ?_
  unfold Oper.wp
  simp [execOp, ho, resolve, invoke, builtin, hs, hx, hrun, Result.andThen]
  exact hK' _ _ (K v' w' h2 h3)
theorem alloc_new (w : World) (o : Obj) : Below w.heap.size w (w.alloc o) := (Below.refl _ _).alloc (Nat.le_refl _) o
theorem filt_yes {α : Type} {l : List α} {p : α → Bool} {k : Nat} (hk : k < l.length) (h : p l[k] = true) : (l.take (k + 1)).filter p = (l.take k).filter p ++ [l[k]] := by
  rw [List.take_succ_eq_append_getElem hk, List.filter_append]; simp [h]
theorem filt_no {α : Type} {l : List α} {p : α → Bool} {k : Nat} (hk : k < l.length) (h : p l[k] = false) : (l.take (k + 1)).filter p = (l.take k).filter p := by
  rw [List.take_succ_eq_append_getElem hk, List.filter_append]; simp [h]
theorem filt_len {α : Type} (l : List α) (p : α → Bool) (k : Nat) : ((l.take k).filter p).length ≤ k := Nat.le_trans (List.length_filter_le _ _) (by simp; omega)
end Go.Proofs.Ytfcckpapcnhejaa
