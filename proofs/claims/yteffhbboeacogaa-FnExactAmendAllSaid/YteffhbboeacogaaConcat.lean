/- Contracts of slices.Grow on nil and slices.Concat of lists of integers. Condition: at most 2^37 elements together. -/
import Derived.Test.YteffhbboeacogaaGrow
import Derived.Test.YteffhbboeacogaaIntSS
import Derived.Test.YteffhbboeacogaaGraph
import Derived.Lib.AppendZerosOnto
import Derived.Lib.SliceRun
namespace Go.Proofs.Yteffhbboeacogaa
open Go.ChangeShapes Go.WideShapes Go.ChangeAt Go.RowKit
set_option maxRecDepth 100000
theorem wpList_run_app {P : Program} {w w' : World} {ops : Array Oper} {rest : List Oper} {o : Oper} {a : Act} {Q : Exit → Act → World → Prop} (hgd : o.guard = none) (x y : Operand) (t tn : TypeId)
    (ho : o.op = .call { callee := .builtin .append, args := #[x, y], argTypes := #[t, tn] }) {u v r : Value} (hx : a.eval x = u) (hy : a.eval y = v) (hrun : (Builtin.append_ #[t, tn] o.type #[u, v]).run P w = .ok r w')
    (K : wpList P ops Q rest (a.put o.dst r) w') : wpList P ops Q (o :: rest) a w := by
  refine wpList_plain hgd fun K' hK' => ?_
  unfold Oper.wp
  simp [execOp, ho, resolve, invoke, builtin, hx, hy, hrun, Result.andThen]
  exact hK' _ _ K
set_option maxHeartbeats 2000000 in
theorem grow_nil {w : World} {n : Nat} (hn : n ≤ 137438953472) :
    Calls Try.prog 99 #[.slice none 0 0, .int .i64 n] w (fun e w' => ∃ v, e = .returned v ∧ Row w' w.heap.size w'.heap.size 3 v [] ∧ Below w.heap.size w w') := by
  by_cases h0 : n = 0
  · subst h0
    go_enter Try.func99, Try.ntmps99
    go_wp2_with fail
    go_ret
    exact ⟨_, rfl, Row.nil, Below.refl _ _⟩
  · obtain ⟨i0, hi0, hz0, hz1, hz2⟩ := info_parts IntS_info
    have hold : (Builtin.firstCells i0.size 0 (.slice none 0 0)).run Try.prog w.drew = .ok ([] : List Value).toArray w.drew := run_firstCells_none w.drew i0.size 0 0 0
    have hrz : ∀ ty, (Builtin.append_ #[24, 3] ty #[.slice none 0 0, .int .i64 (n : Int)]).run Try.prog w =
        .ok (.slice (some ⟨w.heap.size, 0, none⟩) n (grownCap w n 0 3)) (w.drew.alloc (.cells (([] : List Value).toArray ++ Builtin.zeroCells (Value.int .i64 0).cells n ++ Builtin.zeroCells (Value.int .i64 0).cells (grownCap w n 0 3 - n)) 3)) := fun ty => by
      have h := Lib.run_append_grow_zeros w 24 3 ty 3 i0 (.int .i64 0) .i64 .i64 Try.underlying24 Try.underlying3 hi0 hz0 none 0 0 [] hold n (by omega) (by omega) (by omega) (by omega) (by rw [hz2]; omega)
        (by rw [Nat.zero_add]; exact growslice_fits (by omega) (by rw [hz2]; omega))
      rw [Nat.zero_add] at h
      exact h
    have hG1 := grownCap_ge w n 0 3
    have hG2 := grownCap_le_maxLen w n 0 3 (by unfold maxLen; omega)
    obtain ⟨G, hG⟩ : ∃ G, G = grownCap w n 0 3 := ⟨_, rfl⟩
    rw [← hG] at hrz hG1 hG2
    have hcs : (([] : List Value).toArray ++ Builtin.zeroCells (Value.int .i64 0).cells n ++ Builtin.zeroCells (Value.int .i64 0).cells (G - n)).size = G := by
      simp [Builtin.zeroCells, Value.cells]
      omega
    obtain ⟨cs, hcs'⟩ : ∃ cs, cs = (([] : List Value).toArray ++ Builtin.zeroCells (Value.int .i64 0).cells n ++ Builtin.zeroCells (Value.int .i64 0).cells (G - n)) := ⟨_, rfl⟩
    rw [← hcs'] at hrz hcs
    have hb1 := (alloc_new w (Obj.cells cs 3))
    have hrow : Row (w.alloc (Obj.cells cs 3)) w.heap.size (w.heap.size + 1) 3 (.slice (some ⟨w.heap.size, 0, none⟩) 0 G) [] :=
      ⟨⟨rfl, .inr ⟨w.heap.size, G, cs, rfl, Nat.le_refl _, Bx.made w 3 cs, Nat.zero_le _, hG2, by omega, rfl⟩⟩, fun g hg => by simp [Value.ownBlock] at hg; omega⟩
    have hn1 : (0 : Int) < (n : Int) := by omega
    have hn2 : ¬ (n : Int) < 0 := by omega
    have HZ := Lib.hid hrz
    clear hold hG hcs' hi0 hz0 hz1 hz2 hrz
    go_enter Try.func99, Try.ntmps99
    go_wp2_with (at_builtin; refine wpList_run_app rfl (.tmp 20) (.tmp 21) 24 3 rfl rfl rfl (HZ.out _) ?_)
    go_ret
    exact ⟨_, rfl, (hrow.drewN 1).wide (Nat.le_refl _) (by simp), hb1.drew⟩
theorem flat_take {X : List (List Int)} {k : Nat} (hk : k < X.length) : (X.take (k + 1)).flatten = (X.take k).flatten ++ X[k] := by
  rw [List.take_succ_eq_append_getElem hk, List.flatten_append]; simp
theorem flatC_len (X : List (List Int)) (k : Nat) : ((X.take k).flatten).length = psum X k := by
  unfold psum
  rw [List.length_flatten]
theorem psum_top (X : List (List Int)) (k : Nat) : psum X k ≤ psum X X.length := by
  rcases Nat.le_total k X.length with h | h
  · exact psum_mono X k _ h
  · unfold psum; rw [List.take_of_length_le h, List.take_length]; exact Nat.le_refl _
set_option maxHeartbeats 4000000 in
theorem concat_any {w : World} {A : Option Addr} {n c : Nat} {X : List (List Int)} (hl : Hid (X.length = n)) (hn : n ≤ 1048576) (hp : Hid (psum X X.length ≤ 137438953472)) (hr : RdSS w w.heap.size A X) :
    Calls Try.prog 93 #[.slice A n c] w (Fresh 3 (ivs X.flatten) w) := by
  obtain ⟨i0, hi, hz0, hz1, hz2⟩ := info_parts IntS_info
  go_enter Try.func93, Try.ntmps93
  go_wp2_with fail
  go_loopw [3, 11] (fun b i wr => ∃ k : Nat, k ≤ n ∧ i = .int .i64 k ∧ b = .int .i64 (psum X k : Nat) ∧ wr = w) (fun _ i _ => n - (intOf i).toNat)
  case atStart => exact ⟨0, Nat.zero_le _, rfl, rfl, rfl⟩
  case round =>
    obtain ⟨k, hk, rfl, rfl, rfl⟩ := hrel
    have hpk := Nat.le_trans (psum_top X k) hp.out
    by_cases hlt : k < n
    · have hkz : k < X.length := by rw [hl.out]; exact hlt
      obtain ⟨ad, Aj, cj, rfl, hab, hc, _, _, hrd⟩ := hr.at_ hkz
      have hpn := Nat.le_trans (psum_top X (k + 1)) hp.out
      have HS := Lib.hid (psum_succ X k hkz)
      rw [HS.out] at hpn
      obtain ⟨q, hq⟩ : ∃ q, q = X[k].length := ⟨_, rfl⟩
      obtain ⟨p, hpp⟩ : ∃ p, p = psum X k := ⟨_, rfl⟩
      rw [← hq] at hc hpn HS
      rw [← hpp] at hpk hpn HS ⊢
      have i0' : (0 : Int) ≤ (k : Int) := by omega
      clear hq hpp hrd
      go_wp2_with fail
      go_roundw
      case rel => exact ⟨k + 1, by omega, by go_num, by rw [HS.out]; go_num, trivial⟩
      case measure => simp [intOf]; omega
    · have e : k = n := by omega
      subst e
      go_wp2_with fail
      refine (grow_nil (n := psum X k) hpk).mono ?_
      rintro e w2 ⟨v, rfl, hrow0, hb0⟩
      go_wp2_with fail
      clear hlt
      go_loopw [6, 27] (fun b i wx => ∃ j : Nat, j ≤ k ∧ i = .int .i64 j ∧ Row wx wr.heap.size wx.heap.size 3 b (ivs ((X.take j).flatten)) ∧ Below wr.heap.size wr wx) (fun _ i _ => k - (intOf i).toNat)
      case atStart => exact ⟨0, Nat.zero_le _, rfl, hrow0, hb0⟩
      case round =>
        obtain ⟨j, hj, rfl, hrow, hbw⟩ := hrel
        have hsz := hbw.size
        clear hrow0 hb0
        by_cases hjt : j < k
        · have hjz : j < X.length := by rw [hl.out]; exact hjt
          obtain ⟨ad, Aj, cj, rfl, hab, hc, _, _, hrd⟩ := (hr.below hbw).at_ hjz
          have hpn := Nat.le_trans (psum_top X (j + 1)) hp.out
          have HF := Lib.hid (flat_take hjz)
          have HFL := flatC_len X j
          rw [psum_succ X j hjz] at hpn
          obtain ⟨x, hx⟩ : ∃ x, x = X[j] := ⟨_, rfl⟩
          obtain ⟨Y, hY⟩ : ∃ Y, Y = (X.take j).flatten := ⟨_, rfl⟩
          rw [← hx] at hc hrd hpn HF
          rw [← hY] at hrow HF HFL
          have L1 := Lib.hid (show (ivs Y).length + x.length ≤ maxLen ∧ ((ivs Y).length + x.length) * 8 ≤ 140737488355328 by rw [ivs_len]; unfold maxLen; omega)
          have j0 : (0 : Int) ≤ (j : Int) := by omega
          have HE := Lib.hid (show ivs (Y ++ x) = ivs Y ++ ivs x by simp [ivs])
          clear hx hY
          go_wp2_with (at_builtin; refine wpList_app (news := ivs x) rfl (.tmp 31) (.tmp 32) 24 rfl 3 i0 _ 8 Try.underlying24 hi hz0 hz1 hz2 rfl rfl rfl hrow (ivs_len x) hrd int_one L1.out.1 L1.out.2 hsz ?_; intro v1 w1 hrow1 ho1)
          go_roundw
          case rel => exact ⟨j + 1, by omega, by go_num, by rw [HF.out, HE.out]; exact hrow1, hbw.trans (ho1.below (Nat.le_refl _) hsz)⟩
          case measure => simp [intOf]; omega
        · have e : j = k := by omega
          subst e
          rw [List.take_of_length_le (by rw [hl.out]; exact Nat.le_refl _)] at hrow
          go_wp2_with fail
          go_ret
          exact ⟨_, rfl, hrow, hbw⟩
end Go.Proofs.Yteffhbboeacogaa
