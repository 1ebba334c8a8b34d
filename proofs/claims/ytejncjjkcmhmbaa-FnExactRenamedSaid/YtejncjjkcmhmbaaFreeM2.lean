/- Contracts of the models of chapter 5: DefendedBy, IsAdmissible, IsStable. No conditions but that the slices have at most 2^40 elements. -/
import Derived.Test.YtejncjjkcmhmbaaMg6
import Derived.Test.YtejncjjkcmhmbaaMg3
namespace Go.Proofs.Ytejncjjkcmhmbaa
open Go.ChangeShapes Go.WideShapes Go.ChangeAt Go.RowKit
set_option maxRecDepth 100000
def defT (N : Int) (X : List (List Int)) (S : List Int) (k : Nat) : List Int := ((List.range k).filter fun (j : Nat) => defB N X S j).map fun (j : Nat) => (j : Int)
/-- What a set defends. -/
def defL (N : Int) (X : List (List Int)) (S : List Int) : List Int := if setB N X S then defT N X S N.toNat else []
theorem defT_yes {N : Int} {X : List (List Int)} {S : List Int} {k : Nat} (h : defB N X S k = true) : defT N X S (k + 1) = defT N X S k ++ [(k : Int)] := by simp [defT, List.range_succ, h]
theorem defT_no {N : Int} {X : List (List Int)} {S : List Int} {k : Nat} (h : defB N X S k = false) : defT N X S (k + 1) = defT N X S k := by simp [defT, List.range_succ, h]
theorem defT_len (N : Int) (X : List (List Int)) (S : List Int) (k : Nat) : (defT N X S k).length ≤ k := by
  unfold defT
  rw [List.length_map]
  exact Nat.le_trans (List.length_filter_le _ _) (by simp)
theorem setB_g {N : Int} {X : List (List Int)} {S : List Int} (h : setB N X S = true) : gB N X = true := by
  unfold setB at h; rw [Bool.and_eq_true] at h; exact h.1
set_option maxHeartbeats 4000000 in
theorem specDefendedBy_any {w : World} {A A' : Option Addr} {n c n' c' : Nat} {N : Int} {X : List (List Int)} {S : List Int} (hl : Hid (X.length = n)) (hn : n ≤ 1099511627776) (hr : RdSS w w.heap.size A X) (hl' : Hid (S.length = n')) (hn' : n' ≤ 1099511627776) (hr' : Rd w w.heap.size A' (ivs S)) :
    Calls Try.prog 129 #[.agg #[.int .i64 N, .slice A n c], .slice A' n' c'] w (Fresh 3 (ivs (defL N X S)) w) := by
  obtain ⟨ti, hti, hz0, hz1, hz2⟩ := info_parts IntS_info
  obtain ⟨Wa, hWa, bx0, hb1⟩ := one_graph w #[Value.int IntKind.i64 N, Value.slice A n c] 27
  have hsa : Wa.heap.size = w.heap.size + 1 := by rw [hWa]; simp
  have hb2 : Below w.heap.size w (Wa.alloc (Obj.cells #[] 3)) := hb1.alloc hb1.size _
  have hrow0 := (Row.made (w := Wa) (w.heap.size + 1) #[] 0 3 (by omega) rfl (Nat.zero_le _)).wide (hi' := (Wa.alloc (Obj.cells #[] 3)).heap.size) (Nat.le_refl _) (by simp)
  have bx1 := bx0.new ((Below.refl Wa.heap.size Wa).alloc (Nat.le_refl _) (Obj.cells #[] 3))
  obtain ⟨W1, hW⟩ : ∃ u : World, u = Wa.alloc (Obj.cells #[] 3) := ⟨_, rfl⟩
  rw [← hW] at hb2 hrow0 bx1
  rw [hsa] at hrow0
  have hWf : (w.alloc (Obj.cells #[Value.int IntKind.i64 N, Value.slice A n c] 27)).alloc (Obj.cells #[] 3) = W1 := by rw [hW, hWa]
  have HR := Lib.hid (hr.below hb2)
  have HS := Lib.hid (hr'.below hb2)
  clear hW hWa hr hr' bx0 hb1 hsa
  go_enter Try.func129, Try.ntmps129
  go_wp2_with fail
  try rw [hWf]
  clear hWf
  go_loopw [5, 6] (fun b i wr => ∃ k : Nat, k ≤ 10 ∧ i = .int .i64 k ∧ Row wr (w.heap.size + 1) wr.heap.size 3 b (ivs (defT N X S k)) ∧ Below w.heap.size w wr ∧ Bx wr w.heap.size 27 #[Value.int IntKind.i64 N, Value.slice A n c] ∧ RdSS wr w.heap.size A X ∧ Rd wr w.heap.size A' (ivs S) ∧ Hid (k = 0 ∨ (k : Int) ≤ N)) (fun _ i _ => 10 - (intOf i).toNat)
  case atStart => exact ⟨0, by omega, rfl, hrow0, hb2, bx1, HR.out, HS.out, Lib.hid (.inl rfl)⟩
  case round =>
    obtain ⟨k, hk, rfl, hrow, hbw, bxk, hrk, hsk, hkN⟩ := hrel
    obtain ⟨C0, C1⟩ := bxk.two
    have hsz := hbw.size
    by_cases hkM : (k : Int) < N
    · go_wp2_with fail
      refine (specIsSet_any (N := N) (X := X) (S := S) hl hn (hrk.more hsz) hl' hn' (hsk.more hsz)).mono ?_
      rintro e w3 ⟨rfl, hb3⟩
      have hb5 := hbw.trans (hb3.mono hsz)
      have bx3 := bxk.new hb3
      have hr3 := hrk.below (hb3.mono hsz)
      have hs3 := hsk.below (hb3.mono hsz)
      have hrow3 := (hrow.new hb3).wide (Nat.le_refl _) hb3.size
      have hz3 := hb5.size
      have hg3 := bx3.lt
      obtain ⟨D0, D1⟩ := bx3.two
      clear hrow C0 C1
      by_cases hset : setB N X S = true
      · obtain ⟨m, rfl, hm, _, _⟩ := gB_ok (setB_g hset)
        have hkm : k < 10 := by omega
        rw [hset]
        clear hset
        go_wp2_with fail
        refine (specDefends_any (N := m) (X := X) (S := S) (a := k) hl hn (hr3.more hz3) hl' hn' (hs3.more hz3)).mono ?_
        rintro e w4 ⟨rfl, hb4⟩
        have hb6 := hb5.trans (hb4.mono hz3)
        have bx4 := bx3.new hb4
        have hr4 := hr3.below (hb4.mono hz3)
        have hs4 := hs3.below (hb4.mono hz3)
        have hrow4 := (hrow3.new hb4).wide (Nat.le_refl _) hb4.size
        have hz4 := hb6.size
        have hg4 := bx4.lt
        obtain ⟨ys, hys⟩ : ∃ ys, ys = defT m X S k := ⟨_, rfl⟩
        have hyl : ys.length ≤ k := by rw [hys]; exact defT_len m X S k
        have HK := Lib.hid (show k + 1 = 0 ∨ ((k + 1 : Nat) : Int) ≤ m from .inr (by omega))
        clear hrow3 D0 D1
        by_cases hd : defB m X S k = true
        · have HT := Lib.hid (defT_yes hd)
          rw [hd]
          rw [← hys] at hrow4 HT
          have hbl : Below w4.heap.size w4 (w4.alloc (Obj.cells #[Value.int .i64 k] 3)) := (Below.refl _ _).alloc (Nat.le_refl _) _
          have hrow2 := hrow4.new hbl
          have hmade := Rd.made w4 #[Value.int .i64 k] 3
          have L : (ivs ys).length + 1 ≤ maxLen ∧ ((ivs ys).length + 1) * 8 ≤ 140737488355328 := by rw [ivs_len]; unfold maxLen; omega
          have L1 := Lib.hid L
          clear L hys hd
          go_wp2_with (at_builtin; refine wpList_app rfl (.tmp 23) (.tmp 25) 25 rfl 3 ti _ 8 Try.underlying25 hti hz0 hz1 hz2 rfl rfl rfl hrow2 rfl hmade (by simp [Value.oneCell']) L1.out.1 L1.out.2 (by simp; omega) ?_; intro v1 w1 hrow1 ho1)
          have hob := ho1.below (B := w.heap.size) (by omega) (by simp; omega)
          go_roundw
          case rel => exact ⟨k + 1, by omega, by go_num, by rw [HT.out, ← ivs_snoc_l]; exact hrow1, hb6.trans ((hbl.mono hz4).trans hob), (bx4.new hbl).out ho1 (by first | exact .inl (by omega) | exact .inr (by omega)), (hr4.below (hbl.mono hz4)).below hob, (hs4.below (hbl.mono hz4)).below hob, HK⟩
          case measure => simp [intOf]; omega
        · have hd' : defB m X S k = false := by simpa using hd
          have HT := Lib.hid (defT_no hd')
          rw [hd']
          rw [← hys] at hrow4 HT
          clear hys hd hd'
          go_wp2_with fail
          go_roundw
          case rel => exact ⟨k + 1, by omega, by go_num, by rw [HT.out]; exact hrow4, hb6, bx4, hr4, hs4, HK⟩
          case measure => simp [intOf]; omega
      · have hset' : setB N X S = false := by simpa using hset
        have HD := Lib.hid (show defT N X S k = defL N X S by
          unfold defL defT
          rw [if_neg hset]
          have hf : ∀ j : Nat, defB N X S j = false := fun j => by unfold defB; rw [hset']; rfl
          simp [hf])
        rw [hset']
        clear hset hset'
        go_wp2_with fail
        go_ret
        exact ⟨_, rfl, by rw [← HD.out]; exact hrow3.wide (by omega) (Nat.le_refl _), hb5⟩
    · have HD := Lib.hid (show defT N X S k = defL N X S by
        unfold defL
        by_cases hset : setB N X S = true
        · rw [if_pos hset]
          obtain ⟨m, rfl, _, _, _⟩ := gB_ok (setB_g hset)
          have hh := hkN.out
          have : k = (m : Int).toNat := by rcases hh with h | h <;> omega
          rw [← this]
        · have hset' : setB N X S = false := by simpa using hset
          rw [if_neg hset]
          have hf : ∀ j : Nat, defB N X S j = false := fun j => by unfold defB; rw [hset']; rfl
          simp [defT, hf])
      go_wp2_with fail
      go_ret
      exact ⟨_, rfl, by rw [← HD.out]; exact hrow.wide (by omega) (Nat.le_refl _), hbw⟩
/-- Whether a set is admissible. -/
def admB (N : Int) (X : List (List Int)) (S : List Int) : Bool := !(S.any fun z => !(defB N X S z)) && freeB N X S
end Go.Proofs.Ytejncjjkcmhmbaa
