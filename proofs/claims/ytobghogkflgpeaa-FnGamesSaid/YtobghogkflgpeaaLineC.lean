/- Contracts of the code's usedOn and IsLine. Conditions: the slices have at most 2^40 elements. -/
import Derived.Test.YtobghogkflgpeaaMg31
import Derived.Test.YtobghogkflgpeaaMg32
import Derived.Test.YtobghogkflgpeaaMg20
import Derived.Test.YtobghogkflgpeaaMg9
import Derived.Test.YtobghogkflgpeaaMg18
import Derived.BigQuiet
import Derived.Deep.Quiet
namespace Go.Proofs.Ytobghogkflgpeaa
open Go.ChangeShapes Go.WideShapes Go.ChangeAt Go.RowKit
set_option maxRecDepth 100000
theorem ivs_app1 (zs : List Int) (x : Int) : ivs (zs ++ [x]) = ivs zs ++ [Value.int .i64 x] := by simp [ivs]
theorem getI_at {L : List Int} {k : Nat} (h : k < L.length) : L.getD k 0 = L[k] := by simp [List.getD, h]
set_option maxHeartbeats 4000000 in
theorem usedOn_any {w : World} {A : Option Addr} {n c : Nat} {L : List Int} (hl : Hid (L.length = n)) (hn : n ≤ 1099511627776) (hr : Rd w w.heap.size A (ivs L)) :
    Calls Try.prog 58 #[.slice A n c] w (Fresh 3 (ivs (usd L ((n + 1) / 2))) w) := by
  obtain ⟨i0, hi, hy0, hy1, hy2⟩ := info_parts IntS_info
  go_enter Try.func58, Try.ntmps58
  have hrow0 := Row.made (w := w) w.heap.size #[] 0 3 (Nat.le_refl _) rfl (Nat.zero_le _)
  have hb0 := alloc_new w (Obj.cells #[] 3)
  go_wp2_with fail
  go_loopw [3, 4] (fun b i wr => ∃ j : Nat, 2 * j ≤ n + 1 ∧ i = .int .i64 ((2 * j : Nat) : Int) ∧ Row wr w.heap.size wr.heap.size 3 b (ivs (usd L j)) ∧ Below w.heap.size w wr) (fun _ i _ => n + 1 - (intOf i).toNat)
  case atStart => exact ⟨0, Nat.zero_le _, rfl, hrow0.wide (Nat.le_refl _) (by simp), hb0⟩
  case round =>
    obtain ⟨j, hj, rfl, hrow, hbw⟩ := hrel
    have hsz := hbw.size
    clear hrow0 hb0
    obtain ⟨k, hk⟩ : ∃ k, k = 2 * j := ⟨_, rfl⟩
    rw [← hk] at hj ⊢
    by_cases hlt : k < n
    · have hkz : k < L.length := by rw [hl.out]; exact hlt
      obtain ⟨ad, rfl, hab, hc⟩ := ivs_at (hr.below hbw) hkz
      have HE := Lib.hid (show ivs (usd L (j + 1)) = ivs (usd L j) ++ [Value.int .i64 L[k]] by
        rw [usd_succ, ivs_app1, ← hk, getI_at hkz])
      obtain ⟨x, hx⟩ : ∃ x, x = L[k] := ⟨_, rfl⟩
      rw [← hx] at hc HE
      have L1 := Lib.hid (show (ivs (usd L j)).length + 1 ≤ maxLen ∧ ((ivs (usd L j)).length + 1) * 8 ≤ 140737488355328 by rw [ivs_len, usd_len]; unfold maxLen; omega)
      obtain ⟨Ab, cb, rfl, hrd, hnc, hcm⟩ := hrow.rd (n := j) (by rw [ivs_len, usd_len])
      have hrow2 := hrow.new (alloc_new wr (Obj.cells #[.int .i64 x] 3))
      have hmade := Rd.made wr #[.int .i64 x] 3
      have hba := hbw.alloc (B := w.heap.size) hsz (Obj.cells #[.int .i64 x] 3)
      have HK := Lib.hid hk
      clear hx hrd hrow hk
      go_wp2_with (at_builtin; refine wpList_app rfl (.tmp 12) (.tmp 17) 31 rfl 3 i0 _ 8 Try.underlying31 hi hy0 hy1 hy2 rfl rfl rfl hrow2 rfl hmade (by simp [Value.oneCell']) L1.out.1 L1.out.2 (by simp; omega) ?_; intro v1 w1 hrow1 ho1)
      go_roundw
      case rel => exact ⟨j + 1, by have := HK.out; omega, by have := HK.out; go_num, by rw [HE.out]; exact hrow1, hba.trans (ho1.below (Nat.le_refl _) (by simp; omega))⟩
      case measure => simp [intOf]; omega
    · have HJ := Lib.hid (show j = (n + 1) / 2 by omega)
      clear hk
      go_wp2_with fail
      go_ret
      exact ⟨_, rfl, by rw [← HJ.out]; exact hrow, hbw⟩
theorem bx_two_new {W w' : World} {g : Nat} {t : TypeId} {a b : Value} (k : Bx W g t #[a, b]) (hb : Below W.heap.size W w') : Below W.heap.size W w' ∧ w'.cell? ⟨g, 0, none⟩ = some a ∧ w'.cell? ⟨g, 1, none⟩ = some b := ⟨hb, (k.new hb).two.1, (k.new hb).two.2⟩
section
variable {w : World} {A A' : Option Addr} {n c n' c' : Nat} {N : Int} {X : List (List Int)} {L : List Int}
set_option maxHeartbeats 4000000 in
theorem isLine_A (hX : gB N X = false) (hl : Hid (X.length = n)) (hn : n ≤ 1099511627776) (hr : RdSS w w.heap.size A X) :
    Calls Try.prog 24 #[.agg #[.int .i64 N, .slice A n c], .slice A' n' c'] w (Tells (lineB N X L) w) := by
  have hb1 := alloc_new w (Obj.cells #[Value.int IntKind.i64 N, Value.slice A n c] 27)
  have bx1 := Bx.made w 27 #[Value.int IntKind.i64 N, Value.slice A n c]
  obtain ⟨W1, hW⟩ : ∃ u : World, u = w.alloc (Obj.cells #[Value.int IntKind.i64 N, Value.slice A n c] 27) := ⟨_, rfl⟩
  rw [← hW] at hb1 bx1
  have hW' := hW.symm
  have HR := Lib.hid ((hr.below hb1).more hb1.size)
  have HX := Lib.hid hX
  have HV := Lib.hid (line_g (L := L) hX)
  have KE := fun (w' : World) (k : Below W1.heap.size W1 w') => bx_two_new bx1 k
  obtain ⟨C0, C1⟩ := bx1.two
  clear hW hr hX
  go_enter Try.func24, Try.ntmps24
  go_wp2_with fail
  refine wp_region_quiet (C := fun w' => Below W1.heap.size W1 w' ∧ w'.cell? ⟨w.heap.size, 0, none⟩ = some (.int .i64 N) ∧ w'.cell? ⟨w.heap.size, 1, none⟩ = some (.slice A n c)) (by kernel_rfl) (by kernel_rfl) (KE _ (Below.refl W1.heap.size W1).drew) ?_
  rw [List.toList_toArray]
  go_big_quiet_want
  apply Exists.intro
  refine ⟨fun u hu => ?_, ?_⟩
  · obtain ⟨hu0, hu1, hu2⟩ := hu
    unfold Oper.quietAt
    go_simp
    try rfl
  simp only [Act.put, List.setIfInBounds_toArray, List.set_cons_zero, List.set_cons_succ]
  go_big_quiet_on
  go_big_quiet_want
  refine ⟨.bool false, fun u hu => ?_, ?_⟩
  · have hu0 := hu.1
    unfold Oper.quietAt
    go_simp
    refine (impIsGraph_any (N := N) (X := X) (c := c) hl hn ((HR.out.below hu0).more hu0.size)).mono ?_
    rintro e u9 ⟨he, hb9⟩
    rw [HX.out] at he
    exact ⟨he, KE _ (trans_new hu0 hb9)⟩
  simp only [Act.put, List.setIfInBounds_toArray, List.set_cons_zero, List.set_cons_succ]
  go_big_quiet_on
  go_big_quiet_want
  apply Exists.intro
  refine ⟨fun u hu => ?_, ?_⟩
  · obtain ⟨hu0, hu1, hu2⟩ := hu
    unfold Oper.quietAt
    go_simp
    try rfl
  simp only [Act.put, List.setIfInBounds_toArray, List.set_cons_zero, List.set_cons_succ]
  go_big_quiet_on
  go_big_quiet_want
  go_big_quiet_op
  go_big_quiet_on
  repeat go_big_quiet_skip
  go_big_quiet_want
  apply Exists.intro
  refine ⟨fun u hu => ?_, ?_⟩
  · obtain ⟨hu0, hu1, hu2⟩ := hu
    unfold Oper.quietAt
    go_simp
    try rfl
  simp only [Act.put, List.setIfInBounds_toArray, List.set_cons_zero, List.set_cons_succ]
  go_big_quiet_on
  go_big_quiet_want
  go_big_quiet_op
  go_big_quiet_on
  repeat go_big_quiet_skip
  go_big_quiet_want
  apply Exists.intro
  refine ⟨fun u hu => ?_, ?_⟩
  · obtain ⟨hu0, hu1, hu2⟩ := hu
    unfold Oper.quietAt
    go_simp
    try rfl
  simp only [Act.put, List.setIfInBounds_toArray, List.set_cons_zero, List.set_cons_succ]
  go_big_quiet_on
  refine wpQuiet_nil ?_
  rintro u ⟨k9, _, _⟩
  go_wp2_with fail
  go_ret
  exact ⟨ret_b HV.out.symm, hb1.trans (k9.mono hb1.size)⟩
set_option maxHeartbeats 4000000 in
theorem isLine_C (hX : gB N X = true) (hl : Hid (X.length = n)) (hn : n ≤ 1099511627776) (hr : RdSS w w.heap.size A X) (hl' : Hid (L.length = n')) (hn' : n' ≤ 1099511627776) (hr' : Rd w w.heap.size A' (ivs L)) (h0 : 0 < n') (hi : inr (L.getD 0 0) 0 (N - 1) = false) :
    Calls Try.prog 24 #[.agg #[.int .i64 N, .slice A n c], .slice A' n' c'] w (Tells (lineB N X L) w) := by
  have hkz : 0 < L.length := by rw [hl'.out]; exact h0
  have HV := Lib.hid (line_bad (N := N) (X := X) (L := L) (i := 0) hkz (by unfold stpB; rw [hi]; rfl))
  have hb1 := alloc_new w (Obj.cells #[Value.int IntKind.i64 N, Value.slice A n c] 27)
  have bx1 := Bx.made w 27 #[Value.int IntKind.i64 N, Value.slice A n c]
  obtain ⟨W1, hW⟩ : ∃ u : World, u = w.alloc (Obj.cells #[Value.int IntKind.i64 N, Value.slice A n c] 27) := ⟨_, rfl⟩
  rw [← hW] at hb1 bx1
  have hW' := hW.symm
  have HR := Lib.hid ((hr.below hb1).more hb1.size)
  have HX := Lib.hid hX
  obtain ⟨m, rfl, hm, _⟩ := gB_ok hX
  obtain ⟨ad, rfl, hab, hc⟩ := ivs_at (hr'.below hb1) hkz
  rw [getI_at hkz] at hi
  rw [show ad.add 0 = ad by simp [Addr.add]] at hc
  obtain ⟨x, hx⟩ : ∃ x, x = L[0] := ⟨_, rfl⟩
  rw [← hx] at hc hi
  have HI := Lib.hid hi
  have KE := fun (w' : World) (k : Below W1.heap.size W1 w') => show Below W1.heap.size W1 w' ∧ w'.cell? ⟨w.heap.size, 0, none⟩ = some (.int .i64 m) ∧ w'.cell? ⟨w.heap.size, 1, none⟩ = some (.slice A n c) ∧ w'.cell? ad = some (.int .i64 x) from ⟨k, (bx_two_new bx1 k).2.1, (bx_two_new bx1 k).2.2, (k.cell (p := ad) (by have := hb1.size; omega)).trans hc⟩
  obtain ⟨C0, C1⟩ := bx1.two
  have i0' : (0 : Int) < (n' : Int) := by omega
  have hne : ((n' : Int) == 0) = false := by simpa using (show ¬ n' = 0 by omega)
  clear hW hr hX hi hx
  go_enter Try.func24, Try.ntmps24
  go_wp2_with fail
  go_region_held3 (fun w' => Below W1.heap.size W1 w' ∧ w'.cell? ⟨w.heap.size, 0, none⟩ = some (.int .i64 m) ∧ w'.cell? ⟨w.heap.size, 1, none⟩ = some (.slice A n c) ∧ w'.cell? ad = some (.int .i64 x)) (first | assumption | with_reducible exact KE _ (Below.refl _ _) | with_reducible exact KE _ (Below.refl _ _).drew | with_reducible exact KE _ k9 | with_reducible exact KE _ (Below.drew k9))
    (first
    | (go_at_call 42; (with_reducible refine (impIsGraph_any (N := m) (X := X) (c := c) hl hn ((HR.out.below (‹Below W1.heap.size W1 _ ∧ _›).1).more (‹Below W1.heap.size W1 _ ∧ _›).1.size)).mono ?_); rintro e u9 ⟨he, hb9⟩; rw [HX.out] at he; subst he; have k9 := trans_new (‹Below W1.heap.size W1 _ ∧ _›).1 hb9)
    | (go_at_call 43; (with_reducible refine (isClaim_any (n := m) (c := x) (by omega) (by omega)).mono ?_); rintro e u9 ⟨he, rfl⟩; rw [HI.out] at he; subst he; have k9 := (‹Below W1.heap.size W1 _ ∧ _›).1))
  all_goals
    go_wp2_with fail
    go_ret
    exact ⟨ret_b HV.out.symm, hb1.trans (k9.mono hb1.size)⟩
set_option maxHeartbeats 4000000 in
theorem isLine_B (hX : gB N X = true) (hl : Hid (X.length = n)) (hn : n ≤ 1099511627776) (hr : RdSS w w.heap.size A X) (hL : L.length = 0) :
    Calls Try.prog 24 #[.agg #[.int .i64 N, .slice A n c], .slice A' 0 c'] w (Tells (lineB N X L) w) := by
  have hb1 := alloc_new w (Obj.cells #[Value.int IntKind.i64 N, Value.slice A n c] 27)
  have bx1 := Bx.made w 27 #[Value.int IntKind.i64 N, Value.slice A n c]
  obtain ⟨W1, hW⟩ : ∃ u : World, u = w.alloc (Obj.cells #[Value.int IntKind.i64 N, Value.slice A n c] 27) := ⟨_, rfl⟩
  rw [← hW] at hb1 bx1
  have hW' := hW.symm
  have HR := Lib.hid ((hr.below hb1).more hb1.size)
  have HX := Lib.hid hX
  have HV := Lib.hid (line_nil (N := N) (X := X) hL)
  have KE := fun (w' : World) (k : Below W1.heap.size W1 w') => bx_two_new bx1 k
  obtain ⟨C0, C1⟩ := bx1.two
  clear hW hr hX hL
  go_enter Try.func24, Try.ntmps24
  go_wp2_with fail
  refine wp_region_quiet (C := fun w' => Below W1.heap.size W1 w' ∧ w'.cell? ⟨w.heap.size, 0, none⟩ = some (.int .i64 N) ∧ w'.cell? ⟨w.heap.size, 1, none⟩ = some (.slice A n c)) (by kernel_rfl) (by kernel_rfl) (KE _ (Below.refl W1.heap.size W1).drew) ?_
  rw [List.toList_toArray]
  go_big_quiet_want
  apply Exists.intro
  refine ⟨fun u hu => ?_, ?_⟩
  · obtain ⟨hu0, hu1, hu2⟩ := hu
    unfold Oper.quietAt
    go_simp
    try rfl
  simp only [Act.put, List.setIfInBounds_toArray, List.set_cons_zero, List.set_cons_succ]
  go_big_quiet_on
  go_big_quiet_want
  refine ⟨.bool true, fun u hu => ?_, ?_⟩
  · have hu0 := hu.1
    unfold Oper.quietAt
    go_simp
    refine (impIsGraph_any (N := N) (X := X) (c := c) hl hn ((HR.out.below hu0).more hu0.size)).mono ?_
    rintro e u9 ⟨he, hb9⟩
    rw [HX.out] at he
    exact ⟨he, KE _ (trans_new hu0 hb9)⟩
  simp only [Act.put, List.setIfInBounds_toArray, List.set_cons_zero, List.set_cons_succ]
  go_big_quiet_on
  go_big_quiet_want
  apply Exists.intro
  refine ⟨fun u hu => ?_, ?_⟩
  · obtain ⟨hu0, hu1, hu2⟩ := hu
    unfold Oper.quietAt
    go_simp
    try rfl
  simp only [Act.put, List.setIfInBounds_toArray, List.set_cons_zero, List.set_cons_succ]
  go_big_quiet_on
  go_big_quiet_want
  go_big_quiet_op
  go_big_quiet_on
  go_big_quiet_want
  go_big_quiet_op
  go_big_quiet_on
  go_big_quiet_want
  apply Exists.intro
  refine ⟨fun u hu => ?_, ?_⟩
  · obtain ⟨hu0, hu1, hu2⟩ := hu
    unfold Oper.quietAt
    go_simp
    try rfl
  simp only [Act.put, List.setIfInBounds_toArray, List.set_cons_zero, List.set_cons_succ]
  go_big_quiet_on
  go_big_quiet_want
  apply Exists.intro
  refine ⟨fun u hu => ?_, ?_⟩
  · obtain ⟨hu0, hu1, hu2⟩ := hu
    unfold Oper.quietAt
    go_simp
    try rfl
  simp only [Act.put, List.setIfInBounds_toArray, List.set_cons_zero, List.set_cons_succ]
  go_big_quiet_on
  go_big_quiet_want
  apply Exists.intro
  refine ⟨fun u hu => ?_, ?_⟩
  · obtain ⟨hu0, hu1, hu2⟩ := hu
    unfold Oper.quietAt
    go_simp
    try rfl
  simp only [Act.put, List.setIfInBounds_toArray, List.set_cons_zero, List.set_cons_succ]
  go_big_quiet_on
  go_big_quiet_want
  go_big_quiet_op
  go_big_quiet_on
  repeat go_big_quiet_skip
  go_big_quiet_want
  apply Exists.intro
  refine ⟨fun u hu => ?_, ?_⟩
  · obtain ⟨hu0, hu1, hu2⟩ := hu
    unfold Oper.quietAt
    go_simp
    try rfl
  simp only [Act.put, List.setIfInBounds_toArray, List.set_cons_zero, List.set_cons_succ]
  go_big_quiet_on
  refine wpQuiet_nil ?_
  rintro u ⟨k9, _, _⟩
  go_wp2_with fail
  go_ret
  exact ⟨ret_b HV.out.symm, hb1.trans (k9.mono hb1.size)⟩
end
end Go.Proofs.Ytobghogkflgpeaa
