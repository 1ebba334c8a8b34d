/- Contracts of the models l8Wins, l8Best, CanWin and BestAnswer. Condition: the slices have at most 2^39 elements. -/
import Derived.Test.YtobghogkflgpeaaAnsM
import Derived.Test.YtobghogkflgpeaaGameMath
import Derived.Test.YtobghogkflgpeaaMg3
import Derived.Test.YtobghogkflgpeaaRenMath
import Derived.Test.YtobghogkflgpeaaFreeD
import Derived.Deep.RegionHeld3
namespace Go.Proofs.Ytobghogkflgpeaa
open Go.ChangeShapes Go.WideShapes Go.ChangeAt Go.RowKit
set_option maxRecDepth 100000
theorem rd_bx {w : World} {g : Nat} {t : TypeId} {cs : Array Value} (h : Bx w g t cs) : Rd w (g + 1) (some ⟨g, 0, none⟩) cs.toList := fun j u hu => by
  refine ⟨_, rfl, Nat.lt_succ_self _, ?_⟩
  have e : (⟨g, 0, none⟩ : Addr).add j = ⟨g, j, none⟩ := by
    unfold Addr.add; split <;> simp_all
  rw [e]
  exact h.at_ (by simpa using hu)
theorem find_firstM {L : List Int} {p : Int → Bool} {k : Nat} (hk : k < L.length) (h : p L[k] = true) (hn : ∀ j (hj : j < L.length), j < k → p L[j] = false) : L.find? p = some L[k] := by
  rw [List.find?_eq_some_iff_getElem]
  exact ⟨h, k, hk, rfl, fun j hj => by rw [hn j (by omega) hj]; rfl⟩
theorem find_noM {L : List Int} {p : Int → Bool} (hn : ∀ j (hj : j < L.length), p L[j] = false) : L.find? p = none := by
  rw [List.find?_eq_none]
  intro x hx
  obtain ⟨j, hj, rfl⟩ := List.getElem_of_mem hx
  rw [hn j hj]
  simp
def frX (N : Int) (X : List (List Int)) (U : List Int) : Nat := if gB N X = true then fre N U else 0
theorem frX_less {N : Int} {X : List (List Int)} {U : List Int} {c b : Int} (h : b ∈ ansL N X U c) : frX N X (U ++ [b]) < frX N X U := by
  have hg : gB N X = true := by
    have h1 := (ansL_mem.1 h).1
    unfold atk at h1
    split at h1
    · assumption
    · simp at h1
  unfold frX
  rw [if_pos hg, if_pos hg]
  exact fre_less h
theorem frX_le (N : Int) (X : List (List Int)) (U : List Int) : frX N X U ≤ 10 := by
  unfold frX
  split
  · rename_i h; exact fre_le h U
  · exact Nat.zero_le _
def WinS (N : Int) (X : List (List Int)) (K d : Nat) : Prop := ∀ {w : World} {A A' : Option Addr} {c n' c' : Nat} {U : List Int} (a : Int), frX N X U < d → U.length + frX N X U ≤ K → Hid (U.length = n') → RdSS w w.heap.size A X → Rd w w.heap.size A' (ivs U) →
  Calls Try.prog 40 #[.agg #[.int .i64 N, .slice A X.length c], .slice A' n' c', .int .i64 a] w (Tells (winB N X U a) w)
def BestS (N : Int) (X : List (List Int)) (K d : Nat) : Prop := ∀ {w : World} {A A' : Option Addr} {c n' c' : Nat} {U : List Int} (a : Int), frX N X U < d → U.length + frX N X U ≤ K → Hid (U.length = n') → RdSS w w.heap.size A X → Rd w w.heap.size A' (ivs U) →
  Calls Try.prog 47 #[.agg #[.int .i64 N, .slice A X.length c], .slice A' n' c', .int .i64 a] w (fun e w' => e = .returned (.int .i64 (bestB N X U a)) ∧ Below w.heap.size w w')
section
variable {N : Int} {X : List (List Int)} {K d : Nat}
set_option maxHeartbeats 8000000 in
theorem wins_step (hX : X.length ≤ 1099511627776) (hB : BestS N X K d) : WinS N X K d := by
  intro w A A' c n' c' U a hd hK hl hr hr'
  obtain ⟨W1, hW, b1, hb1⟩ := one_graph w #[Value.int IntKind.i64 N, Value.slice A X.length c] 27
  have HR := Lib.hid ((hr.below hb1).more hb1.size)
  have HR' := Lib.hid ((hr'.below hb1).more hb1.size)
  have hW' := hW.symm
  have HB := Lib.hid (fun (w : World) (A A' : Option Addr) (c c' : Nat) (z : Int) (q : RdSS w w.heap.size A X) (q' : Rd w w.heap.size A' (ivs U)) => hB (w := w) (A := A) (A' := A') (c := c) (c' := c') (n' := n') z hd hK hl q q')
  have HWB := Lib.hid (win_best N X U a)
  obtain ⟨C0, C1⟩ := b1.two
  clear hr hr' hW hB hK hd
  go_enter Try.func40, Try.ntmps40
  go_wp2_with fail
  refine (specAttackersOf_any (N := N) (X := X) (c := c) (Lib.hid rfl) hX HR.out).mono ?_
  rintro e w2 ⟨v, rfl, hrow, hb2⟩
  have HLN := Lib.hid (atk_len N X a)
  obtain ⟨L, hL⟩ : ∃ L, L = atk N X a := ⟨_, rfl⟩
  rw [← hL] at hrow HWB HLN
  obtain ⟨A2, c2, rfl, _, _, _⟩ := hrow.rd (n := L.length) (ivs_len L)
  have b2 := b1.new hb2
  have hb3 := hb1.trans (hb2.mono hb1.size)
  have HR2 := Lib.hid ((HR.out.below hb2).more hb2.size)
  have HR2' := Lib.hid ((HR'.out.below hb2).more hb2.size)
  have HRW := Lib.hid hrow
  have hll := HLN.out
  clear hL hrow C0 C1 hW'
  go_wp2_with fail
  go_loopw [8] (fun i wr => ∃ k : Nat, k ≤ L.length ∧ i = .int .i64 k ∧ Below w2.heap.size w2 wr ∧ Hid (∀ j (hj : j < L.length), j < k → decide (bestB N X U L[j] < 0) = false)) (fun i _ => L.length - (intOf i).toNat)
  case atStart => exact ⟨0, Nat.zero_le _, rfl, Below.refl _ _, Lib.hid (fun j _ hj => absurd hj (Nat.not_lt_zero _))⟩
  case round =>
    obtain ⟨k, hk, rfl, hbw, hno⟩ := hrel
    have hbz := hb3.trans (hbw.mono hb3.size)
    by_cases hlt : k < L.length
    · obtain ⟨ad, rfl, hab, hc⟩ := ivs_at (HRW.out.new hbw).rd' hlt
      have HNX := Lib.hid (fun h : decide (bestB N X U L[k] < 0) = false => show ∀ j (hj : j < L.length), j < k + 1 → decide (bestB N X U L[j] < 0) = false from fun j hj hjk => by
        rcases Nat.lt_or_ge j k with h' | h'
        · exact hno.out j hj h'
        · obtain rfl : j = k := by omega
          exact h)
      have HYS := Lib.hid (fun h : decide (bestB N X U L[k] < 0) = true => show winB N X U a = false from by
        rw [HWB.out, ← Bool.not_eq_true, List.all_eq_true]
        intro hall
        have := hall _ (List.getElem_mem hlt)
        rw [h] at this
        cases this)
      obtain ⟨x, hx⟩ : ∃ x, x = L[k] := ⟨_, rfl⟩
      rw [← hx] at hc HNX HYS
      have i0 : (0 : Int) ≤ (k : Int) := by omega
      have i1 : (k : Int) < (L.length : Int) := by omega
      have had := cell_lt hc
      have KE := fun (u : World) (q : Below wr.heap.size wr u) => show Below wr.heap.size wr u ∧ u.cell? ⟨w.heap.size, 0, none⟩ = some (.int .i64 N) ∧ u.cell? ⟨w.heap.size, 1, none⟩ = some (.slice A X.length c) ∧ u.cell? (ad.add k) = some (.int .i64 x) from ⟨q, ((b2.new hbw).new q).two.1, ((b2.new hbw).new q).two.2, (q.cell (p := ad.add k) had).trans hc⟩
      have HRa := Lib.hid ((HR2.out.below hbw).more hbw.size)
      have HRb := Lib.hid ((HR2'.out.below hbw).more hbw.size)
      obtain ⟨y, hy⟩ : ∃ y, y = bestB N X U x := ⟨_, rfl⟩
      have HY := Lib.hid hy
      rw [← hy] at HNX HYS
      clear hx hy hno
      go_wp2_with fail
      go_region_held3 (fun u => Below wr.heap.size wr u ∧ u.cell? ⟨w.heap.size, 0, none⟩ = some (.int .i64 N) ∧ u.cell? ⟨w.heap.size, 1, none⟩ = some (.slice A X.length c) ∧ u.cell? (ad.add k) = some (.int .i64 x)) (first | assumption | with_reducible exact KE _ (Below.refl _ _) | with_reducible exact KE _ (Below.refl _ _).drew | with_reducible exact KE _ k9 | with_reducible exact KE _ (Below.drew k9))
        ((go_at_call 47; refine (HB.out _ _ _ _ _ x ((HRa.out.below (‹Below wr.heap.size wr _ ∧ _›).1).more (‹Below wr.heap.size wr _ ∧ _›).1.size) ((HRb.out.below (‹Below wr.heap.size wr _ ∧ _›).1).more (‹Below wr.heap.size wr _ ∧ _›).1.size)).mono ?_; rintro e u9 ⟨he, hb9⟩; rw [← HY.out] at he; subst he; have k9 := trans_new (‹Below wr.heap.size wr _ ∧ _›).1 hb9))
      have kz := trans_new hbw k9
      by_cases h0 : y < 0
      · have HV := Lib.hid (HYS.out (decide_eq_true h0))
        go_wp2_with fail
        go_ret
        exact ⟨ret_b HV.out.symm, hb3.trans (kz.mono hb3.size)⟩
      · have HV := Lib.hid (HNX.out (decide_eq_false h0))
        go_wp2_with fail
        go_roundw
        case rel => exact ⟨k + 1, by omega, by go_num, kz, HV⟩
        case measure => simp [intOf]; omega
    · have e : k = L.length := by omega
      subst e
      have HV := Lib.hid (show winB N X U a = true by
        rw [HWB.out, List.all_eq_true]
        intro z hz
        obtain ⟨j, hj, rfl⟩ := List.getElem_of_mem hz
        rw [hno.out j hj hj]
        rfl)
      go_wp2_with fail
      go_ret
      exact ⟨ret_b HV.out.symm, hbz⟩
set_option maxHeartbeats 16000000 in
theorem best_step (hX : X.length ≤ 1099511627776) (hK40 : K ≤ 1099511627000) (hW : WinS N X K d) : BestS N X K (d + 1) := by
  intro w A A' c n' c' U a hd hK hl hr hr'
  obtain ⟨ti, hti, hz0, hz1, hz2⟩ := info_parts IntS_info
  obtain ⟨W1, hW1, b1, hb1⟩ := one_graph w #[Value.int IntKind.i64 N, Value.slice A X.length c] 27
  have HR := Lib.hid ((hr.below hb1).more hb1.size)
  have HR' := Lib.hid ((hr'.below hb1).more hb1.size)
  have hW' := hW1.symm
  have HWS := Lib.hid (fun (z : Int) (hz : z ∈ ansL N X U a) (w : World) (A B : Option Addr) (c c' : Nat) (q : RdSS w w.heap.size A X) (q' : Rd w w.heap.size B (ivs (U ++ [z]))) => hW (w := w) (A := A) (A' := B) (c := c) (c' := c') (n' := n' + 1) (U := U ++ [z]) z (by have := frX_less hz; omega) (by have := frX_less hz; rw [List.length_append]; simp; omega) (Lib.hid (by rw [List.length_append, hl.out]; rfl)) q q')
  have HBV : Hid (bestB N X U a = ((ansL N X U a).find? fun b => winB N X (U ++ [b]) b).getD (-1)) := Lib.hid rfl
  have hnK : n' ≤ 1099511627000 := by have := hl.out; omega
  have HUN : Hid ((ivs U).length = n') := Lib.hid (by rw [ivs_len, hl.out])
  have HU1 : Hid (∀ u ∈ ivs U, u.oneCell' = true) := Lib.hid int_one
  have HU2 : Hid (([] : List Value).length + n' ≤ maxLen) := Lib.hid (by unfold maxLen; simp; omega)
  have HU3 : Hid ((([] : List Value).length + n') * 8 ≤ 140737488355328) := Lib.hid (by simp; omega)
  have HUL : Hid (([] ++ ivs U).length = n') := Lib.hid (by simp [ivs_len, hl.out])
  have HU4 : Hid (([] ++ ivs U).length + 1 ≤ maxLen) := Lib.hid (by unfold maxLen; simp [ivs_len, hl.out]; omega)
  have HU5 : Hid ((([] ++ ivs U).length + 1) * 8 ≤ 140737488355328) := Lib.hid (by simp [ivs_len, hl.out]; omega)
  obtain ⟨C0, C1⟩ := b1.two
  clear hr hr' hW1 hW hK hd
  go_enter Try.func47, Try.ntmps47
  go_wp2_with fail
  refine (specAnswersTo_any (N := N) (X := X) (S := U) (a := a) (c := c) (c' := c') (Lib.hid rfl) hX HR.out hl (by omega) HR'.out).mono ?_
  rintro e w2 ⟨v, rfl, hrow, hb2⟩
  have HLN := Lib.hid (show (ansL N X U a).length ≤ 10 by unfold ansL; exact Nat.le_trans (List.length_filter_le _ _) (atk_len N X a))
  obtain ⟨L, hL⟩ : ∃ L, L = ansL N X U a := ⟨_, rfl⟩
  rw [← hL] at hrow HWS HBV HLN
  obtain ⟨A2, c2, rfl, _, _, _⟩ := hrow.rd (n := L.length) (ivs_len L)
  have b2 := b1.new hb2
  have hb3 := hb1.trans (hb2.mono hb1.size)
  have HR2 := Lib.hid ((HR.out.below hb2).more hb2.size)
  have HR2' := Lib.hid ((HR'.out.below hb2).more hb2.size)
  have HRW := Lib.hid hrow
  have hll := HLN.out
  clear hL hrow C0 C1 hW'
  go_wp2_with fail
  go_loopw [8] (fun i wr => ∃ k : Nat, k ≤ L.length ∧ i = .int .i64 k ∧ Below w2.heap.size w2 wr ∧ Hid (∀ j (hj : j < L.length), j < k → winB N X (U ++ [L[j]]) L[j] = false)) (fun i _ => L.length - (intOf i).toNat)
  case atStart => exact ⟨0, Nat.zero_le _, rfl, Below.refl _ _, Lib.hid (fun j _ hj => absurd hj (Nat.not_lt_zero _))⟩
  case round =>
    obtain ⟨k, hk, rfl, hbw, hno⟩ := hrel
    have hbz := hb3.trans (hbw.mono hb3.size)
    by_cases hlt : k < L.length
    · obtain ⟨ad, rfl, hab, hc⟩ := ivs_at (HRW.out.new hbw).rd' hlt
      have HNX := Lib.hid (fun h : winB N X (U ++ [L[k]]) L[k] = false => show ∀ j (hj : j < L.length), j < k + 1 → winB N X (U ++ [L[j]]) L[j] = false from fun j hj hjk => by
        rcases Nat.lt_or_ge j k with h' | h'
        · exact hno.out j hj h'
        · obtain rfl : j = k := by omega
          exact h)
      have HYS := Lib.hid (fun h : winB N X (U ++ [L[k]]) L[k] = true => show bestB N X U a = L[k] from by
        rw [HBV.out, find_firstM (p := fun b => winB N X (U ++ [b]) b) hlt h hno.out]; rfl)
      have HWK := Lib.hid (HWS.out _ (List.getElem_mem hlt))
      obtain ⟨x, hx⟩ : ∃ x, x = L[k] := ⟨_, rfl⟩
      rw [← hx] at hc HNX HYS HWK
      have HX1 : Hid (∀ u ∈ [Value.int .i64 x], u.oneCell' = true) := Lib.hid (by simp [Value.oneCell'])
      have HUL2 : Hid (([] ++ ivs U ++ [Value.int .i64 x]).length = n' + 1) := Lib.hid (by simp [ivs_len, hl.out])
      have HUX : Hid ([] ++ ivs U ++ [Value.int .i64 x] = ivs (U ++ [x])) := Lib.hid (by simp [ivs])
      have i0 : (0 : Int) ≤ (k : Int) := by omega
      have i1 : (k : Int) < (L.length : Int) := by omega
      have had := cell_lt hc
      have KE := fun (u : World) (q : Below wr.heap.size wr u) => show (fun u => Below wr.heap.size wr u ∧ u.cell? ⟨w.heap.size, 0, none⟩ = some (.int .i64 N) ∧ u.cell? ⟨w.heap.size, 1, none⟩ = some (.slice A X.length c) ∧ u.cell? (ad.add k) = some (.int .i64 x)) u from ⟨q, ((b2.new hbw).new q).two.1, ((b2.new hbw).new q).two.2, (q.cell (p := ad.add k) had).trans hc⟩
      have HRa := Lib.hid ((HR2.out.below hbw).more hbw.size)
      have HRb := Lib.hid ((HR2'.out.below hbw).more hbw.size)
      have r20 := Row.made (w := wr) wr.heap.size #[] 0 3 (Nat.le_refl _) rfl (Nat.zero_le _)
      have kA := alloc_new (wr.alloc (Obj.cells #[] 3)) (Obj.cells #[.int .i64 x] 3)
      have r2027 := r20.new kA
      have x2027 := Bx.made (wr.alloc (Obj.cells #[] 3)) 3 #[.int .i64 x]
      have kB := alloc_new (wr.alloc (Obj.cells #[.int .i64 x] 3)) (Obj.cells #[] 3)
      have r27 := Row.made (w := wr.alloc (Obj.cells #[.int .i64 x] 3)) (wr.heap.size + 1) #[] 0 3 (by simp) rfl (Nat.zero_le _)
      have x27 := (Bx.made wr 3 #[.int .i64 x]).new kB
      rw [show (wr.alloc (Obj.cells #[] 3)).heap.size = wr.heap.size + 1 by simp] at x2027
      rw [show (wr.alloc (Obj.cells #[.int .i64 x] 3)).heap.size = wr.heap.size + 1 by simp] at r27
      have q20 : Below wr.heap.size wr (wr.alloc (Obj.cells #[] 3)) := alloc_new _ _
      have q2027 : Below wr.heap.size wr ((wr.alloc (Obj.cells #[] 3)).alloc (Obj.cells #[.int .i64 x] 3)) := q20.alloc q20.size _
      have q27 : Below wr.heap.size wr (wr.alloc (Obj.cells #[.int .i64 x] 3)) := alloc_new _ _
      have q2720 : Below wr.heap.size wr ((wr.alloc (Obj.cells #[.int .i64 x] 3)).alloc (Obj.cells #[] 3)) := q27.alloc q27.size _
      have H20 := Lib.hid r20
      have H2027 := Lib.hid r2027
      have H27 := Lib.hid r27
      have HX2027 := Lib.hid x2027
      have HX27 := Lib.hid x27
      obtain ⟨y, hy⟩ : ∃ y, y = winB N X (U ++ [x]) x := ⟨_, rfl⟩
      rw [← hy] at HNX HYS HWK
      clear hx hy hno r20 r2027 r27 x2027 x27 kA kB
      go_wp2_with fail
      go_region_held3 (fun u => Below wr.heap.size wr u ∧ u.cell? ⟨w.heap.size, 0, none⟩ = some (.int .i64 N) ∧ u.cell? ⟨w.heap.size, 1, none⟩ = some (.slice A X.length c) ∧ u.cell? (ad.add k) = some (.int .i64 x)) (first | assumption | with_reducible exact KE _ (Below.refl _ _) | with_reducible exact KE _ (Below.refl _ _).drew | with_reducible exact KE _ k9 | with_reducible exact KE _ k28 | with_reducible exact KE _ k22 | with_reducible exact KE _ q20.drew | with_reducible exact KE _ q2027.drew | with_reducible exact KE _ q27.drew | with_reducible exact KE _ q2720.drew | exact KE _ (k22.alloc k22.size _) | exact KE _ q20.drew | exact KE _ q2027.drew | exact KE _ q27.drew | exact KE _ q2720.drew)
        (first
        | (refine step_app rfl (.tmp 20) (.tmp 21) 31 rfl 3 ti _ 8 Try.underlying31 hti hz0 hz1 hz2 rfl (v := .slice (some ⟨wr.heap.size, 0, none⟩) 0 0) (A := A') (m := n') (c := c') (by simp [Act.eval]) (by simp [Act.eval]) (lo := wr.heap.size) (hi' := wr.heap.size + 1) (xs := []) (by first | exact H20.out | exact H20.out.drewN 1 | exact H2027.out | exact H2027.out.drewN 1) HUN.out ((HRb.out.below (‹Below wr.heap.size wr _ ∧ _›).1).more (‹Below wr.heap.size wr _ ∧ _›).1.size) HU1.out HU2.out HU3.out (by first | exact (‹Below wr.heap.size wr _ ∧ _›).1.size) ?_; intro v22 w22 row22 o22; have k22 := (‹Below wr.heap.size wr _ ∧ _›).1.trans (o22.below (Nat.le_refl _) (‹Below wr.heap.size wr _ ∧ _›).1.size); obtain ⟨A22, c22, rfl, _, _, _⟩ := row22.rd (n := n') HUL.out)
        | (refine step_app rfl (.tmp 20) (.tmp 21) 31 rfl 3 ti _ 8 Try.underlying31 hti hz0 hz1 hz2 rfl (v := .slice (some ⟨wr.heap.size + 1, 0, none⟩) 0 0) (A := A') (m := n') (c := c') (by simp [Act.eval]) (by simp [Act.eval]) (lo := wr.heap.size + 1) (hi' := wr.heap.size + 2) (xs := []) (by first | exact H27.out | exact H27.out.drewN 1) HUN.out ((HRb.out.below (‹Below wr.heap.size wr _ ∧ _›).1).more (‹Below wr.heap.size wr _ ∧ _›).1.size) HU1.out HU2.out HU3.out (by simp) ?_; intro v22 w22 row22 o22; have k22 := (‹Below wr.heap.size wr _ ∧ _›).1.trans (o22.below (Nat.le_succ _) (‹Below wr.heap.size wr _ ∧ _›).1.size); obtain ⟨A22, c22, rfl, _, _, _⟩ := row22.rd (n := n') HUL.out)
        | (refine step_app rfl (.tmp 22) (.tmp 27) 31 rfl 3 ti _ 8 Try.underlying31 hti hz0 hz1 hz2 rfl (v := .slice A22 n' c22) (A := some ⟨w22.heap.size, 0, none⟩) (m := 1) (c := 1) (by simp [Act.eval]) (by simp [Act.eval]) (row22.new (alloc_new w22 (Obj.cells #[.int .i64 x] 3))) rfl (Rd.made w22 #[.int .i64 x] 3) HX1.out HU4.out HU5.out (by first | exact Nat.le_refl _ | (have := k22.size; simp; omega) | (have := k22.size; omega) | (have := o22.size; simp at this; omega) | (have := o22.size; simp at this ⊢; omega)) ?_; intro v28 w28 row28 o28; have k28 := (‹Below wr.heap.size wr _ ∧ _›).1.trans (o28.below (by omega) (‹Below wr.heap.size wr _ ∧ _›).1.size); obtain ⟨A28, c28, rfl, hr28, _, _⟩ := row28.rd (n := n' + 1) HUL2.out)
        | (refine step_app rfl (.tmp 22) (.tmp 27) 31 rfl 3 ti _ 8 Try.underlying31 hti hz0 hz1 hz2 rfl (v := .slice A22 n' c22) (A := some ⟨wr.heap.size + 1, 0, none⟩) (m := 1) (c := 1) (by simp [Act.eval]) (by simp [Act.eval]) row22 rfl (by first | exact rd_bx (HX2027.out.drew_.out o22 (.inr (Nat.le_refl _))) | exact rd_bx (HX2027.out.out o22 (.inr (Nat.le_refl _)))) HX1.out HU4.out HU5.out (by first | exact Nat.le_refl _ | (have := k22.size; simp; omega) | (have := k22.size; omega) | (have := o22.size; simp at this; omega) | (have := o22.size; simp at this ⊢; omega)) ?_; intro v28 w28 row28 o28; have k28 := (‹Below wr.heap.size wr _ ∧ _›).1.trans (o28.below (by omega) (‹Below wr.heap.size wr _ ∧ _›).1.size); obtain ⟨A28, c28, rfl, hr28, _, _⟩ := row28.rd (n := n' + 1) HUL2.out)
        | (refine step_app rfl (.tmp 22) (.tmp 27) 31 rfl 3 ti _ 8 Try.underlying31 hti hz0 hz1 hz2 rfl (v := .slice A22 n' c22) (A := some ⟨wr.heap.size, 0, none⟩) (m := 1) (c := 1) (by simp [Act.eval]) (by simp [Act.eval]) row22 rfl (by first | exact rd_bx (HX27.out.drew_.out o22 (.inl (Nat.lt_succ_self _))) | exact rd_bx (HX27.out.out o22 (.inl (Nat.lt_succ_self _)))) HX1.out HU4.out HU5.out (by first | exact Nat.le_refl _ | (have := k22.size; simp; omega) | (have := k22.size; omega) | (have := o22.size; simp at this; omega) | (have := o22.size; simp at this ⊢; omega)) ?_; intro v28 w28 row28 o28; have k28 := (‹Below wr.heap.size wr _ ∧ _›).1.trans (o28.below (by omega) (‹Below wr.heap.size wr _ ∧ _›).1.size); obtain ⟨A28, c28, rfl, hr28, _, _⟩ := row28.rd (n := n' + 1) HUL2.out)
        | (go_at_call 40; rw [HUX.out] at hr28; refine (HWK.out _ _ _ _ _ ((HRa.out.below k28).more k28.size) hr28).mono ?_; rintro e u9 ⟨rfl, hb9⟩; have k9 := trans_new k28 hb9))
      all_goals
        have kz := trans_new hbw k9
        obtain ⟨_, _, _, hcz⟩ := KE _ k9
        clear hr28 o22 o28 row22 row28 k22 k28
        cases y with
        | true =>
          have HV := Lib.hid (HYS.out rfl)
          go_wp2_with fail
          go_ret
          exact ⟨ret_i HV.out.symm, hb3.trans (kz.mono hb3.size)⟩
        | false =>
          have HV := Lib.hid (HNX.out rfl)
          go_wp2_with fail
          go_roundw
          case rel => exact ⟨k + 1, by omega, by go_num, kz, HV⟩
          case measure => simp [intOf]; omega
    · have e : k = L.length := by omega
      subst e
      have HE := Lib.hid (show bestB N X U a = -1 by rw [HBV.out, find_noM (p := fun b => winB N X (U ++ [b]) b) (fun j hj => hno.out j hj hj)]; rfl)
      go_wp2_with fail
      go_ret
      exact ⟨ret_i HE.out.symm, hbz⟩
theorem wins_all (hX : X.length ≤ 1099511627776) (hK40 : K ≤ 1099511627000) : ∀ d, BestS N X K d ∧ WinS N X K d
  | 0 => ⟨fun _ hd => absurd hd (Nat.not_lt_zero _), fun _ hd => absurd hd (Nat.not_lt_zero _)⟩
  | d + 1 => by
    have h0 : WinS N X K d := @(wins_all hX hK40 d).2
    have h : BestS N X K (d + 1) := @best_step N X K d hX hK40 @h0
    exact ⟨@h, @wins_step N X K (d + 1) hX @h⟩
end
section
variable {w : World} {A A' : Option Addr} {n c n' c' : Nat} {N : Int} {X : List (List Int)} {a : Int} {S : List Int}
set_option maxHeartbeats 4000000 in
theorem specCanWin_any (hl : Hid (X.length = n)) (hn : n ≤ 1099511627776) (hr : RdSS w w.heap.size A X) :
    Calls Try.prog 8 #[.agg #[.int .i64 N, .slice A n c], .int .i64 a] w (Tells (canW N X a) w) := by
  have hXl : X.length ≤ 1099511627776 := by rw [hl.out]; exact hn
  obtain rfl : X.length = n := hl.out
  obtain ⟨W1, hW, b1, hb1⟩ := one_graph w #[Value.int IntKind.i64 N, Value.slice A X.length c] 27
  have HR := Lib.hid ((hr.below hb1).more hb1.size)
  have hW' := hW.symm
  obtain ⟨C0, C1⟩ := b1.two
  clear hr hW
  by_cases hg : gB N X = true
  case neg =>
    have HG : Hid (gB N X = false) := Lib.hid (by simpa using hg)
    have HV := Lib.hid (show canW N X a = false by unfold canW; rw [HG.out]; rfl)
    clear hg
    go_enter Try.func8, Try.ntmps8
    go_wp2_with fail
    refine (specIsGraph_any (N := N) (X := X) (c := c) (Lib.hid rfl) hn HR.out).mono ?_
    rintro e w2 ⟨rfl, hb2⟩
    rw [HG.out]
    go_wp2_with fail
    go_ret
    exact ⟨ret_b HV.out.symm, hb1.trans (hb2.mono hb1.size)⟩
  case pos =>
    have HG := Lib.hid hg
    obtain ⟨m, rfl, hm, _⟩ := gB_ok hg
    clear hg
    by_cases hi : inr a 0 ((m : Int) - 1) = true
    case neg =>
      have HI : Hid (inr a 0 ((m : Int) - 1) = false) := Lib.hid (by simpa using hi)
      have HV := Lib.hid (show canW m X a = false by unfold canW; rw [HI.out]; simp)
      clear hi
      go_enter Try.func8, Try.ntmps8
      go_wp2_with fail
      refine (specIsGraph_any (N := m) (X := X) (c := c) (Lib.hid rfl) hn HR.out).mono ?_
      rintro e w2 ⟨rfl, hb2⟩
      rw [HG.out]
      obtain ⟨D0, D1⟩ := (b1.new hb2).two
      go_wp2_with (go_at_call 39; refine (l1In_any _ _ _ _).mono ?_; rintro e u9 ⟨he, rfl⟩; rw [HI.out] at he; subst he)
      go_ret
      exact ⟨ret_b HV.out.symm, hb1.trans (hb2.mono hb1.size)⟩
    case pos =>
      have HI := Lib.hid hi
      have HV := Lib.hid (show canW m X a = winB m X [a] a by unfold canW; rw [HG.out, HI.out]; rfl)
      clear hi
      go_enter Try.func8, Try.ntmps8
      go_wp2_with fail
      refine (specIsGraph_any (N := m) (X := X) (c := c) (Lib.hid rfl) hn HR.out).mono ?_
      rintro e w2 ⟨rfl, hb2⟩
      rw [HG.out]
      have hb3 := hb1.trans (hb2.mono hb1.size)
      obtain ⟨D0, D1⟩ := (b1.new hb2).two
      have k4 := alloc_new w2 (Obj.cells #[.int .i64 a] 3)
      have hra := Rd.made w2 #[.int .i64 a] 3
      have hb5 := hb3.trans (k4.mono hb3.size)
      have HR4 := Lib.hid ((((HR.out.below hb2).more hb2.size).below k4).more k4.size)
      have HRA := Lib.hid (show Rd (w2.alloc (Obj.cells #[.int .i64 a] 3)) (w2.alloc (Obj.cells #[.int .i64 a] 3)).heap.size (some ⟨w2.heap.size, 0, none⟩) (ivs [a]) from hra.more (by simp))
      clear k4 hra
      go_wp2_with (go_at_call 39; refine (l1In_any _ _ _ _).mono ?_; rintro e u9 ⟨he, rfl⟩; rw [HI.out] at he; subst he)
      have hfr := frX_le m X [a]
      refine ((wins_all (N := m) (X := X) (K := 1000) hn (by omega) 11).2 (U := [a]) (n' := 1) a (by omega) (by simp; omega) (Lib.hid rfl) HR4.out HRA.out).mono ?_
      rintro e w6 ⟨rfl, hb6⟩
      go_wp2_with fail
      go_ret
      exact ⟨ret_b HV.out.symm, hb5.trans (hb6.mono hb5.size)⟩
set_option maxHeartbeats 4000000 in
theorem specBestAnswer_any (hl : Hid (X.length = n)) (hn : n ≤ 1099511627776) (hr : RdSS w w.heap.size A X) (hl' : Hid (S.length = n')) (hn' : n' ≤ 549755813888) (hr' : Rd w w.heap.size A' (ivs S)) :
    Calls Try.prog 12 #[.agg #[.int .i64 N, .slice A n c], .slice A' n' c', .int .i64 a] w (fun e w' => e = .returned (.int .i64 (bestB N X S a)) ∧ Below w.heap.size w w') := by
  have hXl : X.length ≤ 1099511627776 := by rw [hl.out]; exact hn
  obtain rfl : X.length = n := hl.out
  obtain ⟨W1, hW, b1, hb1⟩ := one_graph w #[Value.int IntKind.i64 N, Value.slice A X.length c] 27
  have HR := Lib.hid ((hr.below hb1).more hb1.size)
  have HR' := Lib.hid ((hr'.below hb1).more hb1.size)
  have hW' := hW.symm
  obtain ⟨C0, C1⟩ := b1.two
  have HC : Hid (Calls Try.prog 47 #[.agg #[.int .i64 N, .slice A X.length c], .slice A' n' c', .int .i64 a] W1 (fun e w' => e = .returned (.int .i64 (bestB N X S a)) ∧ Below W1.heap.size W1 w')) := by
    refine Lib.hid ?_
    have h10 := frX_le N X S
    exact (wins_all (N := N) (X := X) (K := 549755813898) hn (by omega) 11).1 a (by omega) (by rw [hl'.out]; omega) hl' HR.out HR'.out
  clear hr hr' hW
  go_enter Try.func12, Try.ntmps12
  go_wp2_with fail
  refine HC.out.mono ?_
  rintro e w2 ⟨rfl, hb2⟩
  go_wp2_with fail
  go_ret
  exact ⟨rfl, hb1.trans (hb2.mono hb1.size)⟩
end
end Go.Proofs.Ytobghogkflgpeaa
