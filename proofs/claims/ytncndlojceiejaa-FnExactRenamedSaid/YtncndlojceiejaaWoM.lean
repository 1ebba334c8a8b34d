/- Contracts of the models l9Less and Without. Condition: the slices have at most 2^40 elements. -/
import Derived.Test.YtncndlojceiejaaRenI
import Derived.Test.YtncndlojceiejaaCopyM
import Derived.Test.YtncndlojceiejaaMg5
namespace Go.Proofs.Ytncndlojceiejaa
open Go.ChangeShapes Go.WideShapes Go.ChangeAt Go.RowKit
set_option maxRecDepth 100000
theorem l9Less_any {w : World} {a c : Int} (h0 : 0 ≤ a) (h1 : a ≤ 9223372036854775807) : Calls Try.prog 56 #[.int .i64 a, .int .i64 c] w (fun e w' => e = .returned (.int .i64 (lesI a c)) ∧ w = w') := by
  by_cases h : c < a
  · have HL := Lib.hid (show lesI a c = a - 1 by unfold lesI; rw [if_pos h])
    go_enter Try.func56, Try.ntmps56
    go_wp2_with fail
    go_ret
    exact ⟨ret_i HL.out.symm, rfl⟩
  · have HL := Lib.hid (show lesI a c = a by unfold lesI; rw [if_neg h])
    go_enter Try.func56, Try.ntmps56
    go_wp2_with fail
    go_ret
    exact ⟨ret_i HL.out.symm, rfl⟩
theorem woX_yes {X : List (List Int)} {c : Int} {k : Nat} (hk : k < X.length) {p q : Int} (hx : X[k] = [p, q]) (h1 : p ≠ c) (h2 : q ≠ c) : woX (X.take (k + 1)) c = woX (X.take k) c ++ [[lesI p c, lesI q c]] := by
  unfold woX
  rw [filt_yes hk (by rw [hx]; simp [h1, h2]), List.map_append, hx]
  rfl
theorem woX_no {X : List (List Int)} {c : Int} {k : Nat} (hk : k < X.length) {p q : Int} (hx : X[k] = [p, q]) (h : p = c ∨ q = c) : woX (X.take (k + 1)) c = woX (X.take k) c := by
  unfold woX
  rw [filt_no hk (by rw [hx]; rcases h with h | h <;> simp [h])]
theorem woX_len (X : List (List Int)) (c : Int) (k : Nat) : (woX (X.take k) c).length ≤ k := by
  unfold woX
  rw [List.length_map]
  exact filt_len _ _ _
set_option maxHeartbeats 16000000 in
theorem specWithout_any {w : World} {A : Option Addr} {n c : Nat} {N a : Int} {X : List (List Int)} (hl : Hid (X.length = n)) (hn : n ≤ 1099511627775) (hs : Hid (∀ x ∈ X, x.length ≤ 1099511627776)) (hr : RdSS w w.heap.size A X) :
    Calls Try.prog 24 #[.agg #[.int .i64 N, .slice A n c], .int .i64 a] w (FreshGB (woM N X a) (woY N X a) (woB N X a) w) := by
  obtain ⟨W2, hW2, bx1, bx2, hb2, hs2⟩ := two_graphs w #[Value.int IntKind.i64 N, Value.slice A n c] #[Value.int IntKind.i64 0, Value.slice none 0 0] 26
  have HR := Lib.hid (hr.below hb2)
  obtain ⟨C0, C1⟩ := bx1.two
  have hW2' := hW2.symm
  have HS2 := Lib.hid hs2
  clear hW2 hr hs2
  by_cases hwo : woB N X a = true
  case neg =>
    have HCf := Lib.hid (show woB N X a = false by simpa using hwo)
    have HLx := Lib.hid (show woY N X a = X by unfold woY; rw [HCf.out]; rfl)
    have HLm := Lib.hid (show woM N X a = N by unfold woM; rw [HCf.out]; rfl)
    have HM := Lib.hid (show w.heap.size + 2 ≤ W2.heap.size by rw [HS2.out]; exact Nat.le_refl _)
    by_cases hg : gB N X = true
    · have HG := Lib.hid hg
      obtain ⟨m, rfl, hm, _, _⟩ := gB_ok hg
      have HI := Lib.hid (show inr a 0 ((m : Int) - 1) = false by have := HCf.out; unfold woB at this; rw [hg] at this; simpa using this)
      clear hg hwo
      go_enter Try.func24, Try.ntmps24
      go_wp2_with fail
      refine (specIsGraph_any (N := m) (X := X) (c := c) hl (by omega) (HR.out.more hb2.size)).mono ?_
      rintro e w3 ⟨rfl, hb3⟩
      rw [HG.out]
      have hb4 := hb2.trans (hb3.mono hb2.size)
      obtain ⟨D0, D1⟩ := (bx1.new hb3).two
      have bx23 := bx2.new hb3
      go_wp2_with (go_at_call 55; refine (l1In_any _ _ _ _).mono ?_; rintro e w1 ⟨he, rfl⟩; rw [HI.out] at he; subst he)
      refine (specL4Copy_any hl (by omega) hs ((HR.out.below (hb3.mono hb2.size)).more hb4.size)).mono ?_
      rintro e w6 ⟨v, rfl, hown, hb7⟩
      have bx26 := bx23.new hb7
      have hv1 := hown.one
      have hk := keep_result #[.int .i64 m, v] hown (hb4.trans (hb7.mono hb4.size)) (Nat.le_trans HM.out hb3.size) (Nat.le_trans HM.out (Nat.le_trans hb3.size hb7.size))
      go_wp2_with (first | (refine stGR rfl (.tmp 4) (.tmp 21) rfl bx26 rfl hv1 rfl rfl ?_))
      refine bodyPost_ret (resGB rfl (bx26.setRow _) rfl rfl rfl) rfl ⟨v, by rw [HCf.out, HLm.out]; rfl, by rw [HLx.out]; exact hk.1, hk.2⟩
    · have HG := Lib.hid (show gB N X = false by simpa using hg)
      clear hg hwo
      go_enter Try.func24, Try.ntmps24
      go_wp2_with fail
      refine (specIsGraph_any (N := N) (X := X) (c := c) hl (by omega) (HR.out.more hb2.size)).mono ?_
      rintro e w3 ⟨rfl, hb3⟩
      rw [HG.out]
      have hb4 := hb2.trans (hb3.mono hb2.size)
      obtain ⟨D0, D1⟩ := (bx1.new hb3).two
      have bx23 := bx2.new hb3
      go_wp2_with fail
      refine (specL4Copy_any hl (by omega) hs ((HR.out.below (hb3.mono hb2.size)).more hb4.size)).mono ?_
      rintro e w6 ⟨v, rfl, hown, hb7⟩
      have bx26 := bx23.new hb7
      have hv1 := hown.one
      have hk := keep_result #[.int .i64 N, v] hown (hb4.trans (hb7.mono hb4.size)) (Nat.le_trans HM.out hb3.size) (Nat.le_trans HM.out (Nat.le_trans hb3.size hb7.size))
      go_wp2_with (first | (refine stGR rfl (.tmp 4) (.tmp 21) rfl bx26 rfl hv1 rfl rfl ?_))
      refine bodyPost_ret (resGB rfl (bx26.setRow _) rfl rfl rfl) rfl ⟨v, by rw [HCf.out, HLm.out]; rfl, by rw [HLx.out]; exact hk.1, hk.2⟩
  case pos =>
    have HCf := Lib.hid hwo
    have hg : gB N X = true := by unfold woB at hwo; rw [Bool.and_eq_true] at hwo; exact hwo.1
    have HG := Lib.hid hg
    obtain ⟨m, rfl, hm, hP, _⟩ := gB_ok hg
    have HI := Lib.hid (show inr a 0 ((m : Int) - 1) = true by unfold woB at hwo; rw [Bool.and_eq_true] at hwo; exact hwo.2)
    have hm0 : 0 < m := by have := HI.out; simp [inr] at this; omega
    have HLx := Lib.hid (show woY m X a = woX (X.take n) a by unfold woY; rw [HCf.out, List.take_of_length_le (by rw [hl.out]; exact Nat.le_refl _)]; rfl)
    have HLm := Lib.hid (show woM m X a = (m : Int) - 1 by unfold woM; rw [HCf.out]; rfl)
    have HP := Lib.hid hP
    clear hg hwo hP
    go_enter Try.func24, Try.ntmps24
    go_wp2_with fail
    refine (specIsGraph_any (N := m) (X := X) (c := c) hl (by omega) (HR.out.more hb2.size)).mono ?_
    rintro e w3 ⟨rfl, hb3⟩
    rw [HG.out]
    have hb4 := hb2.trans (hb3.mono hb2.size)
    have bx13 := bx1.new hb3
    have bx23 := bx2.new hb3
    obtain ⟨D0, D1⟩ := bx13.two
    have hs3 := hb3.size
    have hs2 := HS2.out
    have hrd3 := HR.out.below (hb3.mono hb2.size)
    have k5 := alloc_new w3 (Obj.cells #[Value.int .i64 ((m : Int) - 1), .slice none 0 0] 26)
    have b1 := bx13.new k5
    have b2 := bx23.new k5
    have b3 := Bx.made w3 26 #[Value.int .i64 ((m : Int) - 1), .slice none 0 0]
    have hb5 := hb4.trans (k5.mono hb4.size)
    have hr5 := hrd3.below (k5.mono hb4.size)
    obtain ⟨W5, hW5⟩ : ∃ u : World, u = w3.alloc (Obj.cells #[Value.int .i64 ((m : Int) - 1), .slice none 0 0] 26) := ⟨_, rfl⟩
    have hs5 : W5.heap.size = w3.heap.size + 1 := by rw [hW5]; simp
    rw [← hW5] at b1 b2 b3 hb5 hr5
    have HW5 := Lib.hid hW5.symm
    clear hW5 k5 bx13 bx23 C0 C1 hW2' bx1 bx2 HR
    go_wp2_with (go_at_call 55; refine (l1In_any _ _ _ _).mono ?_; rintro e w1 ⟨he, rfl⟩; rw [HI.out] at he; subst he)
    rw [HW5.out]
    clear HW5 D0 D1
    generalize hG : w3.heap.size = G at *
    go_loopw [7] (fun i wr => ∃ (k : Nat) (v : Value), k ≤ n ∧ i = .int .i64 k ∧ Bx wr G 26 #[Value.int IntKind.i64 ((m : Int) - 1), v] ∧ OwnSS wr (G + 1) wr.heap.size v (woX (X.take k) a) ∧ Below G W5 wr ∧ G + 1 ≤ wr.heap.size) (fun i _ => n - (intOf i).toNat)
    case atStart => exact ⟨0, _, Nat.zero_le _, rfl, b3, OwnSS.nil, Below.refl _ _, by omega⟩
    case round =>
      obtain ⟨k, v, hk, rfl, bxv, hov, hbw, hGs⟩ := hrel
      have bxa : Bx wr w.heap.size 26 #[Value.int IntKind.i64 m, Value.slice A n c] := (hbw.block _ (by omega)).trans b1
      have bxb : Bx wr (w.heap.size + 1) 26 #[Value.int IntKind.i64 0, Value.slice none 0 0] := (hbw.block _ (by omega)).trans b2
      obtain ⟨C0, C1⟩ := bxa.two
      obtain ⟨D0, D1⟩ := bxv.two
      have hrk := hr5.below (hbw.mono (by omega))
      by_cases hlt : k < n
      · have hkz : k < X.length := by rw [hl.out]; exact hlt
        obtain ⟨ad, ag, ao, cj, p, q, rfl, hab, hc, hag, e0, e1, hx, hp, hq⟩ := pair_at hrk HP.out hkz
        have hYl := woX_len X a k
        have i0' : (0 : Int) ≤ (k : Int) := by omega
        have p0 : (0 : Int) ≤ (p : Int) := by omega
        have q0 : (0 : Int) ≤ (q : Int) := by omega
        by_cases h1 : (p : Int) = a
        · have HT := Lib.hid (woX_no (c := a) hkz hx (.inl h1))
          have h1' : ((p : Int) != a) = false := by simpa using h1
          clear hx
          go_wp2_with fail
          go_roundw
          case rel => exact ⟨k + 1, v, by omega, by go_num, bxv, by rw [HT.out]; exact hov, hbw, hGs⟩
          case measure => simp [intOf]; omega
        · by_cases h2 : (q : Int) = a
          · have HT := Lib.hid (woX_no (c := a) hkz hx (.inr h2))
            have h1' : ((p : Int) != a) = true := by simpa using h1
            have h2' : ((q : Int) != a) = false := by simpa using h2
            clear hx
            go_wp2_with fail
            go_roundw
            case rel => exact ⟨k + 1, v, by omega, by go_num, bxv, by rw [HT.out]; exact hov, hbw, hGs⟩
            case measure => simp [intOf]; omega
          · have HT := Lib.hid (woX_yes (c := a) hkz hx h1 h2)
            have h1' : ((p : Int) != a) = true := by simpa using h1
            have h2' : ((q : Int) != a) = true := by simpa using h2
            have LP := Lib.hid (show (p : Int) ≤ 9223372036854775807 by omega)
            have LQ := Lib.hid (show (q : Int) ≤ 9223372036854775807 by omega)
            obtain ⟨lp, hlp⟩ : ∃ z, z = lesI p a := ⟨_, rfl⟩
            obtain ⟨lq, hlq⟩ : ∃ z, z = lesI q a := ⟨_, rfl⟩
            rw [← hlp, ← hlq] at HT
            have HLP := Lib.hid hlp
            have HLQ := Lib.hid hlq
            obtain ⟨Y, hY⟩ : ∃ Y, Y = woX (X.take k) a := ⟨_, rfl⟩
            rw [← hY] at hov hYl HT
            have k1 := alloc_new wr (Obj.cells #[Value.int .i64 lp, .int .i64 lq] 3)
            obtain ⟨Wa, hWa⟩ : ∃ u : World, u = wr.alloc (Obj.cells #[Value.int .i64 lp, .int .i64 lq] 3) := ⟨_, rfl⟩
            have hsa : Wa.heap.size = wr.heap.size + 1 := by rw [hWa]; simp
            have hra := Row.made (w := wr) wr.heap.size #[Value.int .i64 lp, .int .i64 lq] 2 3 (Nat.le_refl _) rfl (by decide)
            rw [← hWa] at k1 hra
            have k2 := alloc_new Wa (Obj.cells #[Value.slice (some ⟨wr.heap.size, 0, none⟩) 2 2] 40)
            have hrb := Rd.made Wa #[Value.slice (some ⟨wr.heap.size, 0, none⟩) 2 2] 40
            obtain ⟨Wb, hWb⟩ : ∃ u : World, u = Wa.alloc (Obj.cells #[Value.slice (some ⟨wr.heap.size, 0, none⟩) 2 2] 40) := ⟨_, rfl⟩
            have hsb : Wb.heap.size = wr.heap.size + 2 := by rw [hWb]; simp [hsa]
            rw [← hWb] at k2 hrb
            rw [hsa] at hrb
            have k3 := trans_new k1 k2
            have HOW := Lib.hid (hov.new k3)
            have HRW := Lib.hid (hra.new k2)
            have HRD := Lib.hid hrb
            have D1a := (bxv.new k1).two.2
            have D1b := (bxv.new k3).two.2
            have HBB := Lib.hid (bxv.new k3)
            have HK3 := Lib.hid k3
            have hWa' := hWa.symm
            have hWb' := hWb.symm
            have HSB := Lib.hid hsb
            clear hx hlp hlq hY hWa hWb hov bxv k1 k2 k3 hra hrb bxa bxb hrk
            go_wp2_with fail
            go_region_law (first
              | (refine step_appSS (X := Y) (x := [lp, lq]) (u := .slice (some ⟨wr.heap.size, 0, none⟩) 2 2) (v := v) (L := G + 1) (M := wr.heap.size) (lo := wr.heap.size) (hi := wr.heap.size + 1) (c := 1) (ad := ⟨wr.heap.size + 1, 0, none⟩) rfl (.tmp 51) (.tmp 63) rfl (by simp [Act.eval]) (by simp [Act.eval]) (by first | exact HOW.out | exact HOW.out.drewN 1) (by first | exact HRW.out | exact HRW.out.drewN 1) (by first | exact HRD.out | exact HRD.out.drewN 1) (Nat.le_refl _) hGs (by omega) (by have := HSB.out; simp; omega) ?_; intro v2 w2 hown2 hbw2; obtain ⟨A8, c8, rfl, _, _, _⟩ := hown2.rd (n := Y.length + 1) (by simp); have hb9 : Below (G + 1) wr w2 := (by first | exact (HK3.out.mono hGs).trans hbw2 | exact (HK3.out.mono hGs).drew.trans hbw2); have bx9 : Bx w2 G 26 #[Value.int IntKind.i64 ((m : Int) - 1), v] := (by first | exact (hbw2.block _ (Nat.lt_succ_self _)).trans HBB.out | exact (hbw2.block _ (Nat.lt_succ_self _)).trans HBB.out.drew_); have c2 := bx9.two.2; have f2 := bx9.free 1)
              | (go_simp; go_at_call 56; (with_reducible refine (l9Less_any (a := (p : Int)) p0 LP.out).mono ?_); rintro e w9 ⟨he, rfl⟩; rw [← HLP.out] at he; subst he)
              | (go_simp; go_at_call 56; (with_reducible refine (l9Less_any (a := (q : Int)) q0 LQ.out).mono ?_); rintro e w9 ⟨he, rfl⟩; rw [← HLQ.out] at he; subst he))
            all_goals
              have bz9 : w2.heap.size ≤ w2.heap.size := Nat.le_refl _
              have hz9 := hb9.size
              go_wp2_with fail
              go_roundw
              case rel => exact ⟨k + 1, .slice A8 (Y.length + 1) c8, by omega, by go_num, bx9.set 1 _, by rw [HT.out]; exact (hown2.setFar (.inl (Nat.lt_succ_self _)) _).wide (Nat.le_refl _) (by simp), hbw.trans ((hb9.mono (Nat.le_succ _)).setCell (Nat.le_refl _) _), by simp; omega⟩
              case measure => simp [intOf]; omega
      · have e : k = n := by omega
        subst e
        have HO := Lib.hid hov
        have hv1 := hov.one
        have hsb := b2.lt
        clear hov C0 C1 D0 D1
        obtain ⟨C0, C1⟩ := bxa.two
        go_wp2_with (first | (refine ldGR rfl (.tmp 6) rfl bxv rfl rfl ?_) | (refine stGR rfl (.tmp 4) (.tmp 66) rfl bxb rfl hv1 rfl rfl ?_))
        have hk := keep_result #[.int .i64 ((m : Int) - 1), v] HO.out (hb5.trans (hbw.mono (by omega))) (by omega) (by omega)
        refine bodyPost_ret (resGB rfl (bxb.setRow _) rfl rfl rfl) rfl ⟨v, by rw [HCf.out, HLm.out]; rfl, by rw [HLx.out]; exact hk.1, hk.2⟩
end Go.Proofs.Ytncndlojceiejaa
