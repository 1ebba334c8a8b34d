/- The law of graphs: what an attack that is added changes. -/
import Derived.Test.YtncndlojceiejaaAtk
import Derived.Test.YtncndlojceiejaaDrawG4
import Derived.Test.YtncndlojceiejaaDrawG5
import Derived.Test.YtncndlojceiejaaMg9
import Derived.Test.YtncndlojceiejaaWho
namespace Go.Proofs.Ytncndlojceiejaa
open Go.ChangeShapes Go.WideShapes Go.ChangeAt Go.RowKit
set_option maxRecDepth 100000
theorem any_takeG {α : Type} {X : List α} {f : α → Bool} {k : Nat} (hk : k < X.length) : (X.take (k + 1)).any f = ((X.take k).any f || f X[k]) := by
  rw [List.take_succ_eq_append_getElem hk, List.any_append]; simp
theorem canT {N a b : Int} {X : List (List Int)} (h : canA N X a b = true) : gB N (ins a b X) = true ∧ dA N (ins a b X) a b = true ∧ dA N X a b = false ∧ (atk N (ins a b X) b).contains a = true ∧ (vct N (ins a b X) a).contains b = true := by
  unfold canA at h
  rw [Bool.and_eq_true] at h
  obtain ⟨h1, h2⟩ := h
  obtain ⟨n, rfl, hn, hp, ha⟩ := gB_ok h2
  obtain ⟨n', e, _, hp1, _⟩ := gB_ok h1
  obtain rfl : n = n' := by omega
  have hm : [a, b] ∈ ins a b X := ins_mem.2 (.inr rfl)
  refine ⟨h2, (dA_mem h2 hp a b).2 hm, ?_, ?_, ?_⟩
  · cases hd : dA n X a b with
    | false => rfl
    | true => exact absurd ha (asc_nodup ((dA_mem h1 hp1 a b).1 hd))
  · rw [List.contains_iff_mem]; exact (atk_mem h2 hp b a).2 hm
  · rw [List.contains_iff_mem]; exact (vct_mem h2 hp a b).2 hm
theorem hit_any {m k : Nat} {Y : List (List Int)} {S : List Int} (h : gB m Y = true) (hk : k < m) : (hit m Y S).contains (k : Int) = S.any fun c => dA m Y c k := by
  obtain ⟨m', e, hm, hp, _⟩ := gB_ok h
  obtain rfl : m = m' := by omega
  rw [Bool.eq_iff_iff, List.contains_iff_mem, List.any_eq_true]
  unfold hit
  rw [if_pos h, Int.toNat_natCast, hitL, List.mem_map]
  constructor
  · rintro ⟨j, hj, e⟩
    obtain rfl : j = k := by omega
    rw [List.mem_filter] at hj
    have ht := hj.2
    unfold hitP at ht
    rw [List.any_eq_true] at ht
    obtain ⟨x, hx, ht⟩ := ht
    obtain ⟨p, q, rfl, _, _⟩ := hp x hx
    simp at ht
    obtain ⟨e1, e2⟩ := ht
    refine ⟨p, e2, (dA_mem h hp _ _).2 ?_⟩
    rw [← e1]
    exact hx
  · rintro ⟨c, hc, hd⟩
    have hx := (dA_mem h hp _ _).1 hd
    refine ⟨k, List.mem_filter.2 ⟨List.mem_range.2 hk, ?_⟩, rfl⟩
    unfold hitP
    rw [List.any_eq_true]
    exact ⟨_, hx, by simp [hc]⟩
theorem hit_asc (N : Int) (Y : List (List Int)) (S : List Int) : (hit N Y S).Pairwise (· < ·) ∧ (hit N Y S).length ≤ 10 := by
  rw [← hit_code]
  exact ⟨lsT_asc _ _, lsT_len _ _⟩
theorem atk_len (N : Int) (X : List (List Int)) (c : Int) : (atk N X c).length ≤ 10 := by
  rw [← atk_code]
  exact Nat.le_trans (lsA_len _ _ _) (by have := rn_le N X; omega)
theorem vct_len (N : Int) (X : List (List Int)) (c : Int) : (vct N X c).length ≤ 10 := by
  rw [← vct_code]
  exact lsT_len _ _
/-- A graph in a block of its own, and its pairs in others. -/
def GS (w : World) (L g : Nat) (N : Int) (v : Value) (X : List (List Int)) : Prop := Bx w g 26 #[.int .i64 N, v] ∧ OwnSS w L w.heap.size v X
theorem GS.new {w w' : World} {L g : Nat} {N : Int} {v : Value} {X : List (List Int)} (h : GS w L g N v X) (hb : Below w.heap.size w w') : GS w' L g N v X := ⟨h.1.new hb, (h.2.new hb).wide (Nat.le_refl _) hb.size⟩
theorem GS.rd {w : World} {L g n c : Nat} {A : Option Addr} {N : Int} {X : List (List Int)} (h : GS w L g N (.slice A n c) X) : RdSS w w.heap.size A X := h.2.rd'
set_option maxHeartbeats 16000000 in
theorem graphs_core {W : World} {A : Option Addr} {n c : Nat} (h8 : Code8 W A n) (hn : n ≤ 1048576) :
    Calls Try.prog 4 #[.slice A n c] W (fun e W' => e = .returned (.bool true) ∧ Below W.heap.size W W') := by
  go_enter Try.func4, Try.ntmps4
  go_wp2_with fail
  refine (big_no hn).mono ?_
  rintro e w1 ⟨rfl, rfl⟩
  go_wp2_with fail
  refine (drawAdd h8).mono ?_
  rintro e w1 ⟨N, X, v, a, b, hok, rfl, hown1, hb1⟩
  obtain ⟨Av, cv, rfl, _, _, _⟩ := hown1.rd (n := X.length) rfl
  have k2 : Below w1.heap.size w1 (w1.alloc (Obj.cells #[Value.int .i64 N, .slice Av X.length cv] 26)) := (Below.refl _ _).alloc (Nat.le_refl _) _
  have G2 : GS _ W.heap.size w1.heap.size N (.slice Av X.length cv) X := ⟨Bx.made w1 26 #[Value.int .i64 N, .slice Av X.length cv], (hown1.new k2).wide (Nat.le_refl _) k2.size⟩
  have hb2 := hb1.trans (k2.mono hb1.size)
  have c2 := h8.below hb2
  have HXL := Lib.hid (show X.length ≤ 1099511627776 by have := hok.1; omega)
  have HSM := hok.small
  have HX10 := Lib.hid hok.1
  obtain ⟨w2, hw2⟩ : ∃ z : World, z = w1.alloc (Obj.cells #[Value.int .i64 N, .slice Av X.length cv] 26) := ⟨_, rfl⟩
  rw [← hw2] at G2 hb2 c2
  have HW2 := Lib.hid hw2.symm
  clear hw2 k2 hown1 hb1 hok
  go_wp2_with fail
  rw [HW2.out]
  clear HW2
  refine (impAddAttack_any (X := X) (Lib.hid rfl) HXL.out HSM G2.rd).mono ?_
  rintro e w3 ⟨v3, rfl, hown3, hb3⟩
  obtain ⟨A3, c3, rfl, _, _, _⟩ := hown3.rd (n := (addL N X a b).length) rfl
  have G3 := G2.new hb3
  have hb4 := hb2.trans (hb3.mono hb2.size)
  have k4 : Below w3.heap.size w3 (w3.alloc (Obj.cells #[Value.int .i64 N, .slice A3 (addL N X a b).length c3] 26)) := (Below.refl _ _).alloc (Nat.le_refl _) _
  have G4 := G3.new k4
  have H4 : GS _ w2.heap.size w3.heap.size N (.slice A3 (addL N X a b).length c3) (addL N X a b) := ⟨Bx.made w3 26 #[Value.int .i64 N, .slice A3 (addL N X a b).length c3], (hown3.new k4).wide (Nat.le_refl _) k4.size⟩
  have hb5 := hb4.trans (k4.mono hb4.size)
  obtain ⟨w4, hw4⟩ : ∃ z : World, z = w3.alloc (Obj.cells #[Value.int .i64 N, .slice A3 (addL N X a b).length c3] 26) := ⟨_, rfl⟩
  rw [← hw4] at G4 H4 hb5
  have hw4' := hw4.symm
  have c4 := h8.below hb5
  obtain ⟨X0, X1⟩ := G4.1.two
  obtain ⟨Z0, Z1⟩ := H4.1.two
  clear hw4 k4 G3 G2 hb2 c2 hb4 hown3 hb3
  by_cases hcan : canA N X a b = true
  · obtain ⟨f1, f2, f3, f4, f5⟩ := canT hcan
    have HZ := Lib.hid (show addL N X a b = ins a b X by unfold addL; rw [if_pos hcan])
    obtain ⟨Z, hZ⟩ : ∃ Z, Z = addL N X a b := ⟨_, rfl⟩
    rw [HZ.out] at hZ
    rw [← hZ] at f1 f2 f4 f5
    have hZl : Z.length = X.length + 1 := by rw [hZ, ins_len]
    rw [HZ.out, ← hZ] at H4 Z1 hw4' ⊢
    rw [hcan]
    have F1 := Lib.hid f1
    have F2 := Lib.hid f2
    have F3 := Lib.hid f3
    have F4 := Lib.hid f4
    have F5 := Lib.hid f5
    have HZL := Lib.hid (show Z.length ≤ 1099511627776 by have := HX10.out; omega)
    have HZI := Lib.hid hZl
    have hzi : (Z.length : Int) = (X.length : Int) + 1 := by omega
    have hx10 := HX10.out
    clear f1 f2 f3 f4 f5 hZ HZ hZl hcan
    go_wp2_with fail
    clear hw4'
    refine (impIsGraph_any (N := N) (X := Z) (Lib.hid rfl) HZL.out H4.rd).mono ?_
    rintro e w5 ⟨rfl, r5⟩
    rw [F1.out]
    have G5 := G4.new r5
    have H5 := H4.new r5
    have b5 := hb5.trans (r5.mono hb5.size)
    obtain ⟨X50, X51⟩ := G5.1.two
    obtain ⟨Z50, Z51⟩ := H5.1.two
    clear X0 X1 Z0 Z1 G4 H4
    go_wp2_with fail
    refine (impDoesAttack_any (X := Z) (Lib.hid rfl) HZL.out H5.rd).mono ?_
    rintro e w6 ⟨rfl, r6⟩
    rw [F2.out]
    have G6 := G5.new r6
    have H6 := H5.new r6
    have b6 := b5.trans (r6.mono b5.size)
    obtain ⟨X60, X61⟩ := G6.1.two
    obtain ⟨Z60, Z61⟩ := H6.1.two
    clear X50 X51 Z50 Z51 G5 H5
    go_wp2_with fail
    refine (impDoesAttack_any (X := X) (Lib.hid rfl) HXL.out G6.rd).mono ?_
    rintro e w7 ⟨rfl, r7⟩
    rw [F3.out]
    have G7 := G6.new r7
    have H7 := H6.new r7
    have b7 := b6.trans (r7.mono b6.size)
    obtain ⟨X70, X71⟩ := G7.1.two
    obtain ⟨Z70, Z71⟩ := H7.1.two
    clear X60 X61 Z60 Z61 G6 H6
    go_wp2_with fail
    refine (impAttackersOf_any (X := Z) (Lib.hid rfl) HZL.out H7.rd).mono ?_
    rintro e w8 ⟨v8, rfl, hr8, r8⟩
    obtain ⟨A8, c8, rfl, hrd8, _, _⟩ := hr8.rd (n := (atk N Z b).length) (ivs_len _)
    have G8 := G7.new r8
    have H8 := H7.new r8
    have b8 := b7.trans (r8.mono b7.size)
    obtain ⟨X80, X81⟩ := G8.1.two
    obtain ⟨Z80, Z81⟩ := H8.1.two
    clear X70 X71 Z70 Z71 G7 H7
    go_wp2_with fail
    refine (contains_any (S := atk N Z b) (Lib.hid rfl) (by have := atk_len N Z b; omega) hrd8).mono ?_
    rintro e w9 ⟨rfl, rfl⟩
    rw [F4.out]
    go_wp2_with fail
    refine (impVictimsOf_any (X := Z) (Lib.hid rfl) HZL.out H8.rd).mono ?_
    rintro e w9 ⟨v9, rfl, hr9, r9⟩
    obtain ⟨A9, c9, rfl, hrd9, _, _⟩ := hr9.rd (n := (vct N Z a).length) (ivs_len _)
    have G9 := G8.new r9
    have b9 := b8.trans (r9.mono b8.size)
    have c9' := h8.below b9
    clear X80 X81 Z80 Z81 G8 H8
    go_wp2_with fail
    refine (contains_any (S := vct N Z a) (Lib.hid rfl) (by have := vct_len N Z a; omega) hrd9).mono ?_
    rintro e w10 ⟨rfl, rfl⟩
    rw [F5.out]
    go_wp2_with fail
    refine (drawHit c9').mono ?_
    rintro e y1 ⟨M, Y, vy, S, us, hoky, hsl, rfl, hoY, hrS, r1⟩
    obtain ⟨Ay, cy, rfl, _, _, _⟩ := hoY.rd (n := Y.length) rfl
    obtain ⟨As, cs, rfl, hrdS, _, _⟩ := hrS.rd (n := S.length) (ivs_len _)
    have g31 := (G9).new r1
    have C1 := (b9).trans (r1.mono (b9).size)
    have k2 : Below y1.heap.size y1 (y1.alloc (Obj.cells #[Value.int .i64 M, .slice Ay Y.length cy] 26)) := (Below.refl _ _).alloc (Nat.le_refl _) _
    have g32 := g31.new k2
    have g8 : GS _ w9.heap.size y1.heap.size M (.slice Ay Y.length cy) Y := ⟨Bx.made y1 26 #[Value.int .i64 M, .slice Ay Y.length cy], (hoY.new k2).wide (Nat.le_refl _) k2.size⟩
    have hS2 := (hrdS.below k2).more k2.size
    have C2 := C1.trans (k2.mono C1.size)
    have HYL := Lib.hid (show Y.length ≤ 1099511627776 by have := hoky.1; omega)
    have HSL := Lib.hid (show S.length ≤ 1099511627776 by omega)
    have HS12 := Lib.hid hsl
    obtain ⟨y2, hy2⟩ : ∃ z : World, z = y1.alloc (Obj.cells #[Value.int .i64 M, .slice Ay Y.length cy] 26) := ⟨_, rfl⟩
    rw [← hy2] at g32 g8 hS2 C2
    have HY2 := Lib.hid hy2.symm
    clear hy2 k2 g31 C1 hoY hrS hrdS hsl hoky
    go_wp2_with fail
    rw [HY2.out]
    clear HY2
    refine (impHitBits_any (X := Y) (S := S) (Lib.hid rfl) HYL.out g8.rd (Lib.hid rfl) HSL.out hS2).mono ?_
    rintro e y3 ⟨hv, rfl, hrH, r3⟩
    have HIT := Lib.hid (hit_asc M Y S)
    obtain ⟨Ah, ch, rfl, hrdH, _, _⟩ := hrH.rd (n := (hit M Y S).length) (ivs_len _)
    have g33 := g32.new r3
    have g83 := g8.new r3
    have hS3 := (hS2.below r3).more r3.size
    have C3 := C2.trans (r3.mono C2.size)
    clear g32 g8 hS2 C2 hrH r3
    go_wp2_with fail
    go_loopw [11] (fun i wr => ∃ k : Nat, k ≤ 10 ∧ i = .int .i64 k ∧ Below y3.heap.size y3 wr) (fun i _ => 10 - (intOf i).toNat)
    case atStart => exact ⟨0, by omega, rfl, Below.refl _ _⟩
    case round =>
      obtain ⟨k, hk, rfl, hbw⟩ := hrel
      have g34 := g33.new hbw
      have g84 := g83.new hbw
      have hS4 := (hS3.below hbw).more hbw.size
      have hH4 := (hrdH.below hbw).more hbw.size
      have C4 := C3.trans (hbw.mono C3.size)
      obtain ⟨U0, U1⟩ := g84.1.two
      by_cases hkM : (k : Int) < M
      · go_wp2_with fail
        refine (impIsGraph_any (N := M) (X := Y) (Lib.hid rfl) HYL.out g84.rd).mono ?_
        rintro e y5 ⟨rfl, r5⟩
        have g35 := g34.new r5
        have g85 := g84.new r5
        have hS5 := (hS4.below r5).more r5.size
        have hH5 := (hH4.below r5).more r5.size
        have C5 := C4.trans (r5.mono C4.size)
        have hbw5 := hbw.trans (r5.mono hbw.size)
        clear U0 U1 g34 g84 hS4 hH4 C4
        by_cases hgY : gB M Y = true
        · obtain ⟨m, rfl, hm10, hPY, _⟩ := gB_ok hgY
          rw [hgY]
          have hkm : k < m := by omega
          have HA := Lib.hid (hit_any (S := S) hgY hkm)
          clear hgY
          go_wp2_with fail
          go_loopw [12, 13] (fun b i wr => ∃ j : Nat, j ≤ S.length ∧ i = .int .i64 j ∧ b = .bool ((S.take j).any fun c => dA m Y c k) ∧ Below y5.heap.size y5 wr) (fun _ i _ => S.length - (intOf i).toNat)
          case atStart => exact ⟨0, Nat.zero_le _, rfl, rfl, Below.refl _ _⟩
          case round =>
            obtain ⟨j, hj, rfl, rfl, hbv⟩ := hrel
            have g36 := g35.new hbv
            have g86 := g85.new hbv
            have hS6 := (hS5.below hbv).more hbv.size
            have hH6 := (hH5.below hbv).more hbv.size
            have C6 := C5.trans (hbv.mono C5.size)
            obtain ⟨V0, V1⟩ := g86.1.two
            have hs12 := HS12.out
            by_cases hjt : j < S.length
            · obtain ⟨ad, rfl, _, hc⟩ := ivs_at hS6 hjt
              have HT := Lib.hid (any_takeG (f := fun c => dA m Y c k) hjt)
              obtain ⟨z, hz⟩ : ∃ z, z = S[j] := ⟨_, rfl⟩
              obtain ⟨b, hb⟩ : ∃ b, b = (S.take j).any (fun c => dA m Y c k) := ⟨_, rfl⟩
              rw [← hz, ← hb] at HT
              rw [← hz] at hc
              rw [← hb]
              clear hz hb
              have j0 : (0 : Int) ≤ (j : Int) := by omega
              cases b
              · go_wp2_with fail
                go_region_law (first
                  | (go_simp; go_at_call 17; refine (impDoesAttack_any (X := Y) (Lib.hid rfl) HYL.out (by exact (g86.new ((Below.refl _ _).drew)).rd)).mono ?_; rintro e y7 ⟨rfl, r7⟩))
                all_goals
                  have hb7 := hbv.drew.trans (r7.mono (show y5.heap.size ≤ _ from hbv.size))
                  go_wp2
                  go_roundw
                  case rel => exact ⟨j + 1, by omega, by go_num, by rw [HT.out]; rfl, hb7⟩
                  case measure => simp [intOf]; omega
              · go_wp2_with fail
                go_quiet (fail)
                go_wp2
                go_roundw
                case rel => exact ⟨j + 1, by omega, by go_num, by rw [HT.out]; rfl, below_drewN hbv _⟩
                case measure => simp [intOf]; omega
            · have e : j = S.length := by omega
              subst e
              rw [List.take_length]
              have HA2 := HA.out
              obtain ⟨b, hb⟩ : ∃ b, b = S.any (fun c => dA m Y c k) := ⟨_, rfl⟩
              rw [← hb] at HA2 ⊢
              clear hb
              go_wp2_with fail
              refine (contains_any (S := hit m Y S) (a := k) (Lib.hid rfl) (by have := HIT.out.2; omega) hH6).mono ?_
              rintro e y8 ⟨rfl, rfl⟩
              rw [HA2]
              clear HA2
              have hnn : (b != b) = false := by cases b <;> rfl
              go_wp2_with fail
              go_roundw
              case rel => exact ⟨k + 1, by omega, by go_num, hbw5.trans (hbv.mono hbw5.size)⟩
              case measure => simp [intOf]; omega
        · have hgY' : gB M Y = false := by simpa using hgY
          rw [hgY']
          clear hgY hgY'
          go_wp2_with fail
          refine (ascends_any (S := hit M Y S) (Lib.hid rfl) (by have := HIT.out.2; omega) HIT.out.1 hH5).mono ?_
          rintro e x1 ⟨rfl, q1⟩
          have t1 := (g35).new q1
          obtain ⟨T10, T11⟩ := t1.1.two
          have B1 := (C5).trans (q1.mono (C5).size)
          go_wp2_with fail
          refine (impAttackersOf_any (X := X) (Lib.hid rfl) HXL.out t1.rd).mono ?_
          rintro e x2 ⟨av, rfl, hra, q2⟩
          have t2 := t1.new q2
          have B2 := B1.trans (q2.mono B1.size)
          obtain ⟨Aa, ca, rfl, hrda, _, _⟩ := hra.rd (n := (atk N X a).length) (ivs_len _)
          clear T10 T11
          go_wp2_with fail
          refine (ascends_any (S := atk N X a) (Lib.hid rfl) (by have := atk_len N X a; omega) (atk_asc N X a) hrda).mono ?_
          rintro e x3 ⟨rfl, q3⟩
          have t3 := t2.new q3
          obtain ⟨T30, T31⟩ := t3.1.two
          have B3 := B2.trans (q3.mono B2.size)
          go_wp2_with fail
          refine (impVictimsOf_any (X := X) (Lib.hid rfl) HXL.out t3.rd).mono ?_
          rintro e x4 ⟨bv, rfl, hrb, q4⟩
          have B4 := B3.trans (q4.mono B3.size)
          obtain ⟨Ab, cb, rfl, hrdb, _, _⟩ := hrb.rd (n := (vct N X a).length) (ivs_len _)
          clear T30 T31
          go_wp2_with fail
          refine (ascends_any (S := vct N X a) (Lib.hid rfl) (by have := vct_len N X a; omega) (vct_asc N X a) hrdb).mono ?_
          rintro e x5 ⟨rfl, q5⟩
          have B5 := B4.trans (q5.mono B4.size)
          go_wp2_with fail
          go_ret
          exact ⟨rfl, B5⟩
      · go_wp2_with fail
        refine (ascends_any (S := hit M Y S) (Lib.hid rfl) (by have := HIT.out.2; omega) HIT.out.1 hH4).mono ?_
        rintro e x1 ⟨rfl, q1⟩
        have t1 := (g34).new q1
        obtain ⟨T10, T11⟩ := t1.1.two
        have B1 := (C4).trans (q1.mono (C4).size)
        go_wp2_with fail
        refine (impAttackersOf_any (X := X) (Lib.hid rfl) HXL.out t1.rd).mono ?_
        rintro e x2 ⟨av, rfl, hra, q2⟩
        have t2 := t1.new q2
        have B2 := B1.trans (q2.mono B1.size)
        obtain ⟨Aa, ca, rfl, hrda, _, _⟩ := hra.rd (n := (atk N X a).length) (ivs_len _)
        clear T10 T11
        go_wp2_with fail
        refine (ascends_any (S := atk N X a) (Lib.hid rfl) (by have := atk_len N X a; omega) (atk_asc N X a) hrda).mono ?_
        rintro e x3 ⟨rfl, q3⟩
        have t3 := t2.new q3
        obtain ⟨T30, T31⟩ := t3.1.two
        have B3 := B2.trans (q3.mono B2.size)
        go_wp2_with fail
        refine (impVictimsOf_any (X := X) (Lib.hid rfl) HXL.out t3.rd).mono ?_
        rintro e x4 ⟨bv, rfl, hrb, q4⟩
        have B4 := B3.trans (q4.mono B3.size)
        obtain ⟨Ab, cb, rfl, hrdb, _, _⟩ := hrb.rd (n := (vct N X a).length) (ivs_len _)
        clear T30 T31
        go_wp2_with fail
        refine (ascends_any (S := vct N X a) (Lib.hid rfl) (by have := vct_len N X a; omega) (vct_asc N X a) hrdb).mono ?_
        rintro e x5 ⟨rfl, q5⟩
        have B5 := B4.trans (q5.mono B4.size)
        go_wp2_with fail
        go_ret
        exact ⟨rfl, B5⟩
  · have hcan' : canA N X a b = false := by simpa using hcan
    have HZ := Lib.hid (show addL N X a b = X by unfold addL; rw [hcan']; rfl)
    rw [HZ.out] at H4 Z1 hw4' ⊢
    rw [hcan']
    clear hcan hcan'
    go_wp2_with fail
    clear hw4'
    refine (drawHit c4).mono ?_
    rintro e y1 ⟨M, Y, vy, S, us, hoky, hsl, rfl, hoY, hrS, r1⟩
    obtain ⟨Ay, cy, rfl, _, _, _⟩ := hoY.rd (n := Y.length) rfl
    obtain ⟨As, cs, rfl, hrdS, _, _⟩ := hrS.rd (n := S.length) (ivs_len _)
    have g31 := (G4).new r1
    have C1 := (hb5).trans (r1.mono (hb5).size)
    have k2 : Below y1.heap.size y1 (y1.alloc (Obj.cells #[Value.int .i64 M, .slice Ay Y.length cy] 26)) := (Below.refl _ _).alloc (Nat.le_refl _) _
    have g32 := g31.new k2
    have g8 : GS _ w4.heap.size y1.heap.size M (.slice Ay Y.length cy) Y := ⟨Bx.made y1 26 #[Value.int .i64 M, .slice Ay Y.length cy], (hoY.new k2).wide (Nat.le_refl _) k2.size⟩
    have hS2 := (hrdS.below k2).more k2.size
    have C2 := C1.trans (k2.mono C1.size)
    have HYL := Lib.hid (show Y.length ≤ 1099511627776 by have := hoky.1; omega)
    have HSL := Lib.hid (show S.length ≤ 1099511627776 by omega)
    have HS12 := Lib.hid hsl
    obtain ⟨y2, hy2⟩ : ∃ z : World, z = y1.alloc (Obj.cells #[Value.int .i64 M, .slice Ay Y.length cy] 26) := ⟨_, rfl⟩
    rw [← hy2] at g32 g8 hS2 C2
    have HY2 := Lib.hid hy2.symm
    clear hy2 k2 g31 C1 hoY hrS hrdS hsl hoky
    go_wp2_with fail
    rw [HY2.out]
    clear HY2
    refine (impHitBits_any (X := Y) (S := S) (Lib.hid rfl) HYL.out g8.rd (Lib.hid rfl) HSL.out hS2).mono ?_
    rintro e y3 ⟨hv, rfl, hrH, r3⟩
    have HIT := Lib.hid (hit_asc M Y S)
    obtain ⟨Ah, ch, rfl, hrdH, _, _⟩ := hrH.rd (n := (hit M Y S).length) (ivs_len _)
    have g33 := g32.new r3
    have g83 := g8.new r3
    have hS3 := (hS2.below r3).more r3.size
    have C3 := C2.trans (r3.mono C2.size)
    clear g32 g8 hS2 C2 hrH r3
    go_wp2_with fail
    go_loopw [11] (fun i wr => ∃ k : Nat, k ≤ 10 ∧ i = .int .i64 k ∧ Below y3.heap.size y3 wr) (fun i _ => 10 - (intOf i).toNat)
    case atStart => exact ⟨0, by omega, rfl, Below.refl _ _⟩
    case round =>
      obtain ⟨k, hk, rfl, hbw⟩ := hrel
      have g34 := g33.new hbw
      have g84 := g83.new hbw
      have hS4 := (hS3.below hbw).more hbw.size
      have hH4 := (hrdH.below hbw).more hbw.size
      have C4 := C3.trans (hbw.mono C3.size)
      obtain ⟨U0, U1⟩ := g84.1.two
      by_cases hkM : (k : Int) < M
      · go_wp2_with fail
        refine (impIsGraph_any (N := M) (X := Y) (Lib.hid rfl) HYL.out g84.rd).mono ?_
        rintro e y5 ⟨rfl, r5⟩
        have g35 := g34.new r5
        have g85 := g84.new r5
        have hS5 := (hS4.below r5).more r5.size
        have hH5 := (hH4.below r5).more r5.size
        have C5 := C4.trans (r5.mono C4.size)
        have hbw5 := hbw.trans (r5.mono hbw.size)
        clear U0 U1 g34 g84 hS4 hH4 C4
        by_cases hgY : gB M Y = true
        · obtain ⟨m, rfl, hm10, hPY, _⟩ := gB_ok hgY
          rw [hgY]
          have hkm : k < m := by omega
          have HA := Lib.hid (hit_any (S := S) hgY hkm)
          clear hgY
          go_wp2_with fail
          go_loopw [12, 13] (fun b i wr => ∃ j : Nat, j ≤ S.length ∧ i = .int .i64 j ∧ b = .bool ((S.take j).any fun c => dA m Y c k) ∧ Below y5.heap.size y5 wr) (fun _ i _ => S.length - (intOf i).toNat)
          case atStart => exact ⟨0, Nat.zero_le _, rfl, rfl, Below.refl _ _⟩
          case round =>
            obtain ⟨j, hj, rfl, rfl, hbv⟩ := hrel
            have g36 := g35.new hbv
            have g86 := g85.new hbv
            have hS6 := (hS5.below hbv).more hbv.size
            have hH6 := (hH5.below hbv).more hbv.size
            have C6 := C5.trans (hbv.mono C5.size)
            obtain ⟨V0, V1⟩ := g86.1.two
            have hs12 := HS12.out
            by_cases hjt : j < S.length
            · obtain ⟨ad, rfl, _, hc⟩ := ivs_at hS6 hjt
              have HT := Lib.hid (any_takeG (f := fun c => dA m Y c k) hjt)
              obtain ⟨z, hz⟩ : ∃ z, z = S[j] := ⟨_, rfl⟩
              obtain ⟨b, hb⟩ : ∃ b, b = (S.take j).any (fun c => dA m Y c k) := ⟨_, rfl⟩
              rw [← hz, ← hb] at HT
              rw [← hz] at hc
              rw [← hb]
              clear hz hb
              have j0 : (0 : Int) ≤ (j : Int) := by omega
              cases b
              · go_wp2_with fail
                go_region_law (first
                  | (go_simp; go_at_call 17; refine (impDoesAttack_any (X := Y) (Lib.hid rfl) HYL.out (by exact (g86.new ((Below.refl _ _).drew)).rd)).mono ?_; rintro e y7 ⟨rfl, r7⟩))
                all_goals
                  have hb7 := hbv.drew.trans (r7.mono (show y5.heap.size ≤ _ from hbv.size))
                  go_wp2
                  go_roundw
                  case rel => exact ⟨j + 1, by omega, by go_num, by rw [HT.out]; rfl, hb7⟩
                  case measure => simp [intOf]; omega
              · go_wp2_with fail
                go_quiet (fail)
                go_wp2
                go_roundw
                case rel => exact ⟨j + 1, by omega, by go_num, by rw [HT.out]; rfl, below_drewN hbv _⟩
                case measure => simp [intOf]; omega
            · have e : j = S.length := by omega
              subst e
              rw [List.take_length]
              have HA2 := HA.out
              obtain ⟨b, hb⟩ : ∃ b, b = S.any (fun c => dA m Y c k) := ⟨_, rfl⟩
              rw [← hb] at HA2 ⊢
              clear hb
              go_wp2_with fail
              refine (contains_any (S := hit m Y S) (a := k) (Lib.hid rfl) (by have := HIT.out.2; omega) hH6).mono ?_
              rintro e y8 ⟨rfl, rfl⟩
              rw [HA2]
              clear HA2
              have hnn : (b != b) = false := by cases b <;> rfl
              go_wp2_with fail
              go_roundw
              case rel => exact ⟨k + 1, by omega, by go_num, hbw5.trans (hbv.mono hbw5.size)⟩
              case measure => simp [intOf]; omega
        · have hgY' : gB M Y = false := by simpa using hgY
          rw [hgY']
          clear hgY hgY'
          go_wp2_with fail
          refine (ascends_any (S := hit M Y S) (Lib.hid rfl) (by have := HIT.out.2; omega) HIT.out.1 hH5).mono ?_
          rintro e x1 ⟨rfl, q1⟩
          have t1 := (g35).new q1
          obtain ⟨T10, T11⟩ := t1.1.two
          have B1 := (C5).trans (q1.mono (C5).size)
          go_wp2_with fail
          refine (impAttackersOf_any (X := X) (Lib.hid rfl) HXL.out t1.rd).mono ?_
          rintro e x2 ⟨av, rfl, hra, q2⟩
          have t2 := t1.new q2
          have B2 := B1.trans (q2.mono B1.size)
          obtain ⟨Aa, ca, rfl, hrda, _, _⟩ := hra.rd (n := (atk N X a).length) (ivs_len _)
          clear T10 T11
          go_wp2_with fail
          refine (ascends_any (S := atk N X a) (Lib.hid rfl) (by have := atk_len N X a; omega) (atk_asc N X a) hrda).mono ?_
          rintro e x3 ⟨rfl, q3⟩
          have t3 := t2.new q3
          obtain ⟨T30, T31⟩ := t3.1.two
          have B3 := B2.trans (q3.mono B2.size)
          go_wp2_with fail
          refine (impVictimsOf_any (X := X) (Lib.hid rfl) HXL.out t3.rd).mono ?_
          rintro e x4 ⟨bv, rfl, hrb, q4⟩
          have B4 := B3.trans (q4.mono B3.size)
          obtain ⟨Ab, cb, rfl, hrdb, _, _⟩ := hrb.rd (n := (vct N X a).length) (ivs_len _)
          clear T30 T31
          go_wp2_with fail
          refine (ascends_any (S := vct N X a) (Lib.hid rfl) (by have := vct_len N X a; omega) (vct_asc N X a) hrdb).mono ?_
          rintro e x5 ⟨rfl, q5⟩
          have B5 := B4.trans (q5.mono B4.size)
          go_wp2_with fail
          go_ret
          exact ⟨rfl, B5⟩
      · go_wp2_with fail
        refine (ascends_any (S := hit M Y S) (Lib.hid rfl) (by have := HIT.out.2; omega) HIT.out.1 hH4).mono ?_
        rintro e x1 ⟨rfl, q1⟩
        have t1 := (g34).new q1
        obtain ⟨T10, T11⟩ := t1.1.two
        have B1 := (C4).trans (q1.mono (C4).size)
        go_wp2_with fail
        refine (impAttackersOf_any (X := X) (Lib.hid rfl) HXL.out t1.rd).mono ?_
        rintro e x2 ⟨av, rfl, hra, q2⟩
        have t2 := t1.new q2
        have B2 := B1.trans (q2.mono B1.size)
        obtain ⟨Aa, ca, rfl, hrda, _, _⟩ := hra.rd (n := (atk N X a).length) (ivs_len _)
        clear T10 T11
        go_wp2_with fail
        refine (ascends_any (S := atk N X a) (Lib.hid rfl) (by have := atk_len N X a; omega) (atk_asc N X a) hrda).mono ?_
        rintro e x3 ⟨rfl, q3⟩
        have t3 := t2.new q3
        obtain ⟨T30, T31⟩ := t3.1.two
        have B3 := B2.trans (q3.mono B2.size)
        go_wp2_with fail
        refine (impVictimsOf_any (X := X) (Lib.hid rfl) HXL.out t3.rd).mono ?_
        rintro e x4 ⟨bv, rfl, hrb, q4⟩
        have B4 := B3.trans (q4.mono B3.size)
        obtain ⟨Ab, cb, rfl, hrdb, _, _⟩ := hrb.rd (n := (vct N X a).length) (ivs_len _)
        clear T30 T31
        go_wp2_with fail
        refine (ascends_any (S := vct N X a) (Lib.hid rfl) (by have := vct_len N X a; omega) (vct_asc N X a) hrdb).mono ?_
        rintro e x5 ⟨rfl, q5⟩
        have B5 := B4.trans (q5.mono B4.size)
        go_wp2_with fail
        go_ret
        exact ⟨rfl, B5⟩
end Go.Proofs.Ytncndlojceiejaa
