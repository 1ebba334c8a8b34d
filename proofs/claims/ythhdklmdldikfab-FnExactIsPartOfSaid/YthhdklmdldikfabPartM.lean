/- Contract of the model IsPartOf. Condition: the slices have at most 2^40 elements. -/
import Derived.Test.YthhdklmdldikfabPartC
import Derived.Test.YthhdklmdldikfabWhoM
namespace Go.Proofs.Ythhdklmdldikfab
open Go.ChangeShapes Go.WideShapes Go.ChangeAt Go.RowKit
set_option maxRecDepth 100000
theorem four_new {W w' : World} {g h : Nat} {t t' : TypeId} {a b a' b' : Value} (k : Bx W g t #[a, b]) (k' : Bx W h t' #[a', b']) (hb : Below W.heap.size W w') : Below W.heap.size W w' ∧ w'.cell? ⟨g, 0, none⟩ = some a ∧ w'.cell? ⟨g, 1, none⟩ = some b ∧ w'.cell? ⟨h, 0, none⟩ = some a' ∧ w'.cell? ⟨h, 1, none⟩ = some b' :=
  ⟨hb, (k.new hb).two.1, (k.new hb).two.2, (k'.new hb).two.1, (k'.new hb).two.2⟩
theorem rdSS_nw {a b : World} {A : Option Addr} {X : List (List Int)} (h : RdSS a a.heap.size A X) (hb : Below a.heap.size a b) : RdSS b b.heap.size A X := (h.below hb).more hb.size
theorem part_no {m q : Nat} {X Y : List (List Int)} {i k : Nat} (hi : i < m) (hk : k < m) (h : dA m X i k ≠ dA q Y i k) : partB m X q Y = false := by
  rw [← Bool.not_eq_true]
  intro hp
  unfold partB at hp
  rw [Bool.and_eq_true] at hp
  have h1 := List.all_eq_true.1 hp.2 i (by simpa using hi)
  have h2 := List.all_eq_true.1 h1 k (by simpa using hk)
  exact h (by simpa using h2)
theorem part_yes {m q : Nat} {X Y : List (List Int)} (hX : gB m X = true) (hY : gB q Y = true) (hmq : m ≤ q) (h : ∀ i < m, ∀ k < m, dA m X (i : Nat) (k : Nat) = dA q Y (i : Nat) (k : Nat)) : partB m X q Y = true := by
  unfold partB
  rw [hX, hY, decide_eq_true (by omega : (m : Int) ≤ q)]
  simp only [Bool.true_and, Int.toNat_natCast, List.all_eq_true, List.mem_range]
  intro i hi k hk
  rw [beq_iff_eq]
  exact h i hi k hk
section
variable {w : World} {A A' : Option Addr} {n c n' c' : Nat} {M N : Int} {X Y : List (List Int)}
set_option maxHeartbeats 8000000 in
theorem specIsPartOf_any (hl : Hid (X.length = n)) (hn : n ≤ 1099511627776) (hr : RdSS w w.heap.size A X) (hl' : Hid (Y.length = n')) (hn' : n' ≤ 1099511627776) (hr' : RdSS w w.heap.size A' Y) :
    Calls Try.prog 30 #[.agg #[.int .i64 M, .slice A n c], .agg #[.int .i64 N, .slice A' n' c']] w (Tells (partB M X N Y) w) := by
  obtain ⟨W2, hW2, b0, b1, hb2, hs2⟩ := two_blocks w #[Value.int IntKind.i64 M, Value.slice A n c] #[Value.int IntKind.i64 N, Value.slice A' n' c'] 40 40
  have HR := Lib.hid ((hr.below hb2).more hb2.size)
  have HR' := Lib.hid ((hr'.below hb2).more hb2.size)
  have KE := fun (w' : World) (k : Below W2.heap.size W2 w') => four_new b0 b1 k
  obtain ⟨C0, C1⟩ := b0.two
  obtain ⟨D0, D1⟩ := b1.two
  clear hr hr' hs2
  by_cases hX : gB M X = true
  case neg =>
    have HX := Lib.hid (show gB M X = false by simpa using hX)
    have HP := Lib.hid (show partB M X N Y = false by unfold partB; rw [HX.out]; rfl)
    clear hX
    go_enter Try.func30, Try.ntmps30
    go_wp2_with fail
    refine (specIsGraph_any (N := M) (X := X) (c := c) hl hn HR.out).mono ?_
    rintro e w3 ⟨rfl, hb3⟩
    rw [HX.out]
    obtain ⟨_, E0, E1, F0, F1⟩ := KE _ hb3
    go_wp2_with fail
    go_ret
    exact ⟨ret_b HP.out.symm, hb2.trans (hb3.mono hb2.size)⟩
  case pos =>
    have hX0 := hX
    obtain ⟨m, rfl, hm, _⟩ := gB_ok hX
    have HX := Lib.hid hX0
    clear hX hX0
    by_cases hY : gB N Y = true
    case neg =>
      have HY := Lib.hid (show gB N Y = false by simpa using hY)
      have HP := Lib.hid (show partB m X N Y = false by unfold partB; rw [HX.out, HY.out]; rfl)
      clear hY
      go_enter Try.func30, Try.ntmps30
      go_wp2_with fail
      refine (specIsGraph_any (N := m) (X := X) (c := c) hl hn HR.out).mono ?_
      rintro e w3 ⟨rfl, hb3⟩
      rw [HX.out]
      obtain ⟨_, E0, E1, F0, F1⟩ := KE _ hb3
      go_wp2_with fail
      refine (specIsGraph_any (N := N) (X := Y) (c := c') hl' hn' (rdSS_nw HR'.out hb3)).mono ?_
      rintro e w4 ⟨rfl, hb4⟩
      rw [HY.out]
      have k4 := trans_new hb3 hb4
      obtain ⟨_, G0, G1, H0, H1⟩ := KE _ k4
      go_wp2_with fail
      go_ret
      exact ⟨ret_b HP.out.symm, hb2.trans (k4.mono hb2.size)⟩
    case pos =>
      have hY0 := hY
      obtain ⟨q, rfl, hq, _⟩ := gB_ok hY
      have HY := Lib.hid hY0
      clear hY hY0
      go_enter Try.func30, Try.ntmps30
      go_wp2_with fail
      refine (specIsGraph_any (N := m) (X := X) (c := c) hl hn HR.out).mono ?_
      rintro e w3 ⟨rfl, hb3⟩
      rw [HX.out]
      obtain ⟨_, E0, E1, F0, F1⟩ := KE _ hb3
      go_wp2_with fail
      refine (specIsGraph_any (N := q) (X := Y) (c := c') hl' hn' (rdSS_nw HR'.out hb3)).mono ?_
      rintro e w4 ⟨rfl, hb4⟩
      rw [HY.out]
      have k4 := trans_new hb3 hb4
      obtain ⟨_, G0, G1, H0, H1⟩ := KE _ k4
      by_cases hmq : m ≤ q
      case neg =>
        have HP := Lib.hid (show partB m X q Y = false by unfold partB; rw [HX.out, HY.out, decide_eq_false (by omega)]; rfl)
        have hgt : (q : Int) < (m : Int) := by omega
        clear hmq
        go_wp2_with fail
        go_ret
        exact ⟨ret_b HP.out.symm, hb2.trans (k4.mono hb2.size)⟩
      case pos =>
        have hle : (m : Int) ≤ (q : Int) := by omega
        go_wp2_with fail
        go_loopw [5] (fun i wr => ∃ a : Nat, a ≤ m ∧ i = .int .i64 a ∧ Below W2.heap.size W2 wr ∧ Hid (∀ x < a, ∀ y < m, dA m X (x : Nat) (y : Nat) = dA q Y (x : Nat) (y : Nat))) (fun i _ => m - (intOf i).toNat)
        case atStart => exact ⟨0, Nat.zero_le _, rfl, k4, Lib.hid (fun x hx => absurd hx (Nat.not_lt_zero _))⟩
        case round =>
          obtain ⟨a, ha, rfl, hbw, hO⟩ := hrel
          obtain ⟨_, I0, I1, J0, J1⟩ := KE _ hbw
          by_cases hlt : a < m
          case neg =>
            obtain rfl : a = m := by omega
            have HP := Lib.hid (part_yes HX.out HY.out hmq hO.out)
            have hnl : ¬ (a : Int) < (a : Int) := by omega
            clear hO
            go_wp2_with fail
            go_ret
            exact ⟨ret_b HP.out.symm, hb2.trans (hbw.mono hb2.size)⟩
          case pos =>
            obtain ⟨wo, hwo⟩ : ∃ u, u = wr := ⟨_, rfl⟩
            subst hwo
            go_wp2_with fail
            go_loopw [6] (fun i wr => ∃ b : Nat, b ≤ m ∧ i = .int .i64 b ∧ Below W2.heap.size W2 wr ∧ Hid (∀ y < b, dA m X (a : Nat) (y : Nat) = dA q Y (a : Nat) (y : Nat))) (fun i _ => m - (intOf i).toNat)
            case atStart => exact ⟨0, Nat.zero_le _, rfl, hbw, Lib.hid (fun y hy => absurd hy (Nat.not_lt_zero _))⟩
            case round =>
              obtain ⟨b, hb, rfl, hbv, hI⟩ := hrel
              obtain ⟨_, K0, K1, L0, L1⟩ := KE _ hbv
              by_cases hlt2 : b < m
              case neg =>
                obtain rfl : b = m := by omega
                go_wp2_with fail
                go_roundw
                case rel => exact ⟨a + 1, by omega, by go_num, hbv, Lib.hid (fun x hx y hy => by
                  rcases Nat.lt_or_ge x a with h | h
                  · exact hO.out x h y hy
                  · obtain rfl : x = a := by omega
                    exact hI.out y hy)⟩
                case measure => simp [intOf]; omega
              case pos =>
                obtain ⟨dx, hdx⟩ : ∃ d, d = dA m X (a : Nat) (b : Nat) := ⟨_, rfl⟩
                obtain ⟨dy, hdy⟩ : ∃ d, d = dA q Y (a : Nat) (b : Nat) := ⟨_, rfl⟩
                have HDX := Lib.hid hdx.symm
                have HDY := Lib.hid hdy.symm
                have HNO := Lib.hid (fun h : dx ≠ dy => part_no (m := m) (q := q) (X := X) (Y := Y) hlt hlt2 (by rw [← hdx, ← hdy]; exact h))
                have HYS := Lib.hid (fun h : dx = dy => show ∀ y < b + 1, dA m X (a : Nat) (y : Nat) = dA q Y (a : Nat) (y : Nat) from fun y hy => by
                  rcases Nat.lt_or_ge y b with h' | h'
                  · exact hI.out y h'
                  · obtain rfl : y = b := by omega
                    rw [← hdx, ← hdy]; exact h)
                clear hdx hdy hO hI
                go_wp2_with fail
                go_region_held3 (fun w' => Below W2.heap.size W2 w' ∧ w'.cell? ⟨w.heap.size, 0, none⟩ = some (.int .i64 m) ∧ w'.cell? ⟨w.heap.size, 1, none⟩ = some (.slice A n c) ∧ w'.cell? ⟨w.heap.size + 1, 0, none⟩ = some (.int .i64 q) ∧ w'.cell? ⟨w.heap.size + 1, 1, none⟩ = some (.slice A' n' c')) (first | assumption | with_reducible exact KE _ hbv | with_reducible exact KE _ hbv.drew | with_reducible exact KE _ k9 | with_reducible exact KE _ (Below.drew k9))
                  (first
                  | (go_at_call 59; (with_reducible refine (specDoesAttack_any (N := m) (X := X) (c := c) hl hn (rdSS_nw HR.out (‹Below W2.heap.size W2 _ ∧ _›).1)).mono ?_); rintro e u9 ⟨he, hb9⟩; rw [HDX.out] at he; subst he; have k9 := trans_new (‹Below W2.heap.size W2 _ ∧ _›).1 hb9)
                  | (go_at_call 59; (with_reducible refine (specDoesAttack_any (N := q) (X := Y) (c := c') hl' hn' (rdSS_nw HR'.out (‹Below W2.heap.size W2 _ ∧ _›).1)).mono ?_); rintro e u9 ⟨he, hb9⟩; rw [HDY.out] at he; subst he; have k9 := trans_new (‹Below W2.heap.size W2 _ ∧ _›).1 hb9))
                all_goals
                  cases dx <;> cases dy
                all_goals
                  first
                  | (have HP := Lib.hid (HNO.out (by decide))
                     go_wp2_with fail
                     go_ret
                     exact ⟨ret_b HP.out.symm, hb2.trans (k9.mono hb2.size)⟩)
                  | (have HQ := Lib.hid (HYS.out rfl)
                     go_wp2_with fail
                     go_roundw
                     case rel => first | exact ⟨b + 1, by omega, by go_num, HQ⟩ | exact ⟨b + 1, by omega, by go_num, k9, HQ⟩
                     case measure => simp [intOf]; omega)
end
end Go.Proofs.Ythhdklmdldikfab
