/- Contracts of the models of DoesAttack, AttackersOf, VictimsOf. No conditions but that the slices have at most 2^40 elements. -/
import Derived.Test.YthhdklmdldikfaaRowMath
import Derived.Test.YthhdklmdldikfaaMg1
namespace Go.Proofs.Ythhdklmdldikfaa
open Go.ChangeShapes Go.WideShapes Go.ChangeAt Go.RowKit
set_option maxRecDepth 100000
theorem pair_at {w : World} {B : Nat} {A : Option Addr} {X : List (List Int)} {m : Nat} (h : RdSS w B A X) (hp : Prs m X) {k : Nat} (hk : k < X.length) :
    ∃ (ad : Addr) (ag ao cj p q : Nat), A = some ad ∧ ad.block < B ∧ w.cell? (ad.add k) = some (.slice (some ⟨ag, ao, none⟩) 2 cj) ∧ ag < B ∧ w.cell? ⟨ag, ao, none⟩ = some (.int .i64 p) ∧ w.cell? ⟨ag, ao + 1, none⟩ = some (.int .i64 q) ∧ X[k] = [(p : Int), (q : Int)] ∧ p < m ∧ q < m := by
  obtain ⟨ad, Aj, cj, rfl, hab, hc, _, _, hrd⟩ := h.at_ hk
  obtain ⟨p, q, hx, h1, h2⟩ := hp X[k] (List.getElem_mem hk)
  rw [hx] at hc hrd
  rw [show ([(p : Int), (q : Int)] : List Int).length = 2 from rfl] at hc
  obtain ⟨ag, ao, rfl, ha2, e0, e1⟩ := rd2 hrd
  exact ⟨ad, ag, ao, cj, p, q, rfl, hab, hc, ha2, e0, e1, hx, h1, h2⟩
theorem any_take {α : Type} {X : List α} {f : α → Bool} {k : Nat} (hk : k < X.length) : (X.take (k + 1)).any f = ((X.take k).any f || f X[k]) := by
  rw [List.take_succ_eq_append_getElem hk, List.any_append]; simp
theorem any_yes {α : Type} {X : List α} {f : α → Bool} {k : Nat} (hk : k < X.length) (h : f X[k] = true) : X.any f = true := List.any_eq_true.2 ⟨_, List.getElem_mem hk, h⟩
set_option maxHeartbeats 4000000 in
theorem specDoesAttack_any {w : World} {A : Option Addr} {n c : Nat} {N a b : Int} {X : List (List Int)} (hl : Hid (X.length = n)) (hn : n ≤ 1099511627776) (hr : RdSS w w.heap.size A X) :
    Calls Try.prog 103 #[.agg #[.int .i64 N, .slice A n c], .int .i64 a, .int .i64 b] w (Tells (dA N X a b) w) := by
  have hb1 : Below w.heap.size w (w.alloc (Obj.cells #[Value.int IntKind.i64 N, Value.slice A n c] 26)) := (Below.refl _ _).alloc (Nat.le_refl _) _
  have hr1 := (hr.below hb1).more hb1.size
  have bx1 := Bx.made w 26 #[Value.int IntKind.i64 N, Value.slice A n c]
  obtain ⟨W1, hW⟩ : ∃ u : World, u = w.alloc (Obj.cells #[Value.int IntKind.i64 N, Value.slice A n c] 26) := ⟨_, rfl⟩
  rw [← hW] at hb1 hr1 bx1
  have hW' := hW.symm
  have HR := Lib.hid hr1
  clear hW hr hr1
  by_cases hg : gB N X = true
  case neg =>
    have hg' : gB N X = false := by simpa using hg
    have HG := Lib.hid hg'
    have HD := Lib.hid (show dA N X a b = false by unfold dA; rw [hg']; rfl)
    clear hg hg'
    obtain ⟨C0, C1⟩ := bx1.two
    go_enter Try.func103, Try.ntmps103
    go_wp2_with fail
    go_loopw [7] (fun i wr => i = .int .i64 0 ∧ wr = W1) (fun i _ => 0)
    case atStart => exact ⟨rfl, rfl⟩
    case round =>
      obtain ⟨rfl, rfl⟩ := hrel
      clear hW'
      by_cases h0 : n = 0
      · subst h0
        go_wp2_with fail
        go_ret
        exact ⟨ret_b HD.out.symm, hb1⟩
      · have i0 : (0 : Int) < (n : Int) := by omega
        go_wp2_with fail
        refine (specIsGraph_any (N := N) (X := X) (c := c) hl hn HR.out).mono ?_
        rintro e w3 ⟨rfl, hb3⟩
        rw [HG.out]
        go_wp2_with fail
        go_ret
        exact ⟨ret_b HD.out.symm, hb1.trans (hb3.mono hb1.size)⟩
  case pos =>
    obtain ⟨m, rfl, hm, hP, _⟩ := gB_ok hg
    have HG := Lib.hid hg
    have HD := Lib.hid (show dA m X a b = X.any (fun x => x.getD 0 0 == a && x.getD 1 0 == b) by unfold dA; rw [hg]; rfl)
    have HP := Lib.hid hP
    clear hg hP
    go_enter Try.func103, Try.ntmps103
    go_wp2_with fail
    go_loopw [7] (fun i wr => ∃ k : Nat, k ≤ n ∧ i = .int .i64 k ∧ Below W1.heap.size W1 wr ∧ Hid ((X.take k).any (fun x => x.getD 0 0 == a && x.getD 1 0 == b) = false)) (fun i _ => n - (intOf i).toNat)
    case atStart => exact ⟨0, Nat.zero_le _, rfl, Below.refl _ _, Lib.hid rfl⟩
    case round =>
      obtain ⟨k, hk, rfl, hbw, hno⟩ := hrel
      clear hW'
      obtain ⟨C0, C1⟩ := (bx1.new hbw).two
      have hbk := hb1.trans (hbw.mono hb1.size)
      by_cases hlt : k < n
      · have hkz : k < X.length := by rw [hl.out]; exact hlt
        go_wp2_with fail
        refine (specIsGraph_any (N := m) (X := X) (c := c) hl hn ((HR.out.below hbw).more hbw.size)).mono ?_
        rintro e w3 ⟨rfl, hb3⟩
        rw [HG.out]
        have hb4 := hbw.trans (hb3.mono hbw.size)
        have hb5 := hb1.trans (hb4.mono hb1.size)
        obtain ⟨D0, D1⟩ := (bx1.new hb4).two
        obtain ⟨ad, ag, ao, cj, p, q, rfl, _, hc, _, e0, e1, hx, _, _⟩ := pair_at (HR.out.below hb4) HP.out hkz
        have HA := Lib.hid (any_take (f := fun x : List Int => x.getD 0 0 == a && x.getD 1 0 == b) hkz)
        have i0 : (0 : Int) ≤ (k : Int) := by omega
        by_cases h1 : (p : Int) = a
        · by_cases h2 : (q : Int) = b
          · have HY := Lib.hid (any_yes (f := fun x : List Int => x.getD 0 0 == a && x.getD 1 0 == b) hkz (by rw [hx]; simp [h1, h2]))
            have h1' : ((p : Int) == a) = true := by simpa using h1
            have h2' : ((q : Int) == b) = true := by simpa using h2
            clear hx
            go_wp2_with fail
            go_ret
            exact ⟨ret_b (by rw [HD.out, HY.out]), hb5⟩
          · have HN := Lib.hid (show (X.take (k + 1)).any (fun x => x.getD 0 0 == a && x.getD 1 0 == b) = false by rw [HA.out, hno.out, hx]; simp [h2])
            have h1' : ((p : Int) == a) = true := by simpa using h1
            have h2' : ((q : Int) == b) = false := by simpa using h2
            clear hx
            go_wp2_with fail
            go_roundw
            case rel => exact ⟨k + 1, by omega, by go_num, hb4, HN⟩
            case measure => simp [intOf]; omega
        · have HN := Lib.hid (show (X.take (k + 1)).any (fun x => x.getD 0 0 == a && x.getD 1 0 == b) = false by rw [HA.out, hno.out, hx]; simp [h1])
          have h1' : ((p : Int) == a) = false := by simpa using h1
          clear hx
          go_wp2_with fail
          go_roundw
          case rel => exact ⟨k + 1, by omega, by go_num, hb4, HN⟩
          case measure => simp [intOf]; omega
      · have e : k = n := by omega
        subst e
        have HF := Lib.hid (show X.any (fun x => x.getD 0 0 == a && x.getD 1 0 == b) = false by have := hno.out; rwa [List.take_of_length_le (by rw [hl.out]; exact Nat.le_refl _)] at this)
        go_wp2_with fail
        go_ret
        exact ⟨ret_b (by rw [HD.out, HF.out]), hbk⟩
end Go.Proofs.Ythhdklmdldikfaa
