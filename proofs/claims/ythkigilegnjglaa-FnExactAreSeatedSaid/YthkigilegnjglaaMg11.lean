/- What an argument that is a slice of structs of two integers gives, over any program. No conditions. -/
import Derived.Test.YthkigilegnjglaaMg3
import Derived.Test.YthkigilegnjglaaMg10
import Derived.Deep.Slices
import Derived.Lib.SmallJoins
import Derived.Test.YthkigilegnjglaaMg8
import Derived.Test.YthkigilegnjglaaMg4
import Derived.Test.YthkigilegnjglaaMg9
import Derived.BigQuiet
import Derived.Deep.Quiet
namespace Go.Proofs.Ythkigilegnjglaa
open Go.ChangeShapes Go.WideShapes Go.ChangeAt Go.RowKit
theorem slice_open2 {H : Type} {enc : TypeId × Value → H} {P : Program} {W : World} {t e : TypeId} {f0 f1 : Field} {v : Value} {d : DataW H} {p : List MemPlace} {base : Nat} (ht : P.underlying t = some (.slice e)) (he : P.underlying e = some (.struct #[f0, f1])) (hc : P.cellsOf e = 2)
    (o0 : f0.offset = 0) (o1 : f1.offset = 1) (u0 : P.underlying f0.type = some (.int .i64)) (u1 : P.underlying f1.type = some (.int .i64))
    (c0 : P.cellsOf f0.type = 1) (c1 : P.cellsOf f1.type = 1)
    (hv : Value.okWide P W .any base t v) (h : DataW.Trod enc P W 0 (fun _ => true) true t v d p) :
    ∃ (A : Option Addr) (c : Nat) (X : List T2), v = .slice A X.length c ∧ Rd W W.heap.size A (t2s X) ∧ X.length ≤ c ∧ c ≤ maxLen ∧ ∀ x ∈ X, (IntKind.i64.min ≤ x.1 ∧ x.1 ≤ IntKind.i64.max) ∧ (IntKind.i64.min ≤ x.2 ∧ x.2 ≤ IntKind.i64.max) := by
  obtain ⟨A, n, c, rfl⟩ := okWide_slice ht hv
  obtain ⟨fuel, hf⟩ := h
  rcases Go.Deep.open_slice ht hf with ⟨e1, _⟩ | ⟨a, len, cap, m, k, D, Pl, e1, _, h1, h2, hm, _, hx⟩
  · simp [Value.cells] at e1
    obtain ⟨rfl, rfl, rfl⟩ := e1
    exact ⟨none, 0, [], rfl, Rd.nil, Nat.le_refl _, Nat.zero_le _, by simp⟩
  · simp [Value.cells] at e1
    obtain ⟨rfl, rfl, rfl⟩ := e1
    simp only [if_true] at hm
    have each : ∀ i, i < n → ∃ q : T2, W.cell? (a.add (i * 2)) = some (.int .i64 q.1) ∧ W.cell? (a.add (i * 2 + 1)) = some (.int .i64 q.2) ∧ (IntKind.i64.min ≤ q.1 ∧ q.1 ≤ IntKind.i64.max) ∧ (IntKind.i64.min ≤ q.2 ∧ q.2 ≤ IntKind.i64.max) := by
      intro i hi
      obtain ⟨cs', k1, k2⟩ := hx i (by omega)
      rw [hc] at k1
      obtain ⟨_, hlen, hcell⟩ := World.cells?_some k1
      obtain ⟨xs, j, _, _, _, hxl, hf⟩ := DataW.trod_struct he k2
      match cs', hlen with
      | [v0, v1], _ =>
        have e0 := hcell 0 (by omega)
        have e1 := hcell 1 (by omega)
        rw [add_two] at e0 e1
        match xs, hxl with
        | [y0, y1], _ =>
          have g0 := hf 0 f0 rfl
          have g1 := hf 1 f1 rfl
          simp [o0, o1, c0, c1] at g0 g1
          obtain ⟨z0, q0, _, w0⟩ := DataW.trod_int u0 g0
          obtain ⟨z1, q1, _, w1⟩ := DataW.trod_int u1 g1
          simp at q0 q1
          subst q0 q1
          exact ⟨(z0, z1), by simpa using e0, by simpa using e1, by simpa [Lit.wf] using w0, by simpa [Lit.wf] using w1⟩
    obtain ⟨X, hX, hp⟩ := list_of n each
    subst hX
    refine ⟨some a, c, X, rfl, fun j u hu => ?_, h1, h2, fun x hx => ?_⟩
    · have hj : j < X.length * 2 := by
        rcases Nat.lt_or_ge j (X.length * 2) with h' | h'
        · exact h'
        · rw [List.getElem?_eq_none (by rw [t2s_len]; exact h')] at hu; cases hu
      have hk : j / 2 < X.length := by omega
      obtain ⟨g0, g1⟩ := t2s_get X (j / 2) hk
      obtain ⟨p0, p1, _⟩ := hp (j / 2) hk
      have hcu : W.cell? (a.add j) = some u := by
        have hj3 : j = j / 2 * 2 ∨ j = j / 2 * 2 + 1 := by omega
        rcases hj3 with hj3 | hj3
        · rw [hj3, g0] at hu
          rw [hj3, p0]
          exact hu
        · rw [hj3, g1] at hu
          rw [hj3, p1]
          exact hu
      refine ⟨a, rfl, ?_, hcu⟩
      have := cell_lt hcu
      rwa [add_blk] at this
    · obtain ⟨i, hi, rfl⟩ := List.getElem_of_mem hx
      exact (hp i hi).2.2
theorem struct_open2 {H : Type} {enc : TypeId × Value → H} {P : Program} {W : World} {t : TypeId} {f0 f1 : Field} {v : Value} {d : DataW H} {p : List MemPlace} {base : Nat} (ht : P.underlying t = some (.struct #[f0, f1])) (hone : Go.Deep.oneCellFields P #[f0, f1] = true) (hc : P.cellsOf t = 2)
    (u0 : P.underlying f0.type = some (.int .i64)) (u1 : P.underlying f1.type = some (.int .i64))
    (hv : Value.okWide P W .any base t v) (h : DataW.Trod enc P W 0 (fun _ => true) true t v d p) :
    ∃ x : T2, v = .agg #[.int .i64 x.1, .int .i64 x.2] ∧ (IntKind.i64.min ≤ x.1 ∧ x.1 ≤ IntKind.i64.max) ∧ (IntKind.i64.min ≤ x.2 ∧ x.2 ≤ IntKind.i64.max) := by
  obtain ⟨v0, v1, y0, y1, n, rfl, _, _, g0, g1⟩ := Go.Joins.open_agg2 ht hone hc hv h
  obtain ⟨z0, q0, _, w0⟩ := DataW.trod_int u0 g0
  obtain ⟨z1, q1, _, w1⟩ := DataW.trod_int u1 g1
  simp at q0 q1
  subst q0 q1
  exact ⟨(z0, z1), rfl, by simpa [Lit.wf] using w0, by simpa [Lit.wf] using w1⟩
end Go.Proofs.Ythkigilegnjglaa

/- Contracts of the code's haveAscendingIds at rooms, teams, judges and integers, with each of its functions. Condition: the slices have at most 2^40 elements. -/
namespace Go.Proofs.Ythkigilegnjglaa
open Go.ChangeShapes Go.WideShapes Go.ChangeAt Go.RowKit
set_option maxRecDepth 100000
theorem nwc {w w' : World} {p : Addr} {v : Value} (r : Below w.heap.size w w') (h : w.cell? p = some v) : w'.cell? p = some v := (r.cell (p := p) (cell_lt h)).trans h
theorem isId_n {w : World} {a : Int} : Calls Try.prog 118 #[.int .i64 a] w (fun e w' => e = .returned (.bool (inr a 1 99)) ∧ w = w') := by
  go_enter Try.func118, Try.ntmps118
  go_wp2_with fail
  refine (inRange_any _ _ _ _).mono ?_
  rintro e w1 ⟨rfl, rfl⟩
  go_wp2_with fail
  go_ret
  exact ⟨rfl, rfl⟩
end Go.Proofs.Ythkigilegnjglaa

/- Contract of the code's haveAscendingIds at judges. Condition: the slice has at most 2^40 elements. -/
namespace Go.Proofs.Ythkigilegnjglaa
open Go.ChangeShapes Go.WideShapes Go.ChangeAt Go.RowKit
set_option maxRecDepth 100000
theorem judge_id {w : World} {x : Jd} {Aj : Option Addr} {cj : Nat} : Calls Try.prog 131 #[.agg #[.int .i64 x.id, .int .i64 x.club, .slice Aj x.seen.length cj]] w (fun e w' => e = .returned (.int .i64 x.id) ∧ Below w.heap.size w w') := by
  have hb1 : Below w.heap.size w (w.alloc (Obj.cells #[.int .i64 x.id, .int .i64 x.club, .slice Aj x.seen.length cj] 115)) := (Below.refl _ _).alloc (Nat.le_refl _) _
  go_enter Try.func131, Try.ntmps131
  go_wp2_with fail
  go_ret
  exact ⟨rfl, hb1⟩
set_option maxHeartbeats 4000000 in
theorem judge_asc {w : World} {A : Option Addr} {n c : Nat} {X : List Jd} (hl : Hid (X.length = n)) (hn : n ≤ 1099511627776) (hr : RdJ w w.heap.size A X) :
    Calls Try.prog 130 #[.slice A n c, .func (.func 131) #[] #[]] w (Tells (ascB (X.map Jd.id)) w) := by
  have hids : ((X.map Jd.id)).length = n := by simpa using hl.out
  have HL := Lib.hid hids
  clear hids
  go_enter Try.func130, Try.ntmps130
  go_wp2_with fail
  go_loopw [9] (fun i wr => ∃ k : Nat, k ≤ n ∧ i = .int .i64 k ∧ Hid ((List.range k).all (ascAt (X.map Jd.id)) = true) ∧ Below w.heap.size w wr) (fun i _ => n - (intOf i).toNat)
  case atStart => exact ⟨0, Nat.zero_le _, rfl, Lib.hid rfl, Below.refl _ _⟩
  case round =>
    obtain ⟨k, hk, rfl, ha, hb⟩ := hrel
    by_cases hlt : k < n
    · have hkz : k < X.length := by rw [hl.out]; exact hlt
      have hki : k < ((X.map Jd.id)).length := by rw [HL.out]; exact hlt
      obtain ⟨ad, p, rfl, hp, hab, Aj, cj, h0, h1, h2, _, _, _⟩ := ((hr.below hb).more hb.size).at_ hkz
      have hD : ((X.map Jd.id)).getD k 0 = X[k].id := by rw [ascD hki]; try simp
      obtain ⟨x, hx⟩ : ∃ x, x = X[k] := ⟨_, rfl⟩
      rw [← hx] at h0 h1 h2 hD
      have HD := Lib.hid hD
      have i0 : (0 : Int) ≤ (k : Int) := by omega
      have i1 : (k : Int) < (n : Int) := by omega
      clear hx hD
      cases hi : inr x.id 1 99 with
      | false =>
          have HV := Lib.hid (asc_no hki (asc_0 HD.out hi))
          have HI := Lib.hid hi
          obtain ⟨W1, hW⟩ : ∃ W1, wr.alloc (Obj.cells #[.int .i64 x.id, .int .i64 x.club, .slice Aj x.seen.length cj] 115) = W1 := ⟨_, rfl⟩
          have bx := Bx.made wr 115 #[.int .i64 x.id, .int .i64 x.club, .slice Aj x.seen.length cj]
          have hb1 : Below wr.heap.size wr (wr.alloc (Obj.cells #[.int .i64 x.id, .int .i64 x.club, .slice Aj x.seen.length cj] 115)) := (Below.refl _ _).alloc (Nat.le_refl _) _
          rw [hW] at bx hb1
          have b0 : W1.cell? ⟨wr.heap.size, 0, none⟩ = some (.int .i64 x.id) := by rw [cell_of_row _ _ _ _ _ _ bx]; rfl
          have b1 : W1.cell? ⟨wr.heap.size, 1, none⟩ = some (.int .i64 x.club) := by rw [cell_of_row _ _ _ _ _ _ bx]; rfl
          have b2 : W1.cell? ⟨wr.heap.size, 2, none⟩ = some (.slice Aj x.seen.length cj) := by rw [cell_of_row _ _ _ _ _ _ bx]; rfl
          have HW := Lib.hid hW
          have hb2 := hb.trans (hb1.mono hb.size)
          have hz2 := hb2.size
          have KE := fun (u : World) (q : Below W1.heap.size W1 u) => show Below W1.heap.size W1 u ∧ u.cell? ⟨wr.heap.size, 0, none⟩ = some (.int .i64 x.id) ∧ u.cell? ⟨wr.heap.size, 1, none⟩ = some (.int .i64 x.club) ∧ u.cell? ⟨wr.heap.size, 2, none⟩ = some (.slice Aj x.seen.length cj) from ⟨q, nwc q b0, nwc q b1, nwc q b2⟩
          clear hi hW bx
          go_wp2_with fail
          rw [HW.out]
          refine wp_region_quiet (C := fun u => Below W1.heap.size W1 u ∧ u.cell? ⟨wr.heap.size, 0, none⟩ = some (.int .i64 x.id) ∧ u.cell? ⟨wr.heap.size, 1, none⟩ = some (.int .i64 x.club) ∧ u.cell? ⟨wr.heap.size, 2, none⟩ = some (.slice Aj x.seen.length cj)) (by kernel_rfl) (by kernel_rfl) (KE _ (Below.refl W1.heap.size W1).drew) ?_
          rw [List.toList_toArray]
          go_big_quiet_want
          go_big_quiet_op
          go_big_quiet_on
          go_big_quiet_want
          apply Exists.intro
          refine ⟨fun u hu => ?_, ?_⟩
          · obtain ⟨hu0, hu1, hu2, hu3⟩ := hu
            unfold Oper.quietAt
            go_simp
            try rfl
          simp only [Act.put, List.setIfInBounds_toArray, List.set_cons_zero, List.set_cons_succ]
          go_big_quiet_on
          go_big_quiet_want
          refine ⟨.int .i64 x.id, fun u hu => ?_, ?_⟩
          · obtain ⟨hu0, hu1, hu2, hu3⟩ := hu
            unfold Oper.quietAt
            go_simp
            refine (judge_id).mono ?_
            rintro e u9 ⟨he, r9⟩
            exact ⟨he, KE _ (trans_new hu0 r9)⟩
          simp only [Act.put, List.setIfInBounds_toArray, List.set_cons_zero, List.set_cons_succ]
          go_big_quiet_on
          go_big_quiet_want
          refine ⟨.bool false, fun u hu => ?_, ?_⟩
          · obtain ⟨hu0, hu1, hu2, hu3⟩ := hu
            unfold Oper.quietAt
            go_simp
            refine (isId_n).mono ?_
            rintro e u9 ⟨he, rfl⟩
            rw [HI.out] at he
            exact ⟨he, KE _ hu0⟩
          simp only [Act.put, List.setIfInBounds_toArray, List.set_cons_zero, List.set_cons_succ]
          go_big_quiet_on
          go_big_quiet_want
          apply Exists.intro
          refine ⟨fun u hu => ?_, ?_⟩
          · obtain ⟨hu0, hu1, hu2, hu3⟩ := hu
            unfold Oper.quietAt
            go_simp
            try rfl
          simp only [Act.put, List.setIfInBounds_toArray, List.set_cons_zero, List.set_cons_succ]
          go_big_quiet_on
          go_big_quiet_want
          go_big_quiet_op
          go_big_quiet_on
          repeat go_big_quiet_skip
          go_big_quiet_want
          apply Exists.intro
          refine ⟨fun u hu => ?_, ?_⟩
          · obtain ⟨hu0, hu1, hu2, hu3⟩ := hu
            unfold Oper.quietAt
            go_simp
            try rfl
          simp only [Act.put, List.setIfInBounds_toArray, List.set_cons_zero, List.set_cons_succ]
          go_big_quiet_on
          refine wpQuiet_nil ?_
          rintro u ⟨k9, _⟩
          go_wp2_with fail
          go_ret
          exact ⟨ret_b HV.out.symm, hb2.trans (k9.mono hz2)⟩
      | true =>
        by_cases hk0 : k = 0
        · subst hk0
          have HP := Lib.hid (asc_snoc ha.out (asc_1 HD.out hi))
          have HI := Lib.hid hi
          obtain ⟨W1, hW⟩ : ∃ W1, wr.alloc (Obj.cells #[.int .i64 x.id, .int .i64 x.club, .slice Aj x.seen.length cj] 115) = W1 := ⟨_, rfl⟩
          have bx := Bx.made wr 115 #[.int .i64 x.id, .int .i64 x.club, .slice Aj x.seen.length cj]
          have hb1 : Below wr.heap.size wr (wr.alloc (Obj.cells #[.int .i64 x.id, .int .i64 x.club, .slice Aj x.seen.length cj] 115)) := (Below.refl _ _).alloc (Nat.le_refl _) _
          rw [hW] at bx hb1
          have b0 : W1.cell? ⟨wr.heap.size, 0, none⟩ = some (.int .i64 x.id) := by rw [cell_of_row _ _ _ _ _ _ bx]; rfl
          have b1 : W1.cell? ⟨wr.heap.size, 1, none⟩ = some (.int .i64 x.club) := by rw [cell_of_row _ _ _ _ _ _ bx]; rfl
          have b2 : W1.cell? ⟨wr.heap.size, 2, none⟩ = some (.slice Aj x.seen.length cj) := by rw [cell_of_row _ _ _ _ _ _ bx]; rfl
          have HW := Lib.hid hW
          have hb2 := hb.trans (hb1.mono hb.size)
          have hz2 := hb2.size
          have KE := fun (u : World) (q : Below W1.heap.size W1 u) => show Below W1.heap.size W1 u ∧ u.cell? ⟨wr.heap.size, 0, none⟩ = some (.int .i64 x.id) ∧ u.cell? ⟨wr.heap.size, 1, none⟩ = some (.int .i64 x.club) ∧ u.cell? ⟨wr.heap.size, 2, none⟩ = some (.slice Aj x.seen.length cj) from ⟨q, nwc q b0, nwc q b1, nwc q b2⟩
          clear hi hW bx
          go_wp2_with fail
          rw [HW.out]
          refine wp_region_quiet (C := fun u => Below W1.heap.size W1 u ∧ u.cell? ⟨wr.heap.size, 0, none⟩ = some (.int .i64 x.id) ∧ u.cell? ⟨wr.heap.size, 1, none⟩ = some (.int .i64 x.club) ∧ u.cell? ⟨wr.heap.size, 2, none⟩ = some (.slice Aj x.seen.length cj)) (by kernel_rfl) (by kernel_rfl) (KE _ (Below.refl W1.heap.size W1).drew) ?_
          rw [List.toList_toArray]
          go_big_quiet_want
          go_big_quiet_op
          go_big_quiet_on
          go_big_quiet_want
          apply Exists.intro
          refine ⟨fun u hu => ?_, ?_⟩
          · obtain ⟨hu0, hu1, hu2, hu3⟩ := hu
            unfold Oper.quietAt
            go_simp
            try rfl
          simp only [Act.put, List.setIfInBounds_toArray, List.set_cons_zero, List.set_cons_succ]
          go_big_quiet_on
          go_big_quiet_want
          refine ⟨.int .i64 x.id, fun u hu => ?_, ?_⟩
          · obtain ⟨hu0, hu1, hu2, hu3⟩ := hu
            unfold Oper.quietAt
            go_simp
            refine (judge_id).mono ?_
            rintro e u9 ⟨he, r9⟩
            exact ⟨he, KE _ (trans_new hu0 r9)⟩
          simp only [Act.put, List.setIfInBounds_toArray, List.set_cons_zero, List.set_cons_succ]
          go_big_quiet_on
          go_big_quiet_want
          refine ⟨.bool true, fun u hu => ?_, ?_⟩
          · obtain ⟨hu0, hu1, hu2, hu3⟩ := hu
            unfold Oper.quietAt
            go_simp
            refine (isId_n).mono ?_
            rintro e u9 ⟨he, rfl⟩
            rw [HI.out] at he
            exact ⟨he, KE _ hu0⟩
          simp only [Act.put, List.setIfInBounds_toArray, List.set_cons_zero, List.set_cons_succ]
          go_big_quiet_on
          go_big_quiet_want
          apply Exists.intro
          refine ⟨fun u hu => ?_, ?_⟩
          · obtain ⟨hu0, hu1, hu2, hu3⟩ := hu
            unfold Oper.quietAt
            go_simp
            try rfl
          simp only [Act.put, List.setIfInBounds_toArray, List.set_cons_zero, List.set_cons_succ]
          go_big_quiet_on
          go_big_quiet_want
          go_big_quiet_op
          go_big_quiet_on
          go_big_quiet_want
          go_big_quiet_op
          go_big_quiet_on
          go_big_quiet_want
          apply Exists.intro
          refine ⟨fun u hu => ?_, ?_⟩
          · obtain ⟨hu0, hu1, hu2, hu3⟩ := hu
            unfold Oper.quietAt
            go_simp
            try rfl
          simp only [Act.put, List.setIfInBounds_toArray, List.set_cons_zero, List.set_cons_succ]
          go_big_quiet_on
          go_big_quiet_want
          go_big_quiet_op
          go_big_quiet_on
          repeat go_big_quiet_skip
          go_big_quiet_want
          apply Exists.intro
          refine ⟨fun u hu => ?_, ?_⟩
          · obtain ⟨hu0, hu1, hu2, hu3⟩ := hu
            unfold Oper.quietAt
            go_simp
            try rfl
          simp only [Act.put, List.setIfInBounds_toArray, List.set_cons_zero, List.set_cons_succ]
          go_big_quiet_on
          go_big_quiet_want
          apply Exists.intro
          refine ⟨fun u hu => ?_, ?_⟩
          · obtain ⟨hu0, hu1, hu2, hu3⟩ := hu
            unfold Oper.quietAt
            go_simp
            try rfl
          simp only [Act.put, List.setIfInBounds_toArray, List.set_cons_zero, List.set_cons_succ]
          go_big_quiet_on
          refine wpQuiet_nil ?_
          rintro u ⟨k9, _⟩
          go_wp2_with fail
          go_roundw
          case rel => exact ⟨1, by omega, by go_num, HP, hb2.trans (k9.mono hz2)⟩
          case measure => simp [intOf]; omega
        · obtain ⟨j, hj⟩ : ∃ j, k = j + 1 := ⟨k - 1, by omega⟩
          have hk1 : j < X.length := by omega
          have hkj : j < ((X.map Jd.id)).length := by omega
          have j0 : (0 : Int) ≤ (j : Int) := by omega
          have j1 : (j : Int) < (n : Int) := by omega
          have hwj : IntKind.i64.wrap ((k : Int) - 1) = (j : Int) := (IntWalk.i64_in ((k : Int) - 1) (by omega)).trans (by omega)
          have hkp : 0 < k := by omega
          have hkp' : (0 : Int) < (k : Int) := by omega
          have dk : decide ((0 : Int) < (k : Int)) = true := decide_eq_true hkp'
          obtain ⟨ad', p', e', hp', hab', Bj, dj, g0, g1, g2, _, _, _⟩ := ((hr.below hb).more hb.size).at_ hk1
          injection e' with e'
          subst e'
          have hDj : ((X.map Jd.id)).getD j 0 = X[j].id := by rw [ascD hkj]; try simp
          obtain ⟨y, hy⟩ : ∃ y, y = X[j] := ⟨_, rfl⟩
          rw [← hy] at g0 g1 g2 hDj
          have HA := Lib.hid (asc_2 HD.out hj hDj hi)
          have HI := Lib.hid hi
          clear hy hDj hj hi
          obtain ⟨W1, hW⟩ : ∃ W1, wr.alloc (Obj.cells #[.int .i64 x.id, .int .i64 x.club, .slice Aj x.seen.length cj] 115) = W1 := ⟨_, rfl⟩
          have bx := Bx.made wr 115 #[.int .i64 x.id, .int .i64 x.club, .slice Aj x.seen.length cj]
          have hb1 : Below wr.heap.size wr (wr.alloc (Obj.cells #[.int .i64 x.id, .int .i64 x.club, .slice Aj x.seen.length cj] 115)) := (Below.refl _ _).alloc (Nat.le_refl _) _
          rw [hW] at bx hb1
          have b0 : W1.cell? ⟨wr.heap.size, 0, none⟩ = some (.int .i64 x.id) := by rw [cell_of_row _ _ _ _ _ _ bx]; rfl
          have b1 : W1.cell? ⟨wr.heap.size, 1, none⟩ = some (.int .i64 x.club) := by rw [cell_of_row _ _ _ _ _ _ bx]; rfl
          have b2 : W1.cell? ⟨wr.heap.size, 2, none⟩ = some (.slice Aj x.seen.length cj) := by rw [cell_of_row _ _ _ _ _ _ bx]; rfl
          have HW := Lib.hid hW
          have hb2 := hb.trans (hb1.mono hb.size)
          have hz2 := hb2.size
          have d0 := nwc hb1 g0
          have d1 := nwc hb1 g1
          have d2 := nwc hb1 g2
          have KE := fun (u : World) (q : Below W1.heap.size W1 u) => show Below W1.heap.size W1 u ∧ u.cell? ⟨wr.heap.size, 0, none⟩ = some (.int .i64 x.id) ∧ u.cell? ⟨wr.heap.size, 1, none⟩ = some (.int .i64 x.club) ∧ u.cell? ⟨wr.heap.size, 2, none⟩ = some (.slice Aj x.seen.length cj) ∧ u.cell? p' = some (.int .i64 y.id) ∧ u.cell? ⟨p'.block, p'.off + 1, none⟩ = some (.int .i64 y.club) ∧ u.cell? ⟨p'.block, p'.off + 2, none⟩ = some (.slice Bj y.seen.length dj) from ⟨q, nwc q b0, nwc q b1, nwc q b2, nwc q d0, nwc q d1, nwc q d2⟩
          clear hW bx
          by_cases hxy : y.id < x.id
          · have HP := Lib.hid (asc_snoc ha.out (HA.out.trans (decide_eq_true hxy)))
            have e1 : decide (x.id ≤ y.id) = false := decide_eq_false (by omega)
            go_wp2_with fail
            rw [HW.out]
            refine wp_region_quiet (C := fun u => Below W1.heap.size W1 u ∧ u.cell? ⟨wr.heap.size, 0, none⟩ = some (.int .i64 x.id) ∧ u.cell? ⟨wr.heap.size, 1, none⟩ = some (.int .i64 x.club) ∧ u.cell? ⟨wr.heap.size, 2, none⟩ = some (.slice Aj x.seen.length cj) ∧ u.cell? p' = some (.int .i64 y.id) ∧ u.cell? ⟨p'.block, p'.off + 1, none⟩ = some (.int .i64 y.club) ∧ u.cell? ⟨p'.block, p'.off + 2, none⟩ = some (.slice Bj y.seen.length dj)) (by kernel_rfl) (by kernel_rfl) (KE _ (Below.refl W1.heap.size W1).drew) ?_
            rw [List.toList_toArray]
            go_big_quiet_want
            go_big_quiet_op
            go_big_quiet_on
            go_big_quiet_want
            apply Exists.intro
            refine ⟨fun u hu => ?_, ?_⟩
            · obtain ⟨hu0, hu1, hu2, hu3, hu4, hu5, hu6⟩ := hu
              unfold Oper.quietAt
              go_simp
              try rfl
            simp only [Act.put, List.setIfInBounds_toArray, List.set_cons_zero, List.set_cons_succ]
            go_big_quiet_on
            go_big_quiet_want
            refine ⟨.int .i64 x.id, fun u hu => ?_, ?_⟩
            · obtain ⟨hu0, hu1, hu2, hu3, hu4, hu5, hu6⟩ := hu
              unfold Oper.quietAt
              go_simp
              refine (judge_id).mono ?_
              rintro e u9 ⟨he, r9⟩
              exact ⟨he, KE _ (trans_new hu0 r9)⟩
            simp only [Act.put, List.setIfInBounds_toArray, List.set_cons_zero, List.set_cons_succ]
            go_big_quiet_on
            go_big_quiet_want
            refine ⟨.bool true, fun u hu => ?_, ?_⟩
            · obtain ⟨hu0, hu1, hu2, hu3, hu4, hu5, hu6⟩ := hu
              unfold Oper.quietAt
              go_simp
              refine (isId_n).mono ?_
              rintro e u9 ⟨he, rfl⟩
              rw [HI.out] at he
              exact ⟨he, KE _ hu0⟩
            simp only [Act.put, List.setIfInBounds_toArray, List.set_cons_zero, List.set_cons_succ]
            go_big_quiet_on
            go_big_quiet_want
            apply Exists.intro
            refine ⟨fun u hu => ?_, ?_⟩
            · obtain ⟨hu0, hu1, hu2, hu3, hu4, hu5, hu6⟩ := hu
              unfold Oper.quietAt
              go_simp
              try rfl
            simp only [Act.put, List.setIfInBounds_toArray, List.set_cons_zero, List.set_cons_succ]
            go_big_quiet_on
            go_big_quiet_want
            go_big_quiet_op
            go_big_quiet_on
            go_big_quiet_want
            go_big_quiet_op
            go_big_quiet_on
            go_big_quiet_want
            apply Exists.intro
            refine ⟨fun u hu => ?_, ?_⟩
            · obtain ⟨hu0, hu1, hu2, hu3, hu4, hu5, hu6⟩ := hu
              unfold Oper.quietAt
              go_simp
              try rfl
            simp only [Act.put, List.setIfInBounds_toArray, List.set_cons_zero, List.set_cons_succ]
            go_big_quiet_on
            go_big_quiet_want
            go_big_quiet_op
            go_big_quiet_on
            go_big_quiet_want
            go_big_quiet_op
            go_big_quiet_on
            go_big_quiet_want
            apply Exists.intro
            refine ⟨fun u hu => ?_, ?_⟩
            · obtain ⟨hu0, hu1, hu2, hu3, hu4, hu5, hu6⟩ := hu
              unfold Oper.quietAt
              go_simp
              try rfl
            simp only [Act.put, List.setIfInBounds_toArray, List.set_cons_zero, List.set_cons_succ]
            go_big_quiet_on
            go_big_quiet_want
            refine ⟨.int .i64 x.id, fun u hu => ?_, ?_⟩
            · obtain ⟨hu0, hu1, hu2, hu3, hu4, hu5, hu6⟩ := hu
              unfold Oper.quietAt
              go_simp
              refine (judge_id).mono ?_
              rintro e u9 ⟨he, r9⟩
              exact ⟨he, KE _ (trans_new hu0 r9)⟩
            simp only [Act.put, List.setIfInBounds_toArray, List.set_cons_zero, List.set_cons_succ]
            go_big_quiet_on
            go_big_quiet_want
            go_big_quiet_op
            go_big_quiet_on
            go_big_quiet_want
            go_big_quiet_op
            go_big_quiet_on
            go_big_quiet_want
            go_big_quiet_op
            go_big_quiet_on
            go_big_quiet_want
            apply Exists.intro
            refine ⟨fun u hu => ?_, ?_⟩
            · obtain ⟨hu0, hu1, hu2, hu3, hu4, hu5, hu6⟩ := hu
              unfold Oper.quietAt
              go_simp
              try rfl
            simp only [Act.put, List.setIfInBounds_toArray, List.set_cons_zero, List.set_cons_succ]
            go_big_quiet_on
            go_big_quiet_want
            apply Exists.intro
            refine ⟨fun u hu => ?_, ?_⟩
            · obtain ⟨hu0, hu1, hu2, hu3, hu4, hu5, hu6⟩ := hu
              unfold Oper.quietAt
              go_simp
              try rfl
            simp only [Act.put, List.setIfInBounds_toArray, List.set_cons_zero, List.set_cons_succ]
            go_big_quiet_on
            go_big_quiet_want
            apply Exists.intro
            refine ⟨fun u hu => ?_, ?_⟩
            · obtain ⟨hu0, hu1, hu2, hu3, hu4, hu5, hu6⟩ := hu
              unfold Oper.quietAt
              go_simp
              try rfl
            simp only [Act.put, List.setIfInBounds_toArray, List.set_cons_zero, List.set_cons_succ]
            go_big_quiet_on
            go_big_quiet_want
            refine ⟨.int .i64 y.id, fun u hu => ?_, ?_⟩
            · obtain ⟨hu0, hu1, hu2, hu3, hu4, hu5, hu6⟩ := hu
              unfold Oper.quietAt
              go_simp
              refine (judge_id).mono ?_
              rintro e u9 ⟨he, r9⟩
              exact ⟨he, KE _ (trans_new hu0 r9)⟩
            simp only [Act.put, List.setIfInBounds_toArray, List.set_cons_zero, List.set_cons_succ]
            go_big_quiet_on
            go_big_quiet_want
            apply Exists.intro
            refine ⟨fun u hu => ?_, ?_⟩
            · obtain ⟨hu0, hu1, hu2, hu3, hu4, hu5, hu6⟩ := hu
              unfold Oper.quietAt
              go_simp
              try rfl
            simp only [Act.put, List.setIfInBounds_toArray, List.set_cons_zero, List.set_cons_succ]
            go_big_quiet_on
            go_big_quiet_want
            apply Exists.intro
            refine ⟨fun u hu => ?_, ?_⟩
            · obtain ⟨hu0, hu1, hu2, hu3, hu4, hu5, hu6⟩ := hu
              unfold Oper.quietAt
              go_simp
              try rfl
            simp only [Act.put, List.setIfInBounds_toArray, List.set_cons_zero, List.set_cons_succ]
            go_big_quiet_on
            go_big_quiet_want
            apply Exists.intro
            refine ⟨fun u hu => ?_, ?_⟩
            · obtain ⟨hu0, hu1, hu2, hu3, hu4, hu5, hu6⟩ := hu
              unfold Oper.quietAt
              go_simp
              try rfl
            simp only [Act.put, List.setIfInBounds_toArray, List.set_cons_zero, List.set_cons_succ]
            go_big_quiet_on
            refine wpQuiet_nil ?_
            rintro u ⟨k9, _⟩
            go_wp2_with fail
            go_roundw
            case rel => exact ⟨k + 1, by omega, by go_num, HP, hb2.trans (k9.mono hz2)⟩
            case measure => simp [intOf]; omega
          · have HV := Lib.hid (asc_no hki (HA.out.trans (decide_eq_false hxy)))
            have e1 : decide (x.id ≤ y.id) = true := decide_eq_true (by omega)
            go_wp2_with fail
            rw [HW.out]
            refine wp_region_quiet (C := fun u => Below W1.heap.size W1 u ∧ u.cell? ⟨wr.heap.size, 0, none⟩ = some (.int .i64 x.id) ∧ u.cell? ⟨wr.heap.size, 1, none⟩ = some (.int .i64 x.club) ∧ u.cell? ⟨wr.heap.size, 2, none⟩ = some (.slice Aj x.seen.length cj) ∧ u.cell? p' = some (.int .i64 y.id) ∧ u.cell? ⟨p'.block, p'.off + 1, none⟩ = some (.int .i64 y.club) ∧ u.cell? ⟨p'.block, p'.off + 2, none⟩ = some (.slice Bj y.seen.length dj)) (by kernel_rfl) (by kernel_rfl) (KE _ (Below.refl W1.heap.size W1).drew) ?_
            rw [List.toList_toArray]
            go_big_quiet_want
            go_big_quiet_op
            go_big_quiet_on
            go_big_quiet_want
            apply Exists.intro
            refine ⟨fun u hu => ?_, ?_⟩
            · obtain ⟨hu0, hu1, hu2, hu3, hu4, hu5, hu6⟩ := hu
              unfold Oper.quietAt
              go_simp
              try rfl
            simp only [Act.put, List.setIfInBounds_toArray, List.set_cons_zero, List.set_cons_succ]
            go_big_quiet_on
            go_big_quiet_want
            refine ⟨.int .i64 x.id, fun u hu => ?_, ?_⟩
            · obtain ⟨hu0, hu1, hu2, hu3, hu4, hu5, hu6⟩ := hu
              unfold Oper.quietAt
              go_simp
              refine (judge_id).mono ?_
              rintro e u9 ⟨he, r9⟩
              exact ⟨he, KE _ (trans_new hu0 r9)⟩
            simp only [Act.put, List.setIfInBounds_toArray, List.set_cons_zero, List.set_cons_succ]
            go_big_quiet_on
            go_big_quiet_want
            refine ⟨.bool true, fun u hu => ?_, ?_⟩
            · obtain ⟨hu0, hu1, hu2, hu3, hu4, hu5, hu6⟩ := hu
              unfold Oper.quietAt
              go_simp
              refine (isId_n).mono ?_
              rintro e u9 ⟨he, rfl⟩
              rw [HI.out] at he
              exact ⟨he, KE _ hu0⟩
            simp only [Act.put, List.setIfInBounds_toArray, List.set_cons_zero, List.set_cons_succ]
            go_big_quiet_on
            go_big_quiet_want
            apply Exists.intro
            refine ⟨fun u hu => ?_, ?_⟩
            · obtain ⟨hu0, hu1, hu2, hu3, hu4, hu5, hu6⟩ := hu
              unfold Oper.quietAt
              go_simp
              try rfl
            simp only [Act.put, List.setIfInBounds_toArray, List.set_cons_zero, List.set_cons_succ]
            go_big_quiet_on
            go_big_quiet_want
            go_big_quiet_op
            go_big_quiet_on
            go_big_quiet_want
            go_big_quiet_op
            go_big_quiet_on
            go_big_quiet_want
            apply Exists.intro
            refine ⟨fun u hu => ?_, ?_⟩
            · obtain ⟨hu0, hu1, hu2, hu3, hu4, hu5, hu6⟩ := hu
              unfold Oper.quietAt
              go_simp
              try rfl
            simp only [Act.put, List.setIfInBounds_toArray, List.set_cons_zero, List.set_cons_succ]
            go_big_quiet_on
            go_big_quiet_want
            go_big_quiet_op
            go_big_quiet_on
            go_big_quiet_want
            go_big_quiet_op
            go_big_quiet_on
            go_big_quiet_want
            apply Exists.intro
            refine ⟨fun u hu => ?_, ?_⟩
            · obtain ⟨hu0, hu1, hu2, hu3, hu4, hu5, hu6⟩ := hu
              unfold Oper.quietAt
              go_simp
              try rfl
            simp only [Act.put, List.setIfInBounds_toArray, List.set_cons_zero, List.set_cons_succ]
            go_big_quiet_on
            go_big_quiet_want
            refine ⟨.int .i64 x.id, fun u hu => ?_, ?_⟩
            · obtain ⟨hu0, hu1, hu2, hu3, hu4, hu5, hu6⟩ := hu
              unfold Oper.quietAt
              go_simp
              refine (judge_id).mono ?_
              rintro e u9 ⟨he, r9⟩
              exact ⟨he, KE _ (trans_new hu0 r9)⟩
            simp only [Act.put, List.setIfInBounds_toArray, List.set_cons_zero, List.set_cons_succ]
            go_big_quiet_on
            go_big_quiet_want
            go_big_quiet_op
            go_big_quiet_on
            go_big_quiet_want
            go_big_quiet_op
            go_big_quiet_on
            go_big_quiet_want
            go_big_quiet_op
            go_big_quiet_on
            go_big_quiet_want
            apply Exists.intro
            refine ⟨fun u hu => ?_, ?_⟩
            · obtain ⟨hu0, hu1, hu2, hu3, hu4, hu5, hu6⟩ := hu
              unfold Oper.quietAt
              go_simp
              try rfl
            simp only [Act.put, List.setIfInBounds_toArray, List.set_cons_zero, List.set_cons_succ]
            go_big_quiet_on
            go_big_quiet_want
            apply Exists.intro
            refine ⟨fun u hu => ?_, ?_⟩
            · obtain ⟨hu0, hu1, hu2, hu3, hu4, hu5, hu6⟩ := hu
              unfold Oper.quietAt
              go_simp
              try rfl
            simp only [Act.put, List.setIfInBounds_toArray, List.set_cons_zero, List.set_cons_succ]
            go_big_quiet_on
            go_big_quiet_want
            apply Exists.intro
            refine ⟨fun u hu => ?_, ?_⟩
            · obtain ⟨hu0, hu1, hu2, hu3, hu4, hu5, hu6⟩ := hu
              unfold Oper.quietAt
              go_simp
              try rfl
            simp only [Act.put, List.setIfInBounds_toArray, List.set_cons_zero, List.set_cons_succ]
            go_big_quiet_on
            go_big_quiet_want
            refine ⟨.int .i64 y.id, fun u hu => ?_, ?_⟩
            · obtain ⟨hu0, hu1, hu2, hu3, hu4, hu5, hu6⟩ := hu
              unfold Oper.quietAt
              go_simp
              refine (judge_id).mono ?_
              rintro e u9 ⟨he, r9⟩
              exact ⟨he, KE _ (trans_new hu0 r9)⟩
            simp only [Act.put, List.setIfInBounds_toArray, List.set_cons_zero, List.set_cons_succ]
            go_big_quiet_on
            go_big_quiet_want
            apply Exists.intro
            refine ⟨fun u hu => ?_, ?_⟩
            · obtain ⟨hu0, hu1, hu2, hu3, hu4, hu5, hu6⟩ := hu
              unfold Oper.quietAt
              go_simp
              try rfl
            simp only [Act.put, List.setIfInBounds_toArray, List.set_cons_zero, List.set_cons_succ]
            go_big_quiet_on
            go_big_quiet_want
            apply Exists.intro
            refine ⟨fun u hu => ?_, ?_⟩
            · obtain ⟨hu0, hu1, hu2, hu3, hu4, hu5, hu6⟩ := hu
              unfold Oper.quietAt
              go_simp
              try rfl
            simp only [Act.put, List.setIfInBounds_toArray, List.set_cons_zero, List.set_cons_succ]
            go_big_quiet_on
            go_big_quiet_want
            apply Exists.intro
            refine ⟨fun u hu => ?_, ?_⟩
            · obtain ⟨hu0, hu1, hu2, hu3, hu4, hu5, hu6⟩ := hu
              unfold Oper.quietAt
              go_simp
              try rfl
            simp only [Act.put, List.setIfInBounds_toArray, List.set_cons_zero, List.set_cons_succ]
            go_big_quiet_on
            refine wpQuiet_nil ?_
            rintro u ⟨k9, _⟩
            go_wp2_with fail
            go_ret
            exact ⟨ret_b HV.out.symm, hb2.trans (k9.mono hz2)⟩
    · have e : k = n := by omega
      subst e
      have HV := Lib.hid (asc_end HL.out ha.out)
      go_wp2_with fail
      go_ret
      exact ⟨ret_b HV.out.symm, hb⟩
end Go.Proofs.Ythkigilegnjglaa
