/- Contracts of the models of chapter 17: l17At, IsRanking, AreRankings, Prefer. Condition: the slices have at most 2^40 elements. -/
import Derived.Test.YtjjgdeojbpcjjaaRkMath
import Derived.Test.YtjjgdeojbpcjjaaSets
import Derived.Test.YtjjgdeojbpcjjaaOrdA
import Derived.Test.YtjjgdeojbpcjjaaIntSS
import Derived.Test.YtjjgdeojbpcjjaaInts
namespace Go.Proofs.Ytjjgdeojbpcjjaa
open Go.ChangeShapes Go.WideShapes Go.ChangeAt Go.RowKit
set_option maxRecDepth 100000
def NoA (S : List Int) (a : Int) (k : Nat) : Prop := ∀ j (hj : j < S.length), j < k → S[j] ≠ a
theorem NoA.succ {S : List Int} {a : Int} {k : Nat} (h : NoA S a k) (hk : k < S.length) (h2 : S[k] ≠ a) : NoA S a (k + 1) := fun j hj hjk => by
  by_cases e : j = k
  · subst e; exact h2
  · exact h j hj (by omega)
theorem NoA.none {S : List Int} {a : Int} (h : NoA S a S.length) : atI S a = -1 := at_no fun hm => by
  obtain ⟨j, hj, e⟩ := List.getElem_of_mem hm
  exact h j hj hj e
theorem NoA.some {S : List Int} {a : Int} {k : Nat} (h : NoA S a k) (hk : k < S.length) (he : S[k] = a) : atI S a = k := at_some hk he fun j hj => h j (by omega) hj
theorem l17At_any {w : World} {B : Nat} {A : Option Addr} {n c : Nat} {a : Int} {S : List Int} (hl : Hid (S.length = n)) (hn : n ≤ 1099511627776) (hr : Rd w B A (ivs S)) :
    Calls Try.prog 70 #[.slice A n c, .int .i64 a] w (fun e w' => e = .returned (.int .i64 (atI S a)) ∧ w = w') := by
  go_enter Try.func70, Try.ntmps70
  go_wp2_with fail
  go_loopw [5] (fun i wr => ∃ k : Nat, k ≤ n ∧ i = .int .i64 k ∧ wr = w ∧ Hid (NoA S a k)) (fun i _ => n - (intOf i).toNat)
  case atStart => exact ⟨0, Nat.zero_le _, rfl, rfl, Lib.hid (fun j _ hj => absurd hj (by omega))⟩
  case round =>
    obtain ⟨k, hk, rfl, rfl, hno⟩ := hrel
    by_cases hlt : k < n
    · have hkz : k < S.length := by rw [hl.out]; exact hlt
      obtain ⟨ad, rfl, hab, hc⟩ := ivs_at hr hkz
      have i0 : (0 : Int) ≤ (k : Int) := by omega
      by_cases h1 : S[k] = a
      · have HV := Lib.hid (hno.out.some hkz h1)
        rw [h1] at hc
        clear h1
        go_wp2_with fail
        go_ret
        exact ⟨ret_i HV.out.symm, rfl⟩
      · have HN := Lib.hid (hno.out.succ hkz h1)
        obtain ⟨z, hz⟩ : ∃ z, z = S[k] := ⟨_, rfl⟩
        rw [← hz] at hc h1
        have h1' : (z == a) = false := by simpa using h1
        clear hz
        go_wp2_with fail
        go_roundw
        case rel => exact ⟨k + 1, by omega, by go_num, trivial, HN⟩
        case measure => simp [intOf]; omega
    · have e : k = n := by omega
      subst e
      have HV := Lib.hid (NoA.none (a := a) (S := S) (by rw [hl.out]; exact hno.out))
      go_wp2_with fail
      go_ret
      exact ⟨ret_i HV.out.symm, rfl⟩
/-- What the model looks at, up to k. -/
def RkTo (S : List Int) (N : Int) (k : Nat) : Prop := (S.take k).Nodup ∧ ∀ x ∈ S.take k, 0 ≤ x ∧ x < N
theorem RkTo.succ {S : List Int} {N : Int} {k : Nat} (h : RkTo S N k) (hk : k < S.length) (h1 : inr S[k] 0 (N - 1) = true) (h2 : (S.take k).contains S[k] = false) : RkTo S N (k + 1) := by
  have h1' : 0 ≤ S[k] ∧ S[k] < N := by unfold inr at h1; simp at h1; omega
  have h2' : S[k] ∉ S.take k := by simpa using h2
  unfold RkTo
  rw [List.take_succ_eq_append_getElem hk]
  refine ⟨List.nodup_append.2 ⟨h.1, by simp, fun a ha b hb e => ?_⟩, fun x hx => ?_⟩
  · have : b = S[k] := by simpa using hb
    subst this
    exact h2' (e ▸ ha)
  · rcases List.mem_append.1 hx with hx | hx
    · exact h.2 x hx
    · have : x = S[k] := by simpa using hx
      rw [this]; exact h1'
theorem rk_bad1 {S : List Int} {N : Int} {k : Nat} (hk : k < S.length) (h1 : inr S[k] 0 (N - 1) = false) : rkB S N = false := by
  cases h : rkB S N with
  | false => rfl
  | true =>
    have := (rk_parts h).2.2.2.2 S[k] (List.getElem_mem _)
    rw [inr_t this.1 (by omega)] at h1
    cases h1
theorem rk_bad2 {S : List Int} {N : Int} {k : Nat} (hk : k < S.length) (h1 : (S.take k).contains S[k] = true) : rkB S N = false := by
  cases h : rkB S N with
  | false => rfl
  | true =>
    have hn := (rk_parts h).2.2.2.1
    have hm : S[k] ∈ S.take k := by simpa using h1
    obtain ⟨j, hj, e⟩ := List.getElem_of_mem hm
    have hjk : j < k := by simp at hj; omega
    rw [List.getElem_take] at e
    have := (List.getElem_inj hn).1 e
    omega
theorem rk_bad0 {S : List Int} {N : Int} (h : ¬ (1 ≤ N ∧ N ≤ 8) ∨ (S.length : Int) ≠ N) : rkB S N = false := by
  unfold rkB
  rw [decide_eq_false_iff_not]
  rintro ⟨a, b, c, _⟩
  rcases h with h | h
  · exact h ⟨a, b⟩
  · exact h c
theorem rk_good {S : List Int} {N : Int} (h1 : 1 ≤ N) (h2 : N ≤ 8) (h3 : (S.length : Int) = N) (h : RkTo S N S.length) : rkB S N = true := by
  unfold RkTo at h
  rw [List.take_of_length_le (Nat.le_refl _)] at h
  exact decide_eq_true ⟨h1, h2, h3, h.1, h.2⟩
theorem int_size {w : World} : (Go.sizeOf 3).run Try.prog w = .ok 1 w := by kernel_rfl
theorem nwc3 {w w' : World} {p : Addr} {v : Value} (r : Below w.heap.size w w') (h : w.cell? p = some v) : w'.cell? p = some v := (r.cell (p := p) (cell_lt h)).trans h
set_option maxHeartbeats 2000000 in
theorem specIsRanking_any {w : World} {A : Option Addr} {n c : Nat} {N : Int} {S : List Int} (hl : Hid (S.length = n)) (hn : n ≤ 1099511627776) (hcn : n ≤ c) (hr : Rd w w.heap.size A (ivs S)) :
    Calls Try.prog 125 #[.slice A n c, .int .i64 N] w (Tells (rkB S N) w) := by
  by_cases hr1 : 1 ≤ N ∧ N ≤ 8
  · by_cases hlen : (n : Int) = N
    · subst hlen
      have H1 := Lib.hid (inr_t hr1.1 hr1.2)
      have i1 : ((n : Int) != (n : Int)) = false := by simp
      have e1 : IntKind.i64.wrap ((n : Int) - 1) = (n : Int) - 1 := IntWalk.i64_in _ (by omega)
      go_enter Try.func125, Try.ntmps125
      go_wp2_with fail
      refine (l1In_any _ _ _ _).mono ?_
      rintro e u ⟨rfl, rfl⟩
      rw [H1.out]
      go_wp2_with fail
      go_loopw [5] (fun i wr => ∃ k : Nat, k ≤ n ∧ i = .int .i64 k ∧ Hid (RkTo S n k) ∧ Below w.heap.size w wr) (fun i _ => n - (intOf i).toNat)
      case atStart => exact ⟨0, Nat.zero_le _, rfl, Lib.hid ⟨by simp, by simp⟩, Below.refl _ _⟩
      case round =>
        obtain ⟨k, hk, rfl, hto, hb⟩ := hrel
        have hsz := hb.size
        by_cases hlt : k < n
        · have hkz : k < S.length := by rw [hl.out]; exact hlt
          have hrr := (hr.below hb).more hb.size
          obtain ⟨ad, rfl, hab, hc⟩ := ivs_at hrr hkz
          have i0 : (0 : Int) ≤ (k : Int) := by omega
          have i2 : (k : Int) < (n : Int) := by omega
          have i3 : (k : Int) ≤ (c : Int) := by omega
          have HSL := fun W => run_to W 27 3 Try.underlying27 (fun w => int_size) (some ad) (n := n) (c := c) (k := k) (by omega)
          have hrk : Rd wr wr.heap.size (some ad) (ivs (S.take k)) := fun j u hu => by
            have hj : j < k := by
              rcases Nat.lt_or_ge j k with h | h
              · exact h
              · rw [List.getElem?_eq_none (by rw [ivs_len]; simp; omega)] at hu; cases hu
            refine hrr j u ?_
            rw [← hu]
            unfold ivs
            rw [List.getElem?_map, List.getElem?_map, List.getElem?_take, if_pos hj]
          have htl : (S.take k).length = k := by simp; omega
          have HTL := Lib.hid htl
          have HRK := Lib.hid hrk
          have HY := Lib.hid (fun h1 h2 => hto.out.succ hkz h1 h2)
          have HN1 := Lib.hid (fun h => rk_bad1 (S := S) (N := n) hkz h)
          have HN2 := Lib.hid (fun h => rk_bad2 (S := S) (N := n) hkz h)
          obtain ⟨z, hz⟩ : ∃ z, z = S[k] := ⟨_, rfl⟩
          obtain ⟨T, hT⟩ : ∃ T, T = S.take k := ⟨_, rfl⟩
          rw [← hz] at hc HY HN1 HN2
          rw [← hT] at HY HN2 HTL HRK
          have KE := fun (u : World) (q : Below wr.heap.size wr u) => show Below wr.heap.size wr u ∧ u.cell? (ad.add k) = some (.int .i64 z) from ⟨q, nwc3 q hc⟩
          clear hz hT hrr hrk htl
          cases hi : inr z 0 ((n : Int) - 1) with
          | false =>
            have HV := Lib.hid (HN1.out hi)
            have HI := Lib.hid hi
            clear hi
            go_wp2_with fail
            refine wp_region_quiet (C := fun u => Below wr.heap.size wr u ∧ u.cell? (ad.add k) = some (.int .i64 z)) (by kernel_rfl) (by kernel_rfl) (KE _ (Below.refl wr.heap.size wr).drew) ?_
            rw [List.toList_toArray]
            go_big_quiet_want
            go_big_quiet_op
            go_big_quiet_on
            go_big_quiet_want
            go_big_quiet_op
            go_big_quiet_on
            go_big_quiet_want
            apply Exists.intro
            refine ⟨fun u hu => ?_, ?_⟩
            · obtain ⟨hu0, hu1⟩ := hu
              unfold Oper.quietAt
              go_simp
              try rfl
            simp only [Act.put, List.setIfInBounds_toArray, List.set_cons_zero, List.set_cons_succ]
            go_big_quiet_on
            go_big_quiet_want
            apply Exists.intro
            refine ⟨fun u hu => ?_, ?_⟩
            · obtain ⟨hu0, hu1⟩ := hu
              unfold Oper.quietAt
              go_simp
              try rfl
            simp only [Act.put, List.setIfInBounds_toArray, List.set_cons_zero, List.set_cons_succ]
            go_big_quiet_on
            go_big_quiet_want
            go_big_quiet_op
            go_big_quiet_on
            go_big_quiet_want
            apply Exists.intro
            refine ⟨fun u hu => ?_, ?_⟩
            · obtain ⟨hu0, hu1⟩ := hu
              unfold Oper.quietAt
              go_simp
              try rfl
            simp only [Act.put, List.setIfInBounds_toArray, List.set_cons_zero, List.set_cons_succ]
            go_big_quiet_on
            go_big_quiet_want
            refine ⟨.bool false, fun u hu => ?_, ?_⟩
            · obtain ⟨hu0, hu1⟩ := hu
              unfold Oper.quietAt
              go_simp
              refine (l1In_any _ _ _ _).mono ?_
              rintro e u9 ⟨he, rfl⟩
              rw [HI.out] at he
              exact ⟨he, KE _ hu0⟩
            simp only [Act.put, List.setIfInBounds_toArray, List.set_cons_zero, List.set_cons_succ]
            go_big_quiet_on
            go_big_quiet_want
            apply Exists.intro
            refine ⟨fun u hu => ?_, ?_⟩
            · obtain ⟨hu0, hu1⟩ := hu
              unfold Oper.quietAt
              go_simp
              try rfl
            simp only [Act.put, List.setIfInBounds_toArray, List.set_cons_zero, List.set_cons_succ]
            go_big_quiet_on
            go_big_quiet_want
            go_big_quiet_op
            go_big_quiet_on
            repeat go_big_quiet_skip
            go_big_quiet_want
            apply Exists.intro
            refine ⟨fun u hu => ?_, ?_⟩
            · obtain ⟨hu0, hu1⟩ := hu
              unfold Oper.quietAt
              go_simp
              try rfl
            simp only [Act.put, List.setIfInBounds_toArray, List.set_cons_zero, List.set_cons_succ]
            go_big_quiet_on
            refine wpQuiet_nil ?_
            rintro u ⟨k9, _⟩
            go_wp2_with fail
            go_ret
            exact ⟨ret_b HV.out.symm, hb.trans (k9.mono hsz)⟩
          | true =>
            cases hh : T.contains z with
            | true =>
              have HV := Lib.hid (HN2.out hh)
              have HI := Lib.hid hi
              have HH := Lib.hid hh
              clear hi hh
              go_wp2_with fail
              refine wp_region_quiet (C := fun u => Below wr.heap.size wr u ∧ u.cell? (ad.add k) = some (.int .i64 z)) (by kernel_rfl) (by kernel_rfl) (KE _ (Below.refl wr.heap.size wr).drew) ?_
              rw [List.toList_toArray]
              go_big_quiet_want
              go_big_quiet_op
              go_big_quiet_on
              go_big_quiet_want
              go_big_quiet_op
              go_big_quiet_on
              go_big_quiet_want
              apply Exists.intro
              refine ⟨fun u hu => ?_, ?_⟩
              · obtain ⟨hu0, hu1⟩ := hu
                unfold Oper.quietAt
                go_simp
                try rfl
              simp only [Act.put, List.setIfInBounds_toArray, List.set_cons_zero, List.set_cons_succ]
              go_big_quiet_on
              go_big_quiet_want
              apply Exists.intro
              refine ⟨fun u hu => ?_, ?_⟩
              · obtain ⟨hu0, hu1⟩ := hu
                unfold Oper.quietAt
                go_simp
                try rfl
              simp only [Act.put, List.setIfInBounds_toArray, List.set_cons_zero, List.set_cons_succ]
              go_big_quiet_on
              go_big_quiet_want
              go_big_quiet_op
              go_big_quiet_on
              go_big_quiet_want
              apply Exists.intro
              refine ⟨fun u hu => ?_, ?_⟩
              · obtain ⟨hu0, hu1⟩ := hu
                unfold Oper.quietAt
                go_simp
                try rfl
              simp only [Act.put, List.setIfInBounds_toArray, List.set_cons_zero, List.set_cons_succ]
              go_big_quiet_on
              go_big_quiet_want
              refine ⟨.bool true, fun u hu => ?_, ?_⟩
              · obtain ⟨hu0, hu1⟩ := hu
                unfold Oper.quietAt
                go_simp
                refine (l1In_any _ _ _ _).mono ?_
                rintro e u9 ⟨he, rfl⟩
                rw [HI.out] at he
                exact ⟨he, KE _ hu0⟩
              simp only [Act.put, List.setIfInBounds_toArray, List.set_cons_zero, List.set_cons_succ]
              go_big_quiet_on
              go_big_quiet_want
              apply Exists.intro
              refine ⟨fun u hu => ?_, ?_⟩
              · obtain ⟨hu0, hu1⟩ := hu
                unfold Oper.quietAt
                go_simp
                try rfl
              simp only [Act.put, List.setIfInBounds_toArray, List.set_cons_zero, List.set_cons_succ]
              go_big_quiet_on
              go_big_quiet_want
              go_big_quiet_op
              go_big_quiet_on
              go_big_quiet_want
              go_big_quiet_op
              go_big_quiet_on
              go_big_quiet_want
              go_big_quiet_op
              go_big_quiet_on
              go_big_quiet_want
              apply Exists.intro
              refine ⟨fun u hu => ?_, ?_⟩
              · obtain ⟨hu0, hu1⟩ := hu
                unfold Oper.quietAt
                go_simp
                try rfl
              simp only [Act.put, List.setIfInBounds_toArray, List.set_cons_zero, List.set_cons_succ]
              go_big_quiet_on
              go_big_quiet_want
              go_big_quiet_op
              go_big_quiet_on
              go_big_quiet_want
              go_big_quiet_op
              go_big_quiet_on
              go_big_quiet_want
              apply Exists.intro
              refine ⟨fun u hu => ?_, ?_⟩
              · obtain ⟨hu0, hu1⟩ := hu
                unfold Oper.quietAt
                go_simp
                try rfl
              simp only [Act.put, List.setIfInBounds_toArray, List.set_cons_zero, List.set_cons_succ]
              go_big_quiet_on
              go_big_quiet_want
              apply Exists.intro
              refine ⟨fun u hu => ?_, ?_⟩
              · obtain ⟨hu0, hu1⟩ := hu
                unfold Oper.quietAt
                go_simp
                try rfl
              simp only [Act.put, List.setIfInBounds_toArray, List.set_cons_zero, List.set_cons_succ]
              go_big_quiet_on
              go_big_quiet_want
              refine ⟨.bool true, fun u hu => ?_, ?_⟩
              · obtain ⟨hu0, hu1⟩ := hu
                unfold Oper.quietAt
                go_simp
                refine (l4h_any HTL (by omega) ((HRK.out.below hu0).more hu0.size)).mono ?_
                rintro e u9 ⟨he, rfl⟩
                rw [HH.out] at he
                exact ⟨he, KE _ hu0⟩
              simp only [Act.put, List.setIfInBounds_toArray, List.set_cons_zero, List.set_cons_succ]
              go_big_quiet_on
              go_big_quiet_want
              apply Exists.intro
              refine ⟨fun u hu => ?_, ?_⟩
              · obtain ⟨hu0, hu1⟩ := hu
                unfold Oper.quietAt
                go_simp
                try rfl
              simp only [Act.put, List.setIfInBounds_toArray, List.set_cons_zero, List.set_cons_succ]
              go_big_quiet_on
              refine wpQuiet_nil ?_
              rintro u ⟨k9, _⟩
              go_wp2_with fail
              go_ret
              exact ⟨ret_b HV.out.symm, hb.trans (k9.mono hsz)⟩
            | false =>
              have HP := Lib.hid (HY.out hi hh)
              have HI := Lib.hid hi
              have HH := Lib.hid hh
              clear hi hh
              go_wp2_with fail
              refine wp_region_quiet (C := fun u => Below wr.heap.size wr u ∧ u.cell? (ad.add k) = some (.int .i64 z)) (by kernel_rfl) (by kernel_rfl) (KE _ (Below.refl wr.heap.size wr).drew) ?_
              rw [List.toList_toArray]
              go_big_quiet_want
              go_big_quiet_op
              go_big_quiet_on
              go_big_quiet_want
              go_big_quiet_op
              go_big_quiet_on
              go_big_quiet_want
              apply Exists.intro
              refine ⟨fun u hu => ?_, ?_⟩
              · obtain ⟨hu0, hu1⟩ := hu
                unfold Oper.quietAt
                go_simp
                try rfl
              simp only [Act.put, List.setIfInBounds_toArray, List.set_cons_zero, List.set_cons_succ]
              go_big_quiet_on
              go_big_quiet_want
              apply Exists.intro
              refine ⟨fun u hu => ?_, ?_⟩
              · obtain ⟨hu0, hu1⟩ := hu
                unfold Oper.quietAt
                go_simp
                try rfl
              simp only [Act.put, List.setIfInBounds_toArray, List.set_cons_zero, List.set_cons_succ]
              go_big_quiet_on
              go_big_quiet_want
              go_big_quiet_op
              go_big_quiet_on
              go_big_quiet_want
              apply Exists.intro
              refine ⟨fun u hu => ?_, ?_⟩
              · obtain ⟨hu0, hu1⟩ := hu
                unfold Oper.quietAt
                go_simp
                try rfl
              simp only [Act.put, List.setIfInBounds_toArray, List.set_cons_zero, List.set_cons_succ]
              go_big_quiet_on
              go_big_quiet_want
              refine ⟨.bool true, fun u hu => ?_, ?_⟩
              · obtain ⟨hu0, hu1⟩ := hu
                unfold Oper.quietAt
                go_simp
                refine (l1In_any _ _ _ _).mono ?_
                rintro e u9 ⟨he, rfl⟩
                rw [HI.out] at he
                exact ⟨he, KE _ hu0⟩
              simp only [Act.put, List.setIfInBounds_toArray, List.set_cons_zero, List.set_cons_succ]
              go_big_quiet_on
              go_big_quiet_want
              apply Exists.intro
              refine ⟨fun u hu => ?_, ?_⟩
              · obtain ⟨hu0, hu1⟩ := hu
                unfold Oper.quietAt
                go_simp
                try rfl
              simp only [Act.put, List.setIfInBounds_toArray, List.set_cons_zero, List.set_cons_succ]
              go_big_quiet_on
              go_big_quiet_want
              go_big_quiet_op
              go_big_quiet_on
              go_big_quiet_want
              go_big_quiet_op
              go_big_quiet_on
              go_big_quiet_want
              go_big_quiet_op
              go_big_quiet_on
              go_big_quiet_want
              apply Exists.intro
              refine ⟨fun u hu => ?_, ?_⟩
              · obtain ⟨hu0, hu1⟩ := hu
                unfold Oper.quietAt
                go_simp
                try rfl
              simp only [Act.put, List.setIfInBounds_toArray, List.set_cons_zero, List.set_cons_succ]
              go_big_quiet_on
              go_big_quiet_want
              go_big_quiet_op
              go_big_quiet_on
              go_big_quiet_want
              go_big_quiet_op
              go_big_quiet_on
              go_big_quiet_want
              apply Exists.intro
              refine ⟨fun u hu => ?_, ?_⟩
              · obtain ⟨hu0, hu1⟩ := hu
                unfold Oper.quietAt
                go_simp
                try rfl
              simp only [Act.put, List.setIfInBounds_toArray, List.set_cons_zero, List.set_cons_succ]
              go_big_quiet_on
              go_big_quiet_want
              apply Exists.intro
              refine ⟨fun u hu => ?_, ?_⟩
              · obtain ⟨hu0, hu1⟩ := hu
                unfold Oper.quietAt
                go_simp
                try rfl
              simp only [Act.put, List.setIfInBounds_toArray, List.set_cons_zero, List.set_cons_succ]
              go_big_quiet_on
              go_big_quiet_want
              refine ⟨.bool false, fun u hu => ?_, ?_⟩
              · obtain ⟨hu0, hu1⟩ := hu
                unfold Oper.quietAt
                go_simp
                refine (l4h_any HTL (by omega) ((HRK.out.below hu0).more hu0.size)).mono ?_
                rintro e u9 ⟨he, rfl⟩
                rw [HH.out] at he
                exact ⟨he, KE _ hu0⟩
              simp only [Act.put, List.setIfInBounds_toArray, List.set_cons_zero, List.set_cons_succ]
              go_big_quiet_on
              go_big_quiet_want
              apply Exists.intro
              refine ⟨fun u hu => ?_, ?_⟩
              · obtain ⟨hu0, hu1⟩ := hu
                unfold Oper.quietAt
                go_simp
                try rfl
              simp only [Act.put, List.setIfInBounds_toArray, List.set_cons_zero, List.set_cons_succ]
              go_big_quiet_on
              refine wpQuiet_nil ?_
              rintro u ⟨k9, _⟩
              go_wp2_with fail
              go_roundw
              case rel => exact ⟨k + 1, by omega, by go_num, HP, hb.trans (k9.mono hsz)⟩
              case measure => simp [intOf]; omega
        · have e : k = n := by omega
          subst e
          have HV := Lib.hid (rk_good hr1.1 hr1.2 (by rw [hl.out]) (by rw [hl.out]; exact hto.out))
          go_wp2_with fail
          go_ret
          exact ⟨ret_b HV.out.symm, hb⟩
    · have HV := Lib.hid (rk_bad0 (S := S) (N := N) (.inr (by rw [hl.out]; exact hlen)))
      have H1 := Lib.hid (inr_t hr1.1 hr1.2)
      have i1 : ((n : Int) != N) = true := by simpa using hlen
      go_enter Try.func125, Try.ntmps125
      go_wp2_with fail
      refine (l1In_any _ _ _ _).mono ?_
      rintro e u ⟨rfl, rfl⟩
      rw [H1.out]
      go_wp2_with fail
      go_ret
      exact ⟨ret_b HV.out.symm, Below.refl _ _⟩
  · have HV := Lib.hid (rk_bad0 (S := S) (N := N) (.inl hr1))
    have H1 := Lib.hid (inr_f (n := N) (lo := 1) (hi := 8) (by omega))
    clear hr1
    go_enter Try.func125, Try.ntmps125
    go_wp2_with fail
    refine (l1In_any _ _ _ _).mono ?_
    rintro e u ⟨rfl, rfl⟩
    rw [H1.out]
    go_wp2_with fail
    go_ret
    exact ⟨ret_b HV.out.symm, Below.refl _ _⟩
theorem ar_no {L : List (List Int)} {N : Int} {k : Nat} (hk : k < L.length) (h : rkB L[k] N = false) : arB L N = false := by
  unfold arB
  have : L.all (rkB · N) = false := by rw [List.all_eq_false]; exact ⟨L[k], List.getElem_mem _, by simp [h]⟩
  rw [this, Bool.and_false, Bool.and_false]
theorem ar_snoc {L : List (List Int)} {N : Int} {k : Nat} (h : (L.take k).all (rkB · N) = true) (hk : k < L.length) (h2 : rkB L[k] N = true) : (L.take (k + 1)).all (rkB · N) = true := by
  rw [List.take_succ_eq_append_getElem hk, List.all_append, h, List.all_cons, h2]
  rfl
theorem ar_end {L : List (List Int)} {N : Int} {n : Nat} (hl : L.length = n) (h : (L.take n).all (rkB · N) = true) : arB L N = (inr N 1 8 && decide (n ≤ 20)) := by
  unfold arB
  rw [List.take_of_length_le (by omega)] at h
  rw [h, hl, Bool.and_true]
  congr 1
  unfold inr
  rw [Bool.decide_and]
theorem ar_range {L : List (List Int)} {N : Int} (h : ¬ (1 ≤ N ∧ N ≤ 8)) : arB L N = false := by
  unfold arB
  rw [decide_eq_false h, Bool.false_and]
theorem ar_big {L : List (List Int)} {N : Int} (h : 20 < L.length) : arB L N = false := by
  unfold arB
  rw [decide_eq_false (show ¬ L.length ≤ 20 by omega), Bool.false_and, Bool.and_false]
set_option maxHeartbeats 2000000 in
theorem specAreRankings_any {w : World} {A : Option Addr} {n c : Nat} {N : Int} {L : List (List Int)} (hl : Hid (L.length = n)) (hn : n ≤ 1099511627776) (hs : Hid (∀ x ∈ L, x.length ≤ 1099511627776)) (hr : RdSS w w.heap.size A L) :
    Calls Try.prog 65 #[.slice A n c, .int .i64 N] w (Tells (arB L N) w) := by
  go_enter Try.func65, Try.ntmps65
  go_wp2_with fail
  go_loopw [5] (fun i wr => ∃ k : Nat, k ≤ n ∧ i = .int .i64 k ∧ Hid ((L.take k).all (rkB · N) = true) ∧ Below w.heap.size w wr) (fun i _ => n - (intOf i).toNat)
  case atStart => exact ⟨0, Nat.zero_le _, rfl, Lib.hid rfl, Below.refl _ _⟩
  case round =>
    obtain ⟨k, hk, rfl, ha, hb⟩ := hrel
    have hsz := hb.size
    by_cases hlt : k < n
    · have hkz : k < L.length := by rw [hl.out]; exact hlt
      obtain ⟨ad, Aj, cj, rfl, hab, hc, hcl, hcm, hrd⟩ := ((hr.below hb).more hsz).at_ hkz
      have hxl := hs.out L[k] (List.getElem_mem _)
      have i0 : (0 : Int) ≤ (k : Int) := by omega
      have i1 : (k : Int) < (n : Int) := by omega
      have HY := Lib.hid (fun h => ar_snoc (N := N) ha.out hkz h)
      have HN := Lib.hid (fun h => ar_no (N := N) hkz h)
      obtain ⟨x, hx⟩ : ∃ x, x = L[k] := ⟨_, rfl⟩
      rw [← hx] at hc hcl hrd hxl HY HN
      obtain ⟨b, hbb⟩ : ∃ b, rkB x N = b := ⟨_, rfl⟩
      have HB := Lib.hid hbb
      clear hx hbb
      go_wp2_with fail
      refine (specIsRanking_any (Lib.hid rfl) hxl hcl hrd).mono ?_
      rintro e w2 ⟨rfl, hb2⟩
      rw [HB.out]
      have hb3 := hb.trans (hb2.mono hsz)
      cases b with
      | false =>
        have HV := Lib.hid (HN.out HB.out)
        go_wp2_with fail
        go_ret
        exact ⟨ret_b HV.out.symm, hb3⟩
      | true =>
        have HP := Lib.hid (HY.out HB.out)
        go_wp2_with fail
        go_roundw
        case rel => exact ⟨k + 1, by omega, by go_num, HP, hb3⟩
        case measure => simp [intOf]; omega
    · have e : k = n := by omega
      subst e
      have HE := Lib.hid (ar_end hl.out ha.out)
      obtain ⟨b, hbb⟩ : ∃ b, inr N 1 8 = b := ⟨_, rfl⟩
      rw [hbb] at HE
      have HB := Lib.hid hbb
      clear hbb
      go_wp2_with fail
      refine (l1In_any _ _ _ _).mono ?_
      rintro e u ⟨rfl, rfl⟩
      rw [HB.out]
      cases b with
      | false =>
        go_wp2_with fail
        go_ret
        exact ⟨ret_b (by rw [HE.out]; rfl), hb⟩
      | true =>
        go_wp2_with fail
        go_ret
        refine ⟨ret_b ?_, hb⟩
        rw [HE.out, Bool.true_and]
        exact (decide_eq_decide.2 (by omega))
set_option maxHeartbeats 2000000 in
theorem specPrefer_any {w : World} {B : Nat} {A : Option Addr} {n c : Nat} {a b : Int} {L : List (List Int)} (hl : Hid (L.length = n)) (hn : n ≤ 1099511627776) (hs : Hid (∀ x ∈ L, x.length ≤ 1099511627776)) (hr : RdSS w B A L) :
    Calls Try.prog 66 #[.slice A n c, .int .i64 a, .int .i64 b] w (fun e w' => e = .returned (.int .i64 (prfN L a b : Nat)) ∧ w = w') := by
  go_enter Try.func66, Try.ntmps66
  go_wp2_with fail
  go_loopw [7, 8] (fun m i wr => ∃ k q : Nat, k ≤ n ∧ q ≤ k ∧ i = .int .i64 k ∧ m = .int .i64 q ∧ Hid (q = prfN (L.take k) a b) ∧ wr = w) (fun _ i _ => n - (intOf i).toNat)
  case atStart => exact ⟨0, 0, Nat.zero_le _, Nat.zero_le _, rfl, rfl, Lib.hid rfl, rfl⟩
  case round =>
    obtain ⟨k, q, hk, hqk, rfl, rfl, hq, rfl⟩ := hrel
    by_cases hlt : k < n
    · have hkz : k < L.length := by rw [hl.out]; exact hlt
      obtain ⟨ad, Aj, cj, rfl, hab, hc, hcl, hcm, hrd⟩ := hr.at_ hkz
      have hxl := hs.out L[k] (List.getElem_mem _)
      have i0 : (0 : Int) ≤ (k : Int) := by omega
      have i1 : (k : Int) < (n : Int) := by omega
      have HS := Lib.hid (prf_snoc L k hkz a b)
      obtain ⟨x, hx⟩ : ∃ x, x = L[k] := ⟨_, rfl⟩
      rw [← hx] at hc hcl hrd hxl HS
      obtain ⟨pa, hpa⟩ : ∃ y, atI x a = y := ⟨_, rfl⟩
      obtain ⟨pb, hpb⟩ : ∃ y, atI x b = y := ⟨_, rfl⟩
      have HPA := Lib.hid hpa
      have HPB := Lib.hid hpb
      have HPR := Lib.hid (show prB a b x = (decide (0 ≤ pa) && decide (pa < pb)) by unfold prB; rw [hpa, hpb])
      clear hx hpa hpb
      by_cases h1 : 0 ≤ pa
      · by_cases h2 : pa < pb
        · have HN := Lib.hid (show q + 1 = prfN (L.take (k + 1)) a b by rw [HS.out, HPR.out, decide_eq_true h1, decide_eq_true h2, hq.out]; rfl)
          go_wp2_with fail
          refine (l17At_any (Lib.hid rfl) hxl hrd).mono ?_
          rintro e u ⟨rfl, rfl⟩
          rw [HPA.out]
          go_wp2_with fail
          refine (l17At_any (Lib.hid rfl) hxl hrd).mono ?_
          rintro e u ⟨rfl, rfl⟩
          rw [HPB.out]
          go_wp2_with fail
          go_roundw
          case rel => exact ⟨k + 1, q + 1, by omega, by omega, by go_num, by go_num, HN, trivial⟩
          case measure => simp [intOf]; omega
        · have HN := Lib.hid (show q = prfN (L.take (k + 1)) a b by rw [HS.out, HPR.out, decide_eq_false h2, Bool.and_false, hq.out]; rfl)
          go_wp2_with fail
          refine (l17At_any (Lib.hid rfl) hxl hrd).mono ?_
          rintro e u ⟨rfl, rfl⟩
          rw [HPA.out]
          go_wp2_with fail
          refine (l17At_any (Lib.hid rfl) hxl hrd).mono ?_
          rintro e u ⟨rfl, rfl⟩
          rw [HPB.out]
          go_wp2_with fail
          go_roundw
          case rel => exact ⟨k + 1, q, by omega, by omega, by go_num, by go_num, HN, trivial⟩
          case measure => simp [intOf]; omega
      · have HN := Lib.hid (show q = prfN (L.take (k + 1)) a b by rw [HS.out, HPR.out, decide_eq_false h1, Bool.false_and, hq.out]; rfl)
        go_wp2_with fail
        refine (l17At_any (Lib.hid rfl) hxl hrd).mono ?_
        rintro e u ⟨rfl, rfl⟩
        rw [HPA.out]
        go_wp2_with fail
        go_roundw
        case rel => exact ⟨k + 1, q, by omega, by omega, by go_num, by go_num, HN, trivial⟩
        case measure => simp [intOf]; omega
    · have e : k = n := by omega
      subst e
      have HV := Lib.hid (show q = prfN L a b by have := hq.out; rwa [List.take_of_length_le (by rw [hl.out]; exact Nat.le_refl _)] at this)
      go_wp2_with fail
      go_ret
      exact ⟨ret_i (by rw [HV.out]), rfl⟩
end Go.Proofs.Ytjjgdeojbpcjjaa
