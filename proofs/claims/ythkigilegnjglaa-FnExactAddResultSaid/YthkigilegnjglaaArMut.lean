/- Contract of the code's areMutual. Conditions: integers of 64 bits; at most 2^20 teams with at most 2^20 meetings each. -/
import Derived.Test.YthkigilegnjglaaPent
import Derived.Test.YthkigilegnjglaaMg16
import Derived.Test.YthkigilegnjglaaMg15
namespace Go.Proofs.Ythkigilegnjglaa
open Go.ChangeShapes Go.WideShapes Go.ChangeAt Go.RowKit
set_option maxRecDepth 100000
theorem evs_succ {X : List Tm} {k : Nat} (h : k < X.length) : evs (X.take (k + 1)) = evs (X.take k) ++ evT X[k] := by
  unfold evs
  rw [List.take_succ_eq_append_getElem h, List.flatMap_append]; simp
theorem evT_succ {x : Tm} {m : Nat} (h : m < x.met.length) : (evT x).take (m + 1) = (evT x).take m ++ [(x.id, x.met[m])] := by
  have h2 : m < (evT x).length := by unfold evT; simpa using h
  rw [List.take_succ_eq_append_getElem h2]
  simp [evT]
set_option maxHeartbeats 4000000 in
theorem areMutual_any {w : World} {A : Option Addr} {n c : Nat} {X : List Tm} (hl : Hid (X.length = n)) (hn : n ≤ 1048576) (hs : Hid (∀ x ∈ X, x.met.length ≤ 1048576)) (hok : Hid (∀ x ∈ X, x.ok)) (hself : Hid (∀ x ∈ X, x.id ∉ x.met)) (hr : RdT w w.heap.size A X) :
    Calls Try.prog 78 #[.slice A n c] w (fun e w' => ∃ b : Bool, e = .returned (.bool b) ∧ (b = true ↔ ∀ e, (gE (evs X) e).isSome = false) ∧ Below w.heap.size w w') := by
  have hmm := @run_makeMap Try.prog
  have m1 := PM.made w
  rw [← gE_nil] at m1
  have b1 := alloc_m w (.map #[] 0)
  obtain ⟨W1, hW1⟩ : ∃ u, w.alloc (.map #[] 0) = u := ⟨_, rfl⟩
  rw [hW1] at m1 b1
  have HW1 := Lib.hid hW1
  clear hW1
  go_enter Try.func78, Try.ntmps78
  go_wp2_with fail
  rw [HW1.out]
  try (go_wp2_with fail)
  clear hmm
  go_loopw [12] (fun i wr => ∃ (k : Nat) (K : List (Int × Int)), k ≤ n ∧ i = .int .i64 k ∧ Hid (PM (gE (evs (X.take k))) K w.heap.size (k * 1048576) wr) ∧ Below w.heap.size w wr) (fun i _ => n - (intOf i).toNat)
  case atStart => exact ⟨0, [], Nat.zero_le _, rfl, Lib.hid (by simpa [evs] using m1), b1⟩
  case round =>
    obtain ⟨k, K, hk, rfl, hm, hb⟩ := hrel
    have hsz := hb.size
    by_cases hlt : k < n
    · have hkz : k < X.length := by rw [hl.out]; exact hlt
      obtain ⟨ad, p, rfl, hp, hab, Aj, cj, c0, c1, c2, c3, c4, c5, hle, hcm, hrd⟩ := hr.at_ hkz
      replace c0 := nwc5 hb c0
      replace c1 := nwc5 hb c1
      replace c2 := nwc5 hb c2
      replace c3 := nwc5 hb c3
      replace c4 := nwc5 hb c4
      replace c5 := nwc5 hb c5
      have i0 : (0 : Int) ≤ (k : Int) := by omega
      have i1 : (k : Int) < (n : Int) := by omega
      have HE := Lib.hid (evs_succ hkz)
      have hxs := hs.out _ (List.getElem_mem hkz)
      have HXO := Lib.hid (hok.out _ (List.getElem_mem hkz))
      have HXS := Lib.hid (hself.out _ (List.getElem_mem hkz))
      obtain ⟨x, hx⟩ : ∃ x, x = X[k] := ⟨_, rfl⟩
      rw [← hx] at c0 c1 c2 c3 c4 c5 hrd hle HE hxs HXO HXS
      have b2 := alloc_m wr (Obj.cells #[Value.int .i64 x.id, .int .i64 x.club, .int .i64 x.wins, .int .i64 x.pts, .int .i64 x.firsts, .slice Aj x.met.length cj] 82)
      have bx := Bx.made wr 82 #[Value.int .i64 x.id, .int .i64 x.club, .int .i64 x.wins, .int .i64 x.pts, .int .i64 x.firsts, .slice Aj x.met.length cj]
      obtain ⟨W2, hW2⟩ : ∃ u, wr.alloc (Obj.cells #[Value.int .i64 x.id, .int .i64 x.club, .int .i64 x.wins, .int .i64 x.pts, .int .i64 x.firsts, .slice Aj x.met.length cj] 82) = u := ⟨_, rfl⟩
      rw [hW2] at b2 bx
      have HW2 := Lib.hid hW2
      have hlt2 : wr.heap.size < W2.heap.size := bx.lt
      have m2 := hm.out.new b2
      have hb2 := hb.trans (b2.mono hsz)
      have d5 := bx.at_ (k := 5) (v := .slice Aj x.met.length cj) rfl
      have HRD := Lib.hid hrd
      obtain ⟨E0, hE0⟩ : ∃ E0, evs (X.take k) = E0 := ⟨_, rfl⟩
      rw [hE0] at m2 HE
      have HE0 := Lib.hid hE0
      obtain ⟨wo, hwo⟩ : ∃ wo, wo = wr := ⟨_, rfl⟩
      subst hwo
      have HST := Lib.hid (show PM (gE (E0 ++ (evT x).take 0)) K w.heap.size (k * 1048576 + 0) W2 ∧ Bx W2 wo.heap.size 82 #[Value.int .i64 x.id, .int .i64 x.club, .int .i64 x.wins, .int .i64 x.pts, .int .i64 x.firsts, .slice Aj x.met.length cj] from ⟨by simpa using m2, bx⟩)
      clear hx hW2 hrd m2 bx hE0
      go_wp2_with fail
      rw [HW2.out]
      try (go_wp2_with fail)
      go_loopw [19] (fun i wi => ∃ (m : Nat) (K : List (Int × Int)), m ≤ x.met.length ∧ i = .int .i64 m ∧ Hid (PM (gE (E0 ++ (evT x).take m)) K w.heap.size (k * 1048576 + m) wi ∧ Bx wi wo.heap.size 82 #[Value.int .i64 x.id, .int .i64 x.club, .int .i64 x.wins, .int .i64 x.pts, .int .i64 x.firsts, .slice Aj x.met.length cj]) ∧ Below w.heap.size w wi) (fun i _ => x.met.length - (intOf i).toNat)
      case atStart => exact ⟨0, K, Nat.zero_le _, rfl, HST, hb2⟩
      case round =>
        obtain ⟨m, K2, hmle, rfl, hPB, hbi⟩ := hrel
        by_cases hml : m < x.met.length
        · obtain ⟨aj, rfl, haj, e0⟩ := ivs_at ((HRD.out.below hbi).more hbi.size) hml
          obtain ⟨q, hq⟩ : ∃ q, aj.add m = q := ⟨_, rfl⟩
          rw [hq] at e0
          have HT := Lib.hid (evT_succ hml)
          have hzi := HXO.out
          have hzm : x.met[m] ∈ x.met := List.getElem_mem hml
          obtain ⟨z, hz⟩ : ∃ z, z = x.met[m] := ⟨_, rfl⟩
          rw [← hz] at e0 HT hzm
          have hne : x.id ≠ z := fun e => HXS.out (by rw [e]; exact hzm)
          have m0 : (0 : Int) ≤ (m : Int) := by omega
          have m1 : (m : Int) < (x.met.length : Int) := by omega
          have t0 := hPB.out.2.at_ (k := 0) (v := .int .i64 x.id) rfl
          have b4 := alloc_m wr (Obj.cells #[Value.int .i64 z, .int .i64 x.id] 38)
          have bp := Bx.made wr 38 #[Value.int .i64 z, .int .i64 x.id]
          obtain ⟨W4, hW4⟩ : ∃ u, wr.alloc (Obj.cells #[Value.int .i64 z, .int .i64 x.id] 38) = u := ⟨_, rfl⟩
          rw [hW4] at b4 bp
          have HW4 := Lib.hid hW4
          have m4 := hPB.out.1.new b4
          have bt := hPB.out.2.new b4
          have hb4 := hbi.trans (b4.mono hbi.size)
          obtain ⟨E, hE⟩ : ∃ E, E0 ++ (evT x).take m = E := ⟨_, rfl⟩
          rw [hE] at m4
          have hEl : E.length ≤ 4000000000000 := by
            rw [← hE, ← HE0.out]
            exact evs_len' hl.out hk hn (by omega) hs.out
          have HEE := Lib.hid (show E0 ++ (evT x).take (m + 1) = E ++ [(x.id, z)] by rw [HT.out, ← hE, List.append_assoc])
          have hi6 : IP (z, x.id) := ⟨HXO.out.2.2.2.2.2 z hzm, HXO.out.1⟩
          have hi6' : IP (x.id, z) := ⟨hi6.2, hi6.1⟩
          have hlk := m4.get (t := 130) Try.underlying130 hi6
          have hrg := gE_range E (z, x.id)
          obtain ⟨v, hv⟩ : ∃ v, (gE E (z, x.id)).getD 0 = v := ⟨_, rfl⟩
          rw [hv] at hlk hrg
          replace hlk : (Instr.lookup 130 (.map (some w.heap.size)) (.agg #[.int .i64 z, .int .i64 x.id]) false).run Try.prog W4 = .ok (.int .i64 v) W4 := hlk
          have HV := Lib.hid hv
          have p0 := bp.at_ (k := 0) (v := .int .i64 z) rfl
          have p1 := bp.at_ (k := 1) (v := .int .i64 x.id) rfl
          have hlkR : (Instr.lookup 130 (.map (some w.heap.size)) (.agg #[.int .i64 z, .int .i64 x.id]) false).run Try.prog (wr.alloc (Obj.cells #[Value.int .i64 z, .int .i64 x.id] 38)) = .ok (.int .i64 v) (wr.alloc (Obj.cells #[Value.int .i64 z, .int .i64 x.id] 38)) := by rw [HW4.out]; exact hlk
          clear hz hW4 hE hv
          by_cases hv0 : v = 0
          · subst hv0
            go_wp2_with fail
            rw [HW4.out]
            try (go_wp2_with fail)
            have mD : PM (gE E) K2 w.heap.size (k * 1048576 + m) W4.drew := m4
            have hy := mD.get (t := 130) Try.underlying130 hi6'
            obtain ⟨y, hye⟩ : ∃ y, (gE E (x.id, z)).getD 0 = y := ⟨_, rfl⟩
            rw [hye] at hy
            replace hy : (Instr.lookup 130 (.map (some w.heap.size)) (.agg #[.int .i64 x.id, .int .i64 z]) false).run Try.prog W4.drew = .ok (.int .i64 y) W4.drew := hy
            have hyb : 0 ≤ y ∧ y ≤ 4000000000000 := by
              have := gE_range E (x.id, z)
              rw [hye] at this
              omega
            have ww : IntKind.i64.wrap (y + 1) = y + 1 := IntWalk.i64_in _ (by omega)
            obtain ⟨zz, born, w1, w2, h1, h2, hP, hO1, hO2, hL⟩ := mD.bump (t := 130) Try.underlying130 (by omega) hi6' (v := y + 1) (i6_small (by omega) (by omega))
            replace h1 : (Instr.mapEntry 130 (.map (some w.heap.size)) (.agg #[.int .i64 x.id, .int .i64 z])).run Try.prog W4.drew = .ok (.tuple #[.int .i64 zz, .int .i64 born]) w1 := h1
            replace hL : (Instr.lookup 130 (.map (some w.heap.size)) (.agg #[.int .i64 x.id, .int .i64 z]) false).run Try.prog w1 = .ok (.int .i64 y) w1 := by rw [← hye]; exact hL
            have q0 := bt.at_ (k := 0) (v := .int .i64 x.id) rfl
            have q1 : W4.drew.cell? ⟨wo.heap.size, 0, none⟩ = some (.int .i64 x.id) := q0
            have HP := Lib.hid hP
            have HYE := Lib.hid hye
            have hlw : w.heap.size < wo.heap.size := hm.out.lt
            have HN := Lib.hid (show PM (gE (E0 ++ (evT x).take (m + 1))) (ppK (gE E) K2 (x.id, z)) w.heap.size (k * 1048576 + (m + 1)) w2 ∧ Bx w2 wo.heap.size 82 #[Value.int .i64 x.id, .int .i64 x.club, .int .i64 x.wins, .int .i64 x.pts, .int .i64 x.firsts, .slice (some aj) x.met.length cj] from ⟨by
              rw [HEE.out, gE_wait (e := (x.id, z)) hne HV.out, HYE.out]
              exact HP.out.more (by omega), Bx.out (w := W4.drew) bt hO2 (.inr (by omega))⟩)
            have hb5 : Below w.heap.size w w2 := (hb4.drew).trans (hO2.below (Nat.le_refl _) (by have := hb4.size; exact this))
            clear hP hye
            go_region
            go_wp2_with fail
            go_roundw
            case rel => exact ⟨m + 1, _, by omega, by go_num, HN, hb5⟩
            case measure => simp [intOf]; omega
          · have hv0' : (v == (0 : Int)) = false := by simpa using hv0
            have hlw : w.heap.size < wo.heap.size := hm.out.lt
            by_cases hv1 : v = 1
            · subst hv1
              obtain ⟨w2, hdel, hP, hO⟩ := m4.del (t := 130) Try.underlying130 hi6 0
              replace hdel : (Builtin.delete_ #[130, 38] 0 #[.map (some w.heap.size), .agg #[.int .i64 z, .int .i64 x.id]]).run Try.prog W4 = .ok (.tuple #[]) w2 := hdel
              have hdelR : (Builtin.delete_ #[130, 38] 0 #[.map (some w.heap.size), .agg #[.int .i64 z, .int .i64 x.id]]).run Try.prog (wr.alloc (Obj.cells #[Value.int .i64 z, .int .i64 x.id] 38)) = .ok (.tuple #[]) w2 := by rw [HW4.out]; exact hdel
              have HN := Lib.hid (show PM (gE (E0 ++ (evT x).take (m + 1))) (pdK K2 (z, x.id)) w.heap.size (k * 1048576 + (m + 1)) w2 ∧ Bx w2 wo.heap.size 82 #[Value.int .i64 x.id, .int .i64 x.club, .int .i64 x.wins, .int .i64 x.pts, .int .i64 x.firsts, .slice (some aj) x.met.length cj] from ⟨by
                rw [HEE.out, gE_one (e := (x.id, z)) hne HV.out]
                exact hP.more (by omega), Bx.out bt hO (.inr (by omega))⟩)
              have hb5 : Below w.heap.size w w2 := hb4.trans (hO.below (Nat.le_refl _) hb4.size)
              clear hP hO hv0' hdel
              go_wp2_with fail
              go_roundw
              case rel => exact ⟨m + 1, _, by omega, by go_num, HN, hb5⟩
              case measure => simp [intOf]; omega
            · have hv1' : (v == (1 : Int)) = false := by simpa using hv1
              have ww : IntKind.i64.wrap (v - 1) = v - 1 := IntWalk.i64_in _ (by omega)
              have mD : PM (gE E) K2 w.heap.size (k * 1048576 + m) W4.drew := m4
              obtain ⟨zz, born, w1, w2, h1, h2, hP, hO1, hO2, hL⟩ := mD.bump (t := 130) Try.underlying130 (by omega) hi6 (v := v - 1) (i6_small (by omega) (by omega))
              replace h1 : (Instr.mapEntry 130 (.map (some w.heap.size)) (.agg #[.int .i64 z, .int .i64 x.id])).run Try.prog W4.drew = .ok (.tuple #[.int .i64 zz, .int .i64 born]) w1 := h1
              replace hL : (Instr.lookup 130 (.map (some w.heap.size)) (.agg #[.int .i64 z, .int .i64 x.id]) false).run Try.prog w1 = .ok (.int .i64 v) w1 := by rw [← HV.out]; exact hL
              have hy : (Instr.lookup 130 (.map (some w.heap.size)) (.agg #[.int .i64 z, .int .i64 x.id]) false).run Try.prog W4.drew = .ok (.int .i64 v) W4.drew := by
                have := mD.get (t := 130) Try.underlying130 hi6
                rw [HV.out] at this
                exact this
              have q0 : W4.drew.cell? ⟨wr.heap.size, 0, none⟩ = some (.int .i64 z) := p0
              have q1 : W4.drew.cell? ⟨wr.heap.size, 1, none⟩ = some (.int .i64 x.id) := p1
              have hlr : w.heap.size < wr.heap.size := hPB.out.1.lt
              have bpo : Bx w1 wr.heap.size 38 #[Value.int .i64 z, .int .i64 x.id] := Bx.out (w := W4.drew) bp hO1 (.inr (by omega))
              have r0 := bpo.at_ (k := 0) (v := .int .i64 z) rfl
              have r1 := bpo.at_ (k := 1) (v := .int .i64 x.id) rfl
              have HN := Lib.hid (show PM (gE (E0 ++ (evT x).take (m + 1))) (ppK (gE E) K2 (z, x.id)) w.heap.size (k * 1048576 + (m + 1)) w2 ∧ Bx w2 wo.heap.size 82 #[Value.int .i64 x.id, .int .i64 x.club, .int .i64 x.wins, .int .i64 x.pts, .int .i64 x.firsts, .slice (some aj) x.met.length cj] from ⟨by
                rw [HEE.out, gE_more (e := (x.id, z)) hne (by rw [show swP (x.id, z) = (z, x.id) from rfl, HV.out]; exact hv0) (by rw [show swP (x.id, z) = (z, x.id) from rfl, HV.out]; exact hv1), show swP (x.id, z) = (z, x.id) from rfl, HV.out]
                exact hP.more (by omega), Bx.out (w := W4.drew) bt hO2 (.inr (by omega))⟩)
              have hb5 : Below w.heap.size w w2 := (hb4.drew).trans (hO2.below (Nat.le_refl _) (by have := hb4.size; exact this))
              clear hP hO1 hO2 bpo
              go_wp2_with fail
              rw [HW4.out]
              try (go_wp2_with fail)
              go_region
              go_wp2_with fail
              go_roundw
              case rel => exact ⟨m + 1, _, by omega, by go_num, HN, hb5⟩
              case measure => simp [intOf]; omega
        · have e : m = x.met.length := by omega
          subst e
          have HN := Lib.hid (show PM (gE (evs (X.take (k + 1)))) K2 w.heap.size ((k + 1) * 1048576) wr by
            rw [HE.out]
            have h := hPB.out.1.more (n' := (k + 1) * 1048576) (by omega)
            rw [List.take_of_length_le (by unfold evT; simp)] at h
            exact h)
          go_wp2_with fail
          go_roundw
          case rel => exact ⟨k + 1, K2, by omega, by go_num, HN, hbi⟩
          case measure => simp [intOf]; omega
    · have e : k = n := by omega
      subst e
      have hm2 := hm.out
      rw [List.take_of_length_le (by rw [hl.out]; exact Nat.le_refl _)] at hm2
      have hz := hm2.size (t := 130) Try.underlying130 3
      obtain ⟨D, _, _, _, _, _, _, hK⟩ := hm2
      have HB := Lib.hid (show (((K.length : Nat) : Int) == 0) = true ↔ ∀ e, (gE (evs X) e).isSome = false by
        constructor
        · intro h e
          have : K = [] := List.length_eq_zero_iff.1 (by simpa using h)
          subst this
          cases hq : (gE (evs X) e).isSome with
          | false => rfl
          | true => exact absurd ((hK e).2 hq) (by simp)
        · intro h
          cases K with
          | nil => rfl
          | cons a l =>
            have := (hK a).1 (by simp)
            rw [h a] at this
            cases this)
      clear hK
      go_wp2_with fail
      go_ret
      exact ⟨_, rfl, HB.out, hb⟩
end Go.Proofs.Ythkigilegnjglaa
