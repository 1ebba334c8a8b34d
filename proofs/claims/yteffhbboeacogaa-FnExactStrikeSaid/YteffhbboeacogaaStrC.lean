/- Contracts of the code's areDifferent and Strike (chapter 24). Condition: the slices have at most 2^40 elements. -/
import Derived.Test.YteffhbboeacogaaStrMath
import Derived.Test.YteffhbboeacogaaStrD
import Derived.Test.YteffhbboeacogaaFchC
import Derived.Test.YteffhbboeacogaaClone
namespace Go.Proofs.Yteffhbboeacogaa
open Go.ChangeShapes Go.WideShapes Go.ChangeAt Go.RowKit
set_option maxRecDepth 100000
theorem Row.baseS {w : World} {lo hi n : Nat} {t : TypeId} {v : Value} {xs : List Value} (h : Row w lo hi t v xs) (hn : xs.length = n) (hp : 0 < n) : ∃ g c, v = .slice (some ⟨g, 0, none⟩) n c ∧ lo ≤ g ∧ g < hi := by
  subst hn
  obtain ⟨⟨h1, h2⟩, h3⟩ := h
  rcases h2 with ⟨_, e⟩ | ⟨g, cap, cur, e, hb, _⟩
  · omega
  · exact ⟨g, cap, e, hb, h3 g (by rw [e]; rfl)⟩
theorem ivs_hd {w : World} {B k : Nat} {A : Option Addr} {S : List Int} (h : Rd w B A (ivs S)) : Rd w B A (ivs (S.take k)) := by
  rw [show ivs (S.take k) = (ivs S).take k by simp [ivs]]
  exact h.hd
theorem ivs_set1 : ∀ (W : World), (Go.sizeOf 3).run Try.prog W = .ok 1 W := fun W => by
  obtain ⟨i0, hi, hz0, hz1, hz2⟩ := info_parts IntS_info
  simp [sizeOf, typeInfo, hi, hz1]
theorem nob_not {S : List Int} {a : Int} (h : NoB S a S.length) : a ∉ S := fun hm => by
  obtain ⟨i, hi, rfl⟩ := List.getElem_of_mem hm
  exact h i hi (by simp [List.getD, hi])
section
variable {w : World} {A A' : Option Addr} {n c n' c' : Nat} {L W : List Int}
set_option maxHeartbeats 1000000 in
theorem areDif_any (hl : Hid (L.length = n)) (hn : n ≤ 1099511627776) (hnc : n ≤ c) (hr : Rd w w.heap.size A (ivs L)) :
    Calls Try.prog 69 #[.slice A n c] w (fun e w' => e = .returned (.bool (decide L.Nodup)) ∧ w = w') := by
  go_enter Try.func69, Try.ntmps69
  go_wp2_with fail
  go_loopw [7] (fun i wr => ∃ k : Nat, k ≤ n ∧ i = .int .i64 k ∧ wr = w ∧ Hid ((L.take k).Nodup)) (fun i _ => n - (intOf i).toNat)
  case atStart => exact ⟨0, Nat.zero_le _, rfl, rfl, Lib.hid (by simp)⟩
  case round =>
    obtain ⟨k, hk, rfl, rfl, hno⟩ := hrel
    by_cases hlt : k < n
    · have hkz : k < L.length := by rw [hl.out]; exact hlt
      obtain ⟨ad, rfl, hab, hc⟩ := ivs_at hr hkz
      have i0 : (0 : Int) ≤ (k : Int) := by omega
      have HY := Lib.hid (fun h => nd_no hkz h)
      have HS := Lib.hid (fun h => nd_step hkz hno.out h)
      have HT := Lib.hid (show (L.take k).length = k by rw [List.length_take]; omega)
      have hsl := fun W => run_to (P := Try.prog) W 24 3 Try.underlying24 ivs_set1 (some ad) (n := n) (c := c) (k := k) (by omega)
      obtain ⟨x, hx⟩ : ∃ x, x = L[k] := ⟨_, rfl⟩
      rw [← hx] at hc HY HS
      clear hx
      cases q : (L.take k).contains x with
      | true =>
        have HV := Lib.hid (decide_eq_false (HY.out q))
        have HQ := Lib.hid q
        clear q
        go_wp2_with fail
        refine (contains_any' (S := L.take k) HT (by omega) (ivs_hd hr)).mono ?_
        rintro e u ⟨rfl, rfl⟩
        rw [HQ.out]
        go_wp2_with fail
        go_ret
        exact ⟨ret_b HV.out.symm, rfl⟩
      | false =>
        have HN := Lib.hid (HS.out q)
        have HQ := Lib.hid q
        clear q
        go_wp2_with fail
        refine (contains_any' (S := L.take k) HT (by omega) (ivs_hd hr)).mono ?_
        rintro e u ⟨rfl, rfl⟩
        rw [HQ.out]
        go_wp2_with fail
        go_roundw
        case rel => exact ⟨k + 1, by omega, by go_num, trivial, HN⟩
        case measure => simp [intOf]; omega
    · have e : k = n := by omega
      subst e
      have HV := Lib.hid (decide_eq_true (p := L.Nodup) (by have := hno.out; rwa [List.take_of_length_le (by rw [hl.out]; exact Nat.le_refl _)] at this))
      go_wp2_with fail
      go_ret
      exact ⟨ret_b HV.out.symm, rfl⟩
set_option maxHeartbeats 2000000 in
theorem impStrike_any (hl : Hid (L.length = n)) (hn : n ≤ 1099511627776) (hnc : n ≤ c) (hr : Rd w w.heap.size A (ivs L)) (hl' : Hid (W.length = n')) (hn' : n' ≤ 1099511627776) (hr' : Rd w w.heap.size A' (ivs W)) :
    Calls Try.prog 29 #[.slice A n c, .slice A' n' c'] w (fun e w' => e = .returned (.tuple #[.int .i64 (strV L W), .bool (strB L W)]) ∧ Below w.heap.size w w') := by
  have wn1 := IntWalk.i64_in ((n : Int) - 1) (by omega)
  cases hi : inr (n : Int) 1 9 with
  | false =>
    have HV := Lib.hid (str_no (L := L) (W := W) fun h => by
      have := h.1
      rw [hl.out] at this
      unfold inr at hi
      simp at hi
      omega)
    have HI := Lib.hid hi
    clear hi
    go_enter Try.func29, Try.ntmps29
    go_wp2_with fail
    refine (inRange_any _ _ _ _).mono ?_
    rintro e u ⟨rfl, rfl⟩
    rw [HI.out]
    go_wp2_with fail
    go_ret2
    exact ⟨by rw [HV.out.1, HV.out.2]; rfl, Below.refl _ _⟩
  | true =>
    have h19 : 1 ≤ n ∧ n ≤ 9 := by unfold inr at hi; simp at hi; omega
    have HI := Lib.hid hi
    clear hi
    cases hd : decide L.Nodup with
    | false =>
      have HV := Lib.hid (str_no (L := L) (W := W) fun h => of_decide_eq_false hd h.2.1)
      have HD := Lib.hid hd
      clear hd
      go_enter Try.func29, Try.ntmps29
      go_wp2_with fail
      refine (inRange_any _ _ _ _).mono ?_
      rintro e u ⟨rfl, rfl⟩
      rw [HI.out]
      go_wp2_with fail
      refine (areDif_any hl hn hnc hr).mono ?_
      rintro e u ⟨rfl, rfl⟩
      rw [HD.out]
      go_wp2_with fail
      go_ret2
      exact ⟨by rw [HV.out.1, HV.out.2]; rfl, Below.refl _ _⟩
    | true =>
      have HND := Lib.hid (of_decide_eq_true hd)
      have HD := Lib.hid hd
      clear hd
      by_cases hw : n' + 1 = n
      · have e0 : ((n' : Int) != (n : Int) - 1) = false := by simp; omega
        go_enter Try.func29, Try.ntmps29
        go_wp2_with fail
        refine (inRange_any _ _ _ _).mono ?_
        rintro e u ⟨rfl, rfl⟩
        rw [HI.out]
        go_wp2_with fail
        refine (areDif_any hl hn hnc hr).mono ?_
        rintro e u ⟨rfl, rfl⟩
        rw [HD.out]
        go_wp2_with fail
        refine (clone_any (xs := L) hl (by omega) hr).mono ?_
        rintro e u1 ⟨v1, rfl, hrow1, r1⟩
        obtain ⟨g, cg, rfl, hg1, hg2⟩ := hrow1.baseS (n := n) (by rw [ivs_len, hl.out]) (by omega)
        have HRW := Lib.hid (show Row u1 w.heap.size u1.heap.size 3 (.slice (some ⟨g, 0, none⟩) n cg) (ivs (lftW L (W.take 0))) by rw [List.take_zero, lft_nil]; exact hrow1)
        obtain ⟨hi1, hhi⟩ : ∃ h, h = u1.heap.size := ⟨_, rfl⟩
        rw [← hhi] at HRW hg2
        have hhi2 : hi1 ≤ u1.heap.size := by omega
        have hgu : g < u1.heap.size := by omega
        clear hrow1 hhi
        go_wp2_with fail
        go_loopw [6, 31] (fun v i wr => ∃ k r : Nat, k ≤ n' ∧ r + k = n ∧ i = .int .i64 k ∧ v = .slice (some ⟨g, 0, none⟩) r cg ∧ Hid (Row wr w.heap.size hi1 3 (.slice (some ⟨g, 0, none⟩) r cg) (ivs (lftW L (W.take k)))) ∧ Hid ((W.take k).Nodup ∧ ∀ m ∈ W.take k, m ∈ L) ∧ Below w.heap.size w wr ∧ hi1 ≤ wr.heap.size) (fun _ i _ => n' - (intOf i).toNat)
        case atStart => exact ⟨0, n, Nat.zero_le _, rfl, rfl, rfl, HRW, Lib.hid ⟨by simp, fun m hm => by simp at hm⟩, r1, hhi2⟩
        case round =>
          obtain ⟨k, r, hk, hrk, rfl, rfl, hrow, hst, hb, hsz⟩ := hrel
          clear HRW r1 hhi2 hgu
          have HLEN := Lib.hid (show (lftW L (W.take k)).length = r by
            have := lft_len HND.out hst.out.1 hst.out.2 (W.take k).length (Nat.le_refl _)
            rw [List.take_of_length_le (Nat.le_refl _), List.length_take, hl.out, hl'.out] at this
            omega)
          by_cases hlt : k < n'
          · have hkz : k < W.length := by rw [hl'.out]; exact hlt
            obtain ⟨ad, rfl, hab, hc⟩ := ivs_at (hr'.below hb) hkz
            have i0 : (0 : Int) ≤ (k : Int) := by omega
            have HTK := Lib.hid (List.take_succ_eq_append_getElem hkz)
            have HNS := Lib.hid (fun h => nd_step hkz hst.out.1 h)
            have HWN := Lib.hid (fun (h : W.Nodup) => nd_no hkz |> fun f => show ¬ (W.take k).contains W[k] = true from fun hc => f hc h)
            have HWM := Lib.hid (List.getElem_mem hkz)
            obtain ⟨m, hm⟩ : ∃ m, m = W[k] := ⟨_, rfl⟩
            rw [← hm] at hc HTK HNS HWN HWM
            clear hm
            obtain ⟨r', rfl⟩ : ∃ r', r = r' + 1 := ⟨r - 1, by omega⟩
            have HRD := Lib.hid (hrow.out.rd')
            go_wp2_with fail
            refine (idx_any (S := lftW L (W.take k)) HLEN (by omega) HRD.out).mono ?_
            rintro e u ⟨⟨x, rfl, hx⟩, rfl⟩
            rcases hx with ⟨rfl, hnob⟩ | ⟨p, rfl, hp, hnob, hpm⟩
            · have HV := Lib.hid (str_no (L := L) (W := W) fun h => by
                have hnot : m ∉ lftW L (W.take k) := nob_not (by rw [HLEN.out]; exact hnob)
                refine hnot (lft_mem.2 ⟨h.2.2.2.2 m HWM.out, fun hin => ?_⟩)
                exact HWN.out h.2.2.2.1 (List.contains_iff_mem.2 hin))
              clear hnob
              go_wp2_with fail
              go_ret2
              exact ⟨by rw [HV.out.1, HV.out.2]; rfl, hb⟩
            · have hpl : p < (lftW L (W.take k)).length := by rw [HLEN.out]; exact hp
              have hpm' : (lftW L (W.take k))[p] = m := by rw [← hpm]; simp [List.getD, hpl]
              have hml : m ∈ lftW L (W.take k) := by rw [← hpm']; exact List.getElem_mem hpl
              have hml' := lft_mem.1 hml
              have HE := Lib.hid (show (lftW L (W.take k)).take p ++ (lftW L (W.take k)).drop (p + 1) = lftW L (W.take (k + 1)) by rw [lft_del HND.out hpl, hpm', HTK.out])
              have HST := Lib.hid (show (W.take (k + 1)).Nodup ∧ ∀ m ∈ W.take (k + 1), m ∈ L from ⟨HNS.out (by
                cases q : (W.take k).contains m with
                | false => rfl
                | true => exact absurd (List.contains_iff_mem.1 q) hml'.2), fun z hz => by
                rw [HTK.out] at hz
                rcases List.mem_append.1 hz with h1 | h1
                · exact hst.out.2 z h1
                · rw [List.mem_singleton.1 h1]; exact hml'.1⟩)
              have p0 : ¬ (p : Int) < 0 := by omega
              have wp1 := IntWalk.i64_in ((p : Int) + 1) (by omega)
              clear hnob hpm hpm' hml hml' hpl
              go_wp2_with fail
              refine (delI_any (X := lftW L (W.take k)) hrow.out HLEN.out hp (by omega)).mono ?_
              rintro e w5 ⟨rfl, hrow5, ho5⟩
              rw [HE.out] at hrow5
              rw [Nat.add_sub_cancel] at hrow5 ⊢
              have hb5 := hb.trans (ho5.below hg1 hb.size)
              have hs5 : hi1 ≤ w5.heap.size := Nat.le_trans hsz ho5.size
              have HROW5 := Lib.hid hrow5
              clear hrow5 ho5
              go_wp2_with fail
              go_roundw
              case rel => exact ⟨k + 1, r', by omega, by omega, by go_num, rfl, HROW5, HST, hb5, hs5⟩
              case measure => simp [intOf]; omega
          · have e : k = n' := by omega
            subst e
            obtain rfl : r = 1 := by omega
            have ht : W.take k = W := List.take_of_length_le (by rw [hl'.out]; exact Nat.le_refl _)
            have hst' := hst.out
            rw [ht] at hst'
            obtain ⟨hB, z, hz, hV⟩ := str_one (L := L) (W := W) (by rw [hl.out]; exact h19) HND.out (by rw [hl.out, hl'.out]; omega) hst'.1 hst'.2
            have hrd := hrow.out.rd'
            rw [ht, hz] at hrd
            obtain ⟨ad, e9, hab, hc⟩ := ivs_at hrd (k := 0) (by simp)
            injection e9 with e9
            subst e9
            have hc' : wr.cell? ⟨g, 0, none⟩ = some (.int .i64 z) := hc
            have HV := Lib.hid (And.intro hB hV)
            clear hc hB hz hV hrd ht hst'
            go_wp2_with fail
            go_ret2
            exact ⟨by rw [HV.out.1, HV.out.2]; rfl, hb⟩
      · have e0 : ((n' : Int) != (n : Int) - 1) = true := by simp; omega
        have HV := Lib.hid (str_no (L := L) (W := W) fun h => by
          have := h.2.2.1
          rw [hl.out, hl'.out] at this
          exact hw this)
        go_enter Try.func29, Try.ntmps29
        go_wp2_with fail
        refine (inRange_any _ _ _ _).mono ?_
        rintro e u ⟨rfl, rfl⟩
        rw [HI.out]
        go_wp2_with fail
        refine (areDif_any hl hn hnc hr).mono ?_
        rintro e u ⟨rfl, rfl⟩
        rw [HD.out]
        go_wp2_with fail
        go_ret2
        exact ⟨by rw [HV.out.1, HV.out.2]; rfl, Below.refl _ _⟩
end
end Go.Proofs.Yteffhbboeacogaa
