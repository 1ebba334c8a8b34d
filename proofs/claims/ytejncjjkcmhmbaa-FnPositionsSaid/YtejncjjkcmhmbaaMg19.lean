/- Contracts of the models of chapter 5: IsSet, IsFree, Defends. No conditions but that the slices have at most 2^40 elements. -/
import Derived.Test.YtejncjjkcmhmbaaMg18
import Derived.Test.YtejncjjkcmhmbaaMg3
namespace Go.Proofs.Ytejncjjkcmhmbaa
open Go.ChangeShapes Go.WideShapes Go.ChangeAt Go.RowKit
set_option maxRecDepth 100000
theorem one_graph (w : World) (cs : Array Value) (t : TypeId) : ∃ W1 : World, W1 = w.alloc (Obj.cells cs t) ∧ Bx W1 w.heap.size t cs ∧ Below w.heap.size w W1 := ⟨_, rfl, Bx.made w t cs, (Below.refl _ _).alloc (Nat.le_refl _) _⟩
theorem any_takeF {α : Type} {X : List α} {f : α → Bool} {k : Nat} (hk : k < X.length) : (X.take (k + 1)).any f = ((X.take k).any f || f X[k]) := by
  rw [List.take_succ_eq_append_getElem hk, List.any_append]; simp
def okS (N : Int) (S : List Int) (i : Nat) : Bool := inr (S.getD i 0) 0 (N - 1) && (decide (i = 0) || decide (S.getD (i - 1) 0 < S.getD i 0))
def SPre (N : Int) (S : List Int) (k : Nat) : Prop := ∀ i, i < k → okS N S i = true
instance (N : Int) (S : List Int) (k : Nat) : Decidable (SPre N S k) := by unfold SPre; infer_instance
/-- Whether a list is a set of the graph's claims. -/
def setB (N : Int) (X : List (List Int)) (S : List Int) : Bool := gB N X && decide (SPre N S S.length)
theorem SPre.succ {N : Int} {S : List Int} {k : Nat} (h : SPre N S k) (hk : okS N S k = true) : SPre N S (k + 1) := fun i hi => by
  rcases Nat.lt_succ_iff_lt_or_eq.1 hi with h1 | rfl
  · exact h i h1
  · exact hk
theorem setB_bad {N : Int} {X : List (List Int)} {S : List Int} {k : Nat} (hk : k < S.length) (h : okS N S k = false) : setB N X S = false := by
  unfold setB
  rw [decide_eq_false (fun hp => by rw [hp k hk] at h; cases h), Bool.and_false]
theorem getD_i {S : List Int} {k : Nat} (h : k < S.length) : S.getD k 0 = S[k] := by simp [List.getD, h]
set_option maxHeartbeats 2000000 in
theorem specIsSet_any {w : World} {A A' : Option Addr} {n c n' c' : Nat} {N : Int} {X : List (List Int)} {S : List Int} (hl : Hid (X.length = n)) (hn : n ≤ 1099511627776) (hr : RdSS w w.heap.size A X) (hl' : Hid (S.length = n')) (hn' : n' ≤ 1099511627776) (hr' : Rd w w.heap.size A' (ivs S)) :
    Calls Try.prog 152 #[.agg #[.int .i64 N, .slice A n c], .slice A' n' c'] w (Tells (setB N X S) w) := by
  obtain ⟨W1, hW, bx1, hb1⟩ := one_graph w #[Value.int IntKind.i64 N, Value.slice A n c] 27
  have HR := Lib.hid ((hr.below hb1).more hb1.size)
  have HS := Lib.hid (hr'.below hb1)
  have hW' := hW.symm
  obtain ⟨C0, C1⟩ := bx1.two
  clear hW hr hr'
  go_enter Try.func152, Try.ntmps152
  go_wp2_with fail
  clear hW'
  refine (specIsGraph_any (N := N) (X := X) (c := c) hl hn HR.out).mono ?_
  rintro e w3 ⟨rfl, hb3⟩
  have hb4 := hb1.trans (hb3.mono hb1.size)
  by_cases hg : gB N X = true
  case neg =>
    have hg' : gB N X = false := by simpa using hg
    have HB := Lib.hid (show setB N X S = false by unfold setB; rw [hg']; rfl)
    rw [hg']
    clear hg hg'
    go_wp2_with fail
    go_ret
    exact ⟨ret_b HB.out.symm, hb4⟩
  case pos =>
    obtain ⟨m, rfl, hm, _, _⟩ := gB_ok hg
    have HG := Lib.hid hg
    rw [hg]
    have hS3 := HS.out.below (hb3.mono hb1.size)
    obtain ⟨D0, D1⟩ := (bx1.new hb3).two
    clear hg C0 C1 bx1
    go_wp2_with fail
    go_loopw [5] (fun i wr => ∃ k q : Nat, k ≤ n' ∧ i = .int .i64 k ∧ wr = w3.drewN q ∧ Hid (SPre m S k)) (fun i _ => n' - (intOf i).toNat)
    case atStart => exact ⟨0, 0, Nat.zero_le _, rfl, rfl, Lib.hid (fun i hi => absurd hi (by omega))⟩
    case round =>
      obtain ⟨k, q, hk, rfl, rfl, hpre⟩ := hrel
      by_cases hlt : k < n'
      · have hkz : k < S.length := by rw [hl'.out]; exact hlt
        obtain ⟨ad, rfl, hab, hc⟩ := ivs_at hS3 hkz
        have HD := Lib.hid (getD_i hkz)
        obtain ⟨z, hz⟩ : ∃ z, z = S[k] := ⟨_, rfl⟩
        rw [← hz] at hc HD
        have i0 : (0 : Int) ≤ (k : Int) := by omega
        clear hz hab
        by_cases i1 : inr z 0 ((m : Int) - 1) = true
        · have J1 := Lib.hid (l1In_Q (w := w3) z 0 ((m : Int) - 1) i1)
          have I1 := Lib.hid i1
          clear i1
          by_cases hk0 : k = 0
          · have HP := Lib.hid (hpre.out.succ (by unfold okS; rw [HD.out, I1.out, hk0]; rfl))
            have hkn : ¬ (0 < k) := by omega
            have hkn' : ¬ ((0 : Int) < (k : Int)) := by omega
            have dk : decide ((0 : Int) < (k : Int)) = false := decide_eq_false hkn'
            clear hk0
            go_wp2
            go_quiet ((go_at_call 61; with_reducible exact quiet_addQ J1.out))
            go_wp2
            go_roundw
            case rel => exact ⟨k + 1, _, by omega, by go_num, rfl, HP.out⟩
            case measure => simp [intOf]; omega
          · have hkp : 0 < k := by omega
            have hk2 : k - 1 < S.length := by omega
            obtain ⟨ad', e', hab', hc'⟩ := ivs_at hS3 hk2
            injection e' with e'
            subst e'
            have HD' := Lib.hid (getD_i hk2)
            obtain ⟨y, hy⟩ : ∃ y, y = S[k - 1] := ⟨_, rfl⟩
            rw [← hy] at hc' HD'
            clear hy hab'
            by_cases g1 : z ≤ y
            · have HB := Lib.hid (setB_bad (N := m) (X := X) hkz (by unfold okS; rw [HD.out, HD'.out]; simp; omega))
              have d1 : decide (z ≤ y) = true := decide_eq_true g1
              go_wp2
              go_quiet ((go_at_call 61; with_reducible exact quiet_addQ J1.out))
              go_wp2
              go_ret
              first | exact ⟨ret_b HB.out.symm, below_drewN (below_drewN hb4 _) _⟩ | exact ⟨ret_b HB.out.symm, below_drewN hb4 _⟩
            · have HP := Lib.hid (hpre.out.succ (by unfold okS; rw [HD.out, HD'.out, I1.out]; simp; omega))
              have d1 : decide (z ≤ y) = false := decide_eq_false g1
              go_wp2
              go_quiet ((go_at_call 61; with_reducible exact quiet_addQ J1.out))
              go_wp2
              go_roundw
              case rel => exact ⟨k + 1, _, by omega, by go_num, rfl, HP.out⟩
              case measure => simp [intOf]; omega
        · have i1' : inr z 0 ((m : Int) - 1) = false := by simpa using i1
          have J1 := Lib.hid (l1In_Q (w := w3) z 0 ((m : Int) - 1) i1')
          have HB := Lib.hid (setB_bad (N := m) (X := X) hkz (by unfold okS; rw [HD.out, i1']; rfl))
          clear i1 i1'
          go_wp2
          go_quiet ((go_at_call 61; with_reducible exact quiet_addQ J1.out))
          go_wp2
          go_ret
          first | exact ⟨ret_b HB.out.symm, below_drewN (below_drewN hb4 _) _⟩ | exact ⟨ret_b HB.out.symm, below_drewN hb4 _⟩
      · have e : k = n' := by omega
        subst e
        have HE := Lib.hid (show setB m X S = true by unfold setB; rw [HG.out, decide_eq_true (by rw [hl'.out]; exact hpre.out)]; rfl)
        go_wp2
        go_ret
        exact ⟨ret_b HE.out.symm, below_drewN hb4 q⟩
/-- Whether a list is free of quarrels. -/
def freeB (N : Int) (X : List (List Int)) (S : List Int) : Bool := !(S.any fun z => (hit N X S).contains z) && setB N X S
theorem hit_len (N : Int) (Y : List (List Int)) (S : List Int) : (hit N Y S).length ≤ 10 := by
  rw [← hit_code]
  exact lsT_len _ _
set_option maxHeartbeats 2000000 in
theorem specIsFree_any {w : World} {A A' : Option Addr} {n c n' c' : Nat} {N : Int} {X : List (List Int)} {S : List Int} (hl : Hid (X.length = n)) (hn : n ≤ 1099511627776) (hr : RdSS w w.heap.size A X) (hl' : Hid (S.length = n')) (hn' : n' ≤ 1099511627776) (hr' : Rd w w.heap.size A' (ivs S)) :
    Calls Try.prog 127 #[.agg #[.int .i64 N, .slice A n c], .slice A' n' c'] w (Tells (freeB N X S) w) := by
  obtain ⟨W1, hW, bx1, hb1⟩ := one_graph w #[Value.int IntKind.i64 N, Value.slice A n c] 27
  have HR := Lib.hid ((hr.below hb1).more hb1.size)
  have HS := Lib.hid ((hr'.below hb1).more hb1.size)
  have hW' := hW.symm
  obtain ⟨C0, C1⟩ := bx1.two
  clear hW hr hr'
  go_enter Try.func127, Try.ntmps127
  go_wp2_with fail
  clear hW'
  refine (specHitBy_any (N := N) (X := X) (S := S) hl hn HR.out hl' hn' HS.out).mono ?_
  rintro e w3 ⟨hv, rfl, hrh, hb3⟩
  obtain ⟨Ah, ch, rfl, hrd, _, _⟩ := hrh.rd (n := (hit N X S).length) (ivs_len _)
  have HHL := Lib.hid (hit_len N X S)
  have hb4 := hb1.trans (hb3.mono hb1.size)
  have hS3 := (HS.out.below hb3).more hb3.size
  have hR3 := (HR.out.below hb3).more hb3.size
  obtain ⟨D0, D1⟩ := (bx1.new hb3).two
  clear C0 C1 bx1 hrh
  go_wp2_with fail
  go_loopw [6] (fun i wr => ∃ k : Nat, k ≤ n' ∧ i = .int .i64 k ∧ wr = w3 ∧ Hid ((S.take k).any (fun z => (hit N X S).contains z) = false)) (fun i _ => n' - (intOf i).toNat)
  case atStart => exact ⟨0, Nat.zero_le _, rfl, rfl, Lib.hid rfl⟩
  case round =>
    obtain ⟨k, hk, rfl, rfl, hno⟩ := hrel
    by_cases hlt : k < n'
    · have hkz : k < S.length := by rw [hl'.out]; exact hlt
      obtain ⟨ad, rfl, hab, hc⟩ := ivs_at hS3 hkz
      have HA := Lib.hid (any_takeF (f := fun z => (hit N X S).contains z) hkz)
      rw [hno.out, Bool.false_or] at HA
      obtain ⟨z, hz⟩ : ∃ z, z = S[k] := ⟨_, rfl⟩
      rw [← hz] at hc HA
      have i0 : (0 : Int) ≤ (k : Int) := by omega
      by_cases h1 : (hit N X S).contains z = true
      · have HB := Lib.hid (show freeB N X S = false by
          unfold freeB
          rw [show (S.any fun z => (hit N X S).contains z) = true from List.any_eq_true.2 ⟨z, hz ▸ List.getElem_mem hkz, h1⟩]
          rfl)
        have H1 := Lib.hid h1
        clear hz h1
        go_wp2_with fail
        refine (l4Has_any (S := hit N X S) (a := z) (Lib.hid rfl) (by have := HHL.out; omega) hrd).mono ?_
        rintro e w5 ⟨rfl, rfl⟩
        rw [H1.out]
        go_wp2_with fail
        go_ret
        exact ⟨ret_b HB.out.symm, hb4⟩
      · have h1' : (hit N X S).contains z = false := by simpa using h1
        have HN := Lib.hid (HA.out.trans h1')
        have H1 := Lib.hid h1'
        clear hz h1 h1'
        go_wp2_with fail
        refine (l4Has_any (S := hit N X S) (a := z) (Lib.hid rfl) (by have := HHL.out; omega) hrd).mono ?_
        rintro e w5 ⟨rfl, rfl⟩
        rw [H1.out]
        go_wp2_with fail
        go_roundw
        case rel => exact ⟨k + 1, by omega, by go_num, trivial, HN⟩
        case measure => simp [intOf]; omega
    · have e : k = n' := by omega
      subst e
      have HF := Lib.hid (show freeB N X S = setB N X S by
        have h := hno.out
        rw [List.take_of_length_le (by rw [hl'.out]; exact Nat.le_refl _)] at h
        unfold freeB
        rw [h]
        rfl)
      go_wp2_with fail
      refine (specIsSet_any (N := N) (X := X) (S := S) hl hn hR3 hl' hn' hS3).mono ?_
      rintro e w5 ⟨rfl, hb5⟩
      go_wp2_with fail
      go_ret
      exact ⟨ret_b HF.out.symm, hb4.trans (hb5.mono hb4.size)⟩
/-- Whether a set defends a claim. -/
def defB (N : Int) (X : List (List Int)) (S : List Int) (c : Int) : Bool := setB N X S && inr c 0 (N - 1) && !((atk N X c).any fun z => !((hit N X S).contains z))
theorem atk_lenF (N : Int) (X : List (List Int)) (c : Int) (h : gB N X = true) : (atk N X c).length ≤ X.length := by
  unfold atk
  rw [if_pos h, List.length_map]
  exact List.length_filter_le _ _
theorem atk_lenX (N : Int) (X : List (List Int)) (c : Int) : (atk N X c).length ≤ X.length := by
  by_cases h : gB N X = true
  · exact atk_lenF N X c h
  · unfold atk; rw [if_neg h]; simp
set_option maxHeartbeats 2000000 in
theorem specDefends_any {w : World} {A A' : Option Addr} {n c n' c' : Nat} {N a : Int} {X : List (List Int)} {S : List Int} (hl : Hid (X.length = n)) (hn : n ≤ 1099511627776) (hr : RdSS w w.heap.size A X) (hl' : Hid (S.length = n')) (hn' : n' ≤ 1099511627776) (hr' : Rd w w.heap.size A' (ivs S)) :
    Calls Try.prog 153 #[.agg #[.int .i64 N, .slice A n c], .slice A' n' c', .int .i64 a] w (Tells (defB N X S a) w) := by
  obtain ⟨W1, hW, bx1, hb1⟩ := one_graph w #[Value.int IntKind.i64 N, Value.slice A n c] 27
  have HR := Lib.hid ((hr.below hb1).more hb1.size)
  have HS := Lib.hid ((hr'.below hb1).more hb1.size)
  have hW' := hW.symm
  obtain ⟨C0, C1⟩ := bx1.two
  clear hW hr hr'
  go_enter Try.func153, Try.ntmps153
  go_wp2_with fail
  clear hW'
  refine (specIsSet_any (N := N) (X := X) (S := S) hl hn HR.out hl' hn' HS.out).mono ?_
  rintro e w2 ⟨rfl, hb2⟩
  have hb3 := hb1.trans (hb2.mono hb1.size)
  by_cases hs : setB N X S = true
  case neg =>
    have hs' : setB N X S = false := by simpa using hs
    have HB := Lib.hid (show defB N X S a = false by unfold defB; rw [hs']; rfl)
    rw [hs']
    clear hs hs'
    go_wp2_with fail
    go_ret
    exact ⟨ret_b HB.out.symm, hb3⟩
  case pos =>
    have hg : gB N X = true := by unfold setB at hs; rw [Bool.and_eq_true] at hs; exact hs.1
    obtain ⟨m, rfl, hm, _, _⟩ := gB_ok hg
    have HSB := Lib.hid hs
    rw [hs]
    have hS2 := (HS.out.below hb2).more hb2.size
    have hR2 := (HR.out.below hb2).more hb2.size
    have bx2 := bx1.new hb2
    obtain ⟨D0, D1⟩ := bx2.two
    clear hs hg C0 C1 bx1
    by_cases hi : inr a 0 ((m : Int) - 1) = true
    case neg =>
      have hi' : inr a 0 ((m : Int) - 1) = false := by simpa using hi
      have HB := Lib.hid (show defB m X S a = false by unfold defB; rw [hi', Bool.and_false]; rfl)
      have HI := Lib.hid hi'
      clear hi hi'
      go_wp2_with (go_at_call 61; refine (l1In_any _ _ _ _).mono ?_; rintro e w4 ⟨he, rfl⟩; rw [HI.out] at he; subst he)
      go_ret
      exact ⟨ret_b HB.out.symm, hb3⟩
    case pos =>
      have HI := Lib.hid hi
      clear hi
      go_wp2_with (go_at_call 61; refine (l1In_any _ _ _ _).mono ?_; rintro e w4 ⟨he, rfl⟩; rw [HI.out] at he; subst he)
      refine (specHitBy_any (N := m) (X := X) (S := S) hl hn hR2 hl' hn' hS2).mono ?_
      rintro e w5 ⟨hv, rfl, hrh, hb5⟩
      obtain ⟨Ah, ch, rfl, hrd, _, _⟩ := hrh.rd (n := (hit m X S).length) (ivs_len _)
      have HHL := Lib.hid (hit_len m X S)
      have HAL := Lib.hid (show (atk m X a).length ≤ 1099511627776 by have := atk_lenX m X a; have := hl.out; omega)
      have hb6 := hb3.trans (hb5.mono hb3.size)
      have hR5 := (hR2.below hb5).more hb5.size
      obtain ⟨E0, E1⟩ := (bx2.new hb5).two
      clear D0 D1 bx2 hrh
      go_wp2_with fail
      refine (specAttackersOf_any (N := m) (X := X) (a := a) hl hn hR5).mono ?_
      rintro e w7 ⟨av, rfl, hra, hb7⟩
      obtain ⟨Aa, ca, rfl, hrda, _, _⟩ := hra.rd (n := (atk m X a).length) (ivs_len _)
      have hrd7 := (hrd.below hb7).more hb7.size
      have hb8 := hb6.trans (hb7.mono hb6.size)
      clear E0 E1 hra hrd
      have hal := HAL.out
      go_wp2_with fail
      go_loopw [9] (fun i wr => ∃ k : Nat, k ≤ (atk m X a).length ∧ i = .int .i64 k ∧ wr = w7 ∧ Hid (((atk m X a).take k).any (fun z => !((hit m X S).contains z)) = false)) (fun i _ => (atk m X a).length - (intOf i).toNat)
      case atStart => exact ⟨0, Nat.zero_le _, rfl, rfl, Lib.hid rfl⟩
      case round =>
        obtain ⟨k, hk, rfl, rfl, hno⟩ := hrel
        by_cases hlt : k < (atk m X a).length
        · obtain ⟨ad, rfl, hab, hc⟩ := ivs_at hrda hlt
          have HA := Lib.hid (any_takeF (f := fun z => !((hit m X S).contains z)) hlt)
          rw [hno.out, Bool.false_or] at HA
          obtain ⟨z, hz⟩ : ∃ z, z = (atk m X a)[k] := ⟨_, rfl⟩
          rw [← hz] at hc HA
          have i0 : (0 : Int) ≤ (k : Int) := by omega
          by_cases h1 : (hit m X S).contains z = true
          · have HN := Lib.hid (HA.out.trans (by rw [h1]))
            have H1 := Lib.hid h1
            clear hz h1
            go_wp2_with fail
            refine (l4Has_any (S := hit m X S) (a := z) (Lib.hid rfl) (by have := HHL.out; omega) hrd7).mono ?_
            rintro e w5 ⟨rfl, rfl⟩
            rw [H1.out]
            go_wp2_with fail
            go_roundw
            case rel => exact ⟨k + 1, by omega, by go_num, trivial, HN⟩
            case measure => simp [intOf]; omega
          · have h1' : (hit m X S).contains z = false := by simpa using h1
            have HB := Lib.hid (show defB m X S a = false by
              unfold defB
              rw [show ((atk m X a).any fun z => !((hit m X S).contains z)) = true from List.any_eq_true.2 ⟨z, hz ▸ List.getElem_mem hlt, by rw [h1']; rfl⟩]
              simp)
            have H1 := Lib.hid h1'
            clear hz h1 h1'
            go_wp2_with fail
            refine (l4Has_any (S := hit m X S) (a := z) (Lib.hid rfl) (by have := HHL.out; omega) hrd7).mono ?_
            rintro e w5 ⟨rfl, rfl⟩
            rw [H1.out]
            go_wp2_with fail
            go_ret
            exact ⟨ret_b HB.out.symm, hb8⟩
        · have e : k = (atk m X a).length := by omega
          have HF := Lib.hid (show defB m X S a = true by
            have h := hno.out
            rw [e, List.take_length] at h
            unfold defB
            rw [h, HSB.out, HI.out]
            rfl)
          subst e
          go_wp2_with fail
          go_ret
          exact ⟨ret_b HF.out.symm, hb8⟩
end Go.Proofs.Ytejncjjkcmhmbaa

/- Contracts of the models of chapter 5: DefendedBy, IsAdmissible, IsStable. No conditions but that the slices have at most 2^40 elements. -/
namespace Go.Proofs.Ytejncjjkcmhmbaa
open Go.ChangeShapes Go.WideShapes Go.ChangeAt Go.RowKit
set_option maxRecDepth 100000
def defT (N : Int) (X : List (List Int)) (S : List Int) (k : Nat) : List Int := ((List.range k).filter fun (j : Nat) => defB N X S j).map fun (j : Nat) => (j : Int)
/-- What a set defends. -/
def defL (N : Int) (X : List (List Int)) (S : List Int) : List Int := if setB N X S then defT N X S N.toNat else []
theorem defT_yes {N : Int} {X : List (List Int)} {S : List Int} {k : Nat} (h : defB N X S k = true) : defT N X S (k + 1) = defT N X S k ++ [(k : Int)] := by simp [defT, List.range_succ, h]
theorem defT_no {N : Int} {X : List (List Int)} {S : List Int} {k : Nat} (h : defB N X S k = false) : defT N X S (k + 1) = defT N X S k := by simp [defT, List.range_succ, h]
theorem defT_len (N : Int) (X : List (List Int)) (S : List Int) (k : Nat) : (defT N X S k).length ≤ k := by
  unfold defT
  rw [List.length_map]
  exact Nat.le_trans (List.length_filter_le _ _) (by simp)
theorem setB_g {N : Int} {X : List (List Int)} {S : List Int} (h : setB N X S = true) : gB N X = true := by
  unfold setB at h; rw [Bool.and_eq_true] at h; exact h.1
set_option maxHeartbeats 4000000 in
theorem specDefendedBy_any {w : World} {A A' : Option Addr} {n c n' c' : Nat} {N : Int} {X : List (List Int)} {S : List Int} (hl : Hid (X.length = n)) (hn : n ≤ 1099511627776) (hr : RdSS w w.heap.size A X) (hl' : Hid (S.length = n')) (hn' : n' ≤ 1099511627776) (hr' : Rd w w.heap.size A' (ivs S)) :
    Calls Try.prog 129 #[.agg #[.int .i64 N, .slice A n c], .slice A' n' c'] w (Fresh 3 (ivs (defL N X S)) w) := by
  obtain ⟨ti, hti, hz0, hz1, hz2⟩ := info_parts IntS_info
  obtain ⟨Wa, hWa, bx0, hb1⟩ := one_graph w #[Value.int IntKind.i64 N, Value.slice A n c] 27
  have hsa : Wa.heap.size = w.heap.size + 1 := by rw [hWa]; simp
  have hb2 : Below w.heap.size w (Wa.alloc (Obj.cells #[] 3)) := hb1.alloc hb1.size _
  have hrow0 := (Row.made (w := Wa) (w.heap.size + 1) #[] 0 3 (by omega) rfl (Nat.zero_le _)).wide (hi' := (Wa.alloc (Obj.cells #[] 3)).heap.size) (Nat.le_refl _) (by simp)
  have bx1 := bx0.new ((Below.refl Wa.heap.size Wa).alloc (Nat.le_refl _) (Obj.cells #[] 3))
  obtain ⟨W1, hW⟩ : ∃ u : World, u = Wa.alloc (Obj.cells #[] 3) := ⟨_, rfl⟩
  rw [← hW] at hb2 hrow0 bx1
  rw [hsa] at hrow0
  have hWf : (w.alloc (Obj.cells #[Value.int IntKind.i64 N, Value.slice A n c] 27)).alloc (Obj.cells #[] 3) = W1 := by rw [hW, hWa]
  have HR := Lib.hid (hr.below hb2)
  have HS := Lib.hid (hr'.below hb2)
  clear hW hWa hr hr' bx0 hb1 hsa
  go_enter Try.func129, Try.ntmps129
  go_wp2_with fail
  try rw [hWf]
  clear hWf
  go_loopw [5, 6] (fun b i wr => ∃ k : Nat, k ≤ 10 ∧ i = .int .i64 k ∧ Row wr (w.heap.size + 1) wr.heap.size 3 b (ivs (defT N X S k)) ∧ Below w.heap.size w wr ∧ Bx wr w.heap.size 27 #[Value.int IntKind.i64 N, Value.slice A n c] ∧ RdSS wr w.heap.size A X ∧ Rd wr w.heap.size A' (ivs S) ∧ Hid (k = 0 ∨ (k : Int) ≤ N)) (fun _ i _ => 10 - (intOf i).toNat)
  case atStart => exact ⟨0, by omega, rfl, hrow0, hb2, bx1, HR.out, HS.out, Lib.hid (.inl rfl)⟩
  case round =>
    obtain ⟨k, hk, rfl, hrow, hbw, bxk, hrk, hsk, hkN⟩ := hrel
    obtain ⟨C0, C1⟩ := bxk.two
    have hsz := hbw.size
    by_cases hkM : (k : Int) < N
    · go_wp2_with fail
      refine (specIsSet_any (N := N) (X := X) (S := S) hl hn (hrk.more hsz) hl' hn' (hsk.more hsz)).mono ?_
      rintro e w3 ⟨rfl, hb3⟩
      have hb5 := hbw.trans (hb3.mono hsz)
      have bx3 := bxk.new hb3
      have hr3 := hrk.below (hb3.mono hsz)
      have hs3 := hsk.below (hb3.mono hsz)
      have hrow3 := (hrow.new hb3).wide (Nat.le_refl _) hb3.size
      have hz3 := hb5.size
      have hg3 := bx3.lt
      obtain ⟨D0, D1⟩ := bx3.two
      clear hrow C0 C1
      by_cases hset : setB N X S = true
      · obtain ⟨m, rfl, hm, _, _⟩ := gB_ok (setB_g hset)
        have hkm : k < 10 := by omega
        rw [hset]
        clear hset
        go_wp2_with fail
        refine (specDefends_any (N := m) (X := X) (S := S) (a := k) hl hn (hr3.more hz3) hl' hn' (hs3.more hz3)).mono ?_
        rintro e w4 ⟨rfl, hb4⟩
        have hb6 := hb5.trans (hb4.mono hz3)
        have bx4 := bx3.new hb4
        have hr4 := hr3.below (hb4.mono hz3)
        have hs4 := hs3.below (hb4.mono hz3)
        have hrow4 := (hrow3.new hb4).wide (Nat.le_refl _) hb4.size
        have hz4 := hb6.size
        have hg4 := bx4.lt
        obtain ⟨ys, hys⟩ : ∃ ys, ys = defT m X S k := ⟨_, rfl⟩
        have hyl : ys.length ≤ k := by rw [hys]; exact defT_len m X S k
        have HK := Lib.hid (show k + 1 = 0 ∨ ((k + 1 : Nat) : Int) ≤ m from .inr (by omega))
        clear hrow3 D0 D1
        by_cases hd : defB m X S k = true
        · have HT := Lib.hid (defT_yes hd)
          rw [hd]
          rw [← hys] at hrow4 HT
          have hbl : Below w4.heap.size w4 (w4.alloc (Obj.cells #[Value.int .i64 k] 3)) := (Below.refl _ _).alloc (Nat.le_refl _) _
          have hrow2 := hrow4.new hbl
          have hmade := Rd.made w4 #[Value.int .i64 k] 3
          have L : (ivs ys).length + 1 ≤ maxLen ∧ ((ivs ys).length + 1) * 8 ≤ 140737488355328 := by rw [ivs_len]; unfold maxLen; omega
          have L1 := Lib.hid L
          clear L hys hd
          go_wp2_with (at_builtin; refine wpList_app rfl (.tmp 23) (.tmp 25) 25 rfl 3 ti _ 8 Try.underlying25 hti hz0 hz1 hz2 rfl rfl rfl hrow2 rfl hmade (by simp [Value.oneCell']) L1.out.1 L1.out.2 (by simp; omega) ?_; intro v1 w1 hrow1 ho1)
          have hob := ho1.below (B := w.heap.size) (by omega) (by simp; omega)
          go_roundw
          case rel => exact ⟨k + 1, by omega, by go_num, by rw [HT.out, ← ivs_snoc_l]; exact hrow1, hb6.trans ((hbl.mono hz4).trans hob), (bx4.new hbl).out ho1 (by first | exact .inl (by omega) | exact .inr (by omega)), (hr4.below (hbl.mono hz4)).below hob, (hs4.below (hbl.mono hz4)).below hob, HK⟩
          case measure => simp [intOf]; omega
        · have hd' : defB m X S k = false := by simpa using hd
          have HT := Lib.hid (defT_no hd')
          rw [hd']
          rw [← hys] at hrow4 HT
          clear hys hd hd'
          go_wp2_with fail
          go_roundw
          case rel => exact ⟨k + 1, by omega, by go_num, by rw [HT.out]; exact hrow4, hb6, bx4, hr4, hs4, HK⟩
          case measure => simp [intOf]; omega
      · have hset' : setB N X S = false := by simpa using hset
        have HD := Lib.hid (show defT N X S k = defL N X S by
          unfold defL defT
          rw [if_neg hset]
          have hf : ∀ j : Nat, defB N X S j = false := fun j => by unfold defB; rw [hset']; rfl
          simp [hf])
        rw [hset']
        clear hset hset'
        go_wp2_with fail
        go_ret
        exact ⟨_, rfl, by rw [← HD.out]; exact hrow3.wide (by omega) (Nat.le_refl _), hb5⟩
    · have HD := Lib.hid (show defT N X S k = defL N X S by
        unfold defL
        by_cases hset : setB N X S = true
        · rw [if_pos hset]
          obtain ⟨m, rfl, _, _, _⟩ := gB_ok (setB_g hset)
          have hh := hkN.out
          have : k = (m : Int).toNat := by rcases hh with h | h <;> omega
          rw [← this]
        · have hset' : setB N X S = false := by simpa using hset
          rw [if_neg hset]
          have hf : ∀ j : Nat, defB N X S j = false := fun j => by unfold defB; rw [hset']; rfl
          simp [defT, hf])
      go_wp2_with fail
      go_ret
      exact ⟨_, rfl, by rw [← HD.out]; exact hrow.wide (by omega) (Nat.le_refl _), hbw⟩
/-- Whether a set is admissible. -/
def admB (N : Int) (X : List (List Int)) (S : List Int) : Bool := !(S.any fun z => !(defB N X S z)) && freeB N X S
end Go.Proofs.Ytejncjjkcmhmbaa

/- Contract of the model of IsStable. No conditions but that the slices have at most 2^40 elements. -/
namespace Go.Proofs.Ytejncjjkcmhmbaa
open Go.ChangeShapes Go.WideShapes Go.ChangeAt Go.RowKit
set_option maxRecDepth 100000
def outP (N : Int) (X : List (List Int)) (S : List Int) (k : Nat) : Bool := !(S.contains (k : Int)) && !((hit N X S).contains (k : Int))
/-- Whether a set is stable. -/
def stabB (N : Int) (X : List (List Int)) (S : List Int) : Bool := !(setB N X S && (List.range N.toNat).any (outP N X S)) && freeB N X S
theorem range_any {f : Nat → Bool} {k : Nat} : (List.range (k + 1)).any f = ((List.range k).any f || f k) := by
  rw [List.range_succ, List.any_append]; simp
end Go.Proofs.Ytejncjjkcmhmbaa
