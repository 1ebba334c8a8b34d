/- Contract of the model of HitBy. No conditions but that the slices have at most 2^40 elements. -/
import Derived.Test.YtejncjjkcmhmbaaMg5
namespace Go.Proofs.Ytejncjjkcmhmbaa
open Go.ChangeShapes Go.WideShapes Go.ChangeAt Go.RowKit
set_option maxRecDepth 100000
theorem l4Has_any {w : World} {A : Option Addr} {n c : Nat} {a : Int} {S : List Int} (hl : Hid (S.length = n)) (hn : n ≤ 1099511627776) (hr : Rd w w.heap.size A (ivs S)) :
    Calls Try.prog 62 #[.slice A n c, .int .i64 a] w (fun e w' => e = .returned (.bool (S.contains a)) ∧ w = w') := by
  go_enter Try.func62, Try.ntmps62
  go_wp2_with fail
  go_loopw [5] (fun i wr => ∃ k : Nat, k ≤ n ∧ i = .int .i64 k ∧ wr = w ∧ Hid ((S.take k).contains a = false)) (fun i _ => n - (intOf i).toNat)
  case atStart => exact ⟨0, Nat.zero_le _, rfl, rfl, Lib.hid rfl⟩
  case round =>
    obtain ⟨k, hk, rfl, rfl, hno⟩ := hrel
    by_cases hlt : k < n
    · have hkz : k < S.length := by rw [hl.out]; exact hlt
      obtain ⟨ad, rfl, hab, hc⟩ := ivs_at hr hkz
      have i0 : (0 : Int) ≤ (k : Int) := by omega
      by_cases h1 : S[k] = a
      · have HY := Lib.hid (show S.contains a = true by rw [List.contains_iff_mem]; exact h1 ▸ List.getElem_mem hkz)
        rw [h1] at hc
        clear h1
        go_wp2_with fail
        go_ret
        exact ⟨ret_b HY.out.symm, rfl⟩
      · have HN := Lib.hid (show (S.take (k + 1)).contains a = false by
          rw [List.take_succ_eq_append_getElem hkz]
          have := hno.out
          simp only [List.contains_eq_mem, decide_eq_false_iff_not, List.mem_append, List.mem_singleton, not_or] at this ⊢
          exact ⟨this, fun e => h1 e.symm⟩)
        have h1' : (S[k] == a) = false := by simpa using h1
        obtain ⟨z, hz⟩ : ∃ z, z = S[k] := ⟨_, rfl⟩
        rw [← hz] at hc h1 h1'
        clear hz
        go_wp2_with fail
        go_roundw
        case rel => exact ⟨k + 1, by omega, by go_num, trivial, HN⟩
        case measure => simp [intOf]; omega
    · have e : k = n := by omega
      subst e
      have HF := Lib.hid (show S.contains a = false by have := hno.out; rwa [List.take_of_length_le (by rw [hl.out]; exact Nat.le_refl _)] at this)
      go_wp2_with fail
      go_ret
      exact ⟨ret_b HF.out.symm, rfl⟩
theorem hitL_yes {X : List (List Int)} {S : List Int} {k : Nat} (h : hitP X S k = true) : hitL X S (k + 1) = hitL X S k ++ [(k : Int)] := by simp [hitL, List.range_succ, h]
theorem hitL_no {X : List (List Int)} {S : List Int} {k : Nat} (h : hitP X S k = false) : hitL X S (k + 1) = hitL X S k := by simp [hitL, List.range_succ, h]
theorem hitL_len (X : List (List Int)) (S : List Int) (k : Nat) : (hitL X S k).length ≤ k := by
  unfold hitL
  rw [List.length_map]
  exact Nat.le_trans (List.length_filter_le _ _) (by simp)
set_option maxHeartbeats 8000000 in
theorem specHitBy_any {w : World} {A A' : Option Addr} {n c n' c' : Nat} {N : Int} {X : List (List Int)} {S : List Int} (hl : Hid (X.length = n)) (hn : n ≤ 1099511627776) (hr : RdSS w w.heap.size A X) (hl' : Hid (S.length = n')) (hn' : n' ≤ 1099511627776) (hr' : Rd w w.heap.size A' (ivs S)) :
    Calls Try.prog 151 #[.agg #[.int .i64 N, .slice A n c], .slice A' n' c'] w (Fresh 3 (ivs (hit N X S)) w) := by
  obtain ⟨ti, hti, hz0, hz1, hz2⟩ := info_parts IntS_info
  have hb1 : Below w.heap.size w (w.alloc (Obj.cells #[Value.int IntKind.i64 N, Value.slice A n c] 27)) := (Below.refl _ _).alloc (Nat.le_refl _) _
  have bx0 := Bx.made w 27 #[Value.int IntKind.i64 N, Value.slice A n c]
  obtain ⟨Wa, hWa⟩ : ∃ u : World, u = w.alloc (Obj.cells #[Value.int IntKind.i64 N, Value.slice A n c] 27) := ⟨_, rfl⟩
  have hsa : Wa.heap.size = w.heap.size + 1 := by rw [hWa]; simp
  rw [← hWa] at hb1 bx0
  have hb2 : Below w.heap.size w (Wa.alloc (Obj.cells #[] 3)) := hb1.alloc hb1.size _
  have hrow0 := (Row.made (w := Wa) (w.heap.size + 1) #[] 0 3 (by omega) rfl (Nat.zero_le _)).wide (hi' := (Wa.alloc (Obj.cells #[] 3)).heap.size) (Nat.le_refl _) (by simp)
  have bx1 := bx0.new ((Below.refl Wa.heap.size Wa).alloc (Nat.le_refl _) (Obj.cells #[] 3))
  obtain ⟨W1, hW⟩ : ∃ u : World, u = Wa.alloc (Obj.cells #[] 3) := ⟨_, rfl⟩
  rw [← hW] at hb2 hrow0 bx1
  rw [hsa] at hrow0
  have hWf : (w.alloc (Obj.cells #[Value.int IntKind.i64 N, Value.slice A n c] 27)).alloc (Obj.cells #[] 3) = W1 := by rw [hW, hWa]
  have HR := Lib.hid ((hr.below hb2))
  have HR' := Lib.hid ((hr'.below hb2))
  clear hW hWa hr hr' bx0 hb1
  by_cases hg : gB N X = true
  case neg =>
    have hg' : gB N X = false := by simpa using hg
    have HG := Lib.hid hg'
    have HD := Lib.hid (show hit N X S = [] by unfold hit; rw [hg']; rfl)
    clear hg hg'
    obtain ⟨C0, C1⟩ := bx1.two
    go_enter Try.func151, Try.ntmps151
    go_wp2_with fail
    clear hWf
    go_loopw [5, 6] (fun b i wr => i = .int .i64 0 ∧ wr = W1 ∧ Row W1 (w.heap.size + 1) W1.heap.size 3 b (ivs [])) (fun _ i _ => 0)
    case atStart => exact ⟨rfl, rfl, hrow0⟩
    case round =>
      obtain ⟨rfl, rfl, hrow⟩ := hrel
      by_cases h0 : 0 < N
      · go_wp2_with fail
        refine (specIsGraph_any (N := N) (X := X) (c := c) hl hn (HR.out.more hb2.size)).mono ?_
        rintro e w3 ⟨rfl, hb3⟩
        rw [HG.out]
        go_wp2_with fail
        go_ret
        exact ⟨_, rfl, by rw [HD.out]; exact (hrow.new hb3).wide (by omega) hb3.size, hb2.trans (hb3.mono hb2.size)⟩
      · go_wp2_with fail
        go_ret
        exact ⟨_, rfl, by rw [HD.out]; exact hrow.wide (by omega) (Nat.le_refl _), hb2⟩
  case pos =>
    obtain ⟨m, rfl, hm, hP, _⟩ := gB_ok hg
    have HG := Lib.hid hg
    have HD := Lib.hid (show hit m X S = hitL X S m by unfold hit; rw [if_pos hg, Int.toNat_natCast])
    have HP := Lib.hid hP
    clear hg hP
    go_enter Try.func151, Try.ntmps151
    go_wp2_with fail
    clear hWf
    go_loopw [5, 6] (fun b i wr => ∃ k : Nat, k ≤ m ∧ i = .int .i64 k ∧ Row wr (w.heap.size + 1) wr.heap.size 3 b (ivs (hitL X S k)) ∧ Below w.heap.size w wr ∧ Bx wr w.heap.size 27 #[Value.int IntKind.i64 m, Value.slice A n c] ∧ RdSS wr w.heap.size A X ∧ Rd wr w.heap.size A' (ivs S)) (fun _ i _ => m - (intOf i).toNat)
    case atStart => exact ⟨0, Nat.zero_le _, rfl, hrow0, hb2, bx1, HR.out, HR'.out⟩
    case round =>
      obtain ⟨k, hk, rfl, hrow, hbw, bxk, hrk, hrk'⟩ := hrel
      obtain ⟨C0, C1⟩ := bxk.two
      have hsz := hbw.size
      by_cases hlt : k < m
      · go_wp2_with fail
        refine (specIsGraph_any (N := m) (X := X) (c := c) hl hn (hrk.more hsz)).mono ?_
        rintro e w3 ⟨rfl, hb3⟩
        rw [HG.out]
        have hb5 := hbw.trans (hb3.mono hbw.size)
        have bx3 := bxk.new hb3
        have hr3 := hrk.below (hb3.mono hsz)
        have hr3' := hrk'.below (hb3.mono hsz)
        have hrow3 := (hrow.new hb3).wide (Nat.le_refl _) hb3.size
        have hs3 := hb5.size
        obtain ⟨D0, D1⟩ := bx3.two
        have hg3 := bx3.lt
        have i0 : (0 : Int) ≤ (k : Int) := by omega
        obtain ⟨ys, hys⟩ : ∃ ys, ys = hitL X S k := ⟨_, rfl⟩
        have hyl : ys.length ≤ k := by rw [hys]; exact hitL_len X S k
        rw [← hys] at hrow3
        clear hrow C0 C1
        go_wp2_with fail
        go_loopw [7, 8] (fun b i wr => ∃ j : Nat, j ≤ n ∧ i = .int .i64 j ∧ wr = w3 ∧ b = .bool ((X.take j).any fun x => x.getD 1 0 == (k : Int) && S.contains (x.getD 0 0))) (fun _ i _ => n - (intOf i).toNat)
        case atStart => exact ⟨0, Nat.zero_le _, rfl, rfl, rfl⟩
        case round =>
          obtain ⟨j, hj, rfl, rfl, rfl⟩ := hrel
          by_cases hjt : j < n
          · have hjz : j < X.length := by rw [hl.out]; exact hjt
            obtain ⟨ad, ag, ao, cj, p, q, rfl, _, hc, _, e0, e1, hx, _, _⟩ := pair_at hr3 HP.out hjz
            have HA := Lib.hid (any_take (f := fun x : List Int => x.getD 1 0 == (k : Int) && S.contains (x.getD 0 0)) hjz)
            have j0 : (0 : Int) ≤ (j : Int) := by omega
            obtain ⟨b, hb⟩ : ∃ b, b = (X.take j).any (fun x : List Int => x.getD 1 0 == (k : Int) && S.contains (x.getD 0 0)) := ⟨_, rfl⟩
            rw [← hb, hx] at HA
            rw [← hb]
            clear hb hx
            cases b
            · by_cases h1 : (q : Int) = k
              · have h1' : ((q : Int) == k) = true := by simpa using h1
                have hr4 := hr3'.more hs3
                have HB := Lib.hid (show (X.take (j + 1)).any (fun x : List Int => x.getD 1 0 == (k : Int) && S.contains (x.getD 0 0)) = decide ((p : Int) ∈ S) by rw [HA.out]; simp [h1])
                go_wp2_with (go_at_call 62; refine (l4Has_any hl' hn' hr4).mono ?_; rintro e w9 ⟨rfl, rfl⟩)
                go_roundw
                case rel => exact ⟨j + 1, by omega, by go_num, trivial, by rw [HB.out]⟩
                case measure => simp [intOf]; omega
              · have h1' : ((q : Int) == k) = false := by simpa using h1
                have HB := Lib.hid (show (X.take (j + 1)).any (fun x : List Int => x.getD 1 0 == (k : Int) && S.contains (x.getD 0 0)) = false by rw [HA.out]; simp [h1])
                go_wp2_with fail
                go_roundw
                case rel => exact ⟨j + 1, by omega, by go_num, trivial, by rw [HB.out]⟩
                case measure => simp [intOf]; omega
            · have HB := Lib.hid (show (X.take (j + 1)).any (fun x : List Int => x.getD 1 0 == (k : Int) && S.contains (x.getD 0 0)) = true by rw [HA.out]; rfl)
              go_wp2_with fail
              go_roundw
              case rel => exact ⟨j + 1, by omega, by go_num, trivial, by rw [HB.out]⟩
              case measure => simp [intOf]; omega
          · have e : j = n := by omega
            subst e
            rw [List.take_of_length_le (by rw [hl.out]; exact Nat.le_refl _)]
            have HH : Hid (hitP X S k = X.any fun x => x.getD 1 0 == (k : Int) && S.contains (x.getD 0 0)) := Lib.hid rfl
            obtain ⟨b, hb⟩ : ∃ b, b = X.any (fun x : List Int => x.getD 1 0 == (k : Int) && S.contains (x.getD 0 0)) := ⟨_, rfl⟩
            rw [← hb] at HH ⊢
            clear hb
            cases b
            · have HT := Lib.hid (hitL_no HH.out)
              rw [← hys] at HT
              go_wp2_with fail
              go_roundw
              case rel => exact ⟨k + 1, by omega, by go_num, by rw [HT.out]; exact hrow3, hb5, bx3, hr3, hr3'⟩
              case measure => simp [intOf]; omega
            · have HT := Lib.hid (hitL_yes HH.out)
              rw [← hys] at HT
              have hbl : Below wr.heap.size wr (wr.alloc (Obj.cells #[Value.int .i64 k] 3)) := (Below.refl _ _).alloc (Nat.le_refl _) _
              have hrow2 := hrow3.new hbl
              have hmade := Rd.made wr #[Value.int .i64 k] 3
              have L : (ivs ys).length + 1 ≤ maxLen ∧ ((ivs ys).length + 1) * 8 ≤ 140737488355328 := by rw [ivs_len]; unfold maxLen; omega
              have L1 := Lib.hid L
              clear L hys
              go_wp2_with (at_builtin; refine wpList_app rfl (.tmp 51) (.tmp 53) 25 rfl 3 ti _ 8 Try.underlying25 hti hz0 hz1 hz2 rfl rfl rfl hrow2 rfl hmade (by simp [Value.oneCell']) L1.out.1 L1.out.2 (by simp; omega) ?_; intro v1 w1 hrow1 ho1)
              have hob := ho1.below (B := w.heap.size) (by omega) (by simp; omega)
              go_roundw
              case rel => exact ⟨k + 1, by omega, by go_num, by rw [HT.out, ← ivs_snoc_l]; exact hrow1, hb5.trans ((hbl.mono hs3).trans hob), (bx3.new hbl).out ho1 (by first | exact .inl (by omega) | exact .inr (by omega)), (hr3.below (hbl.mono hs3)).below hob, (hr3'.below (hbl.mono hs3)).below hob⟩
              case measure => simp [intOf]; omega
      · have e : k = m := by omega
        subst e
        go_wp2_with fail
        go_ret
        exact ⟨_, rfl, by rw [HD.out]; exact hrow.wide (by omega) (Nat.le_refl _), hbw⟩
end Go.Proofs.Ytejncjjkcmhmbaa

/- Contracts of the models of chapter 5: IsSet, IsFree, Defends. No conditions but that the slices have at most 2^40 elements. -/
namespace Go.Proofs.Ytejncjjkcmhmbaa
open Go.ChangeShapes Go.WideShapes Go.ChangeAt Go.RowKit
set_option maxRecDepth 100000
theorem one_graph (w : World) (cs : Array Value) (t : TypeId) : ∃ W1 : World, W1 = w.alloc (Obj.cells cs t) ∧ Bx W1 w.heap.size t cs ∧ Below w.heap.size w W1 := ⟨_, rfl, Bx.made w t cs, (Below.refl _ _).alloc (Nat.le_refl _) _⟩
theorem any_takeF {α : Type} {X : List α} {f : α → Bool} {k : Nat} (hk : k < X.length) : (X.take (k + 1)).any f = ((X.take k).any f || f X[k]) := by
  rw [List.take_succ_eq_append_getElem hk, List.any_append]; simp
def okS (N : Int) (S : List Int) (i : Nat) : Bool := inr (S.getD i 0) 0 (N - 1) && (decide (i = 0) || decide (S.getD (i - 1) 0 < S.getD i 0))
def SPre (N : Int) (S : List Int) (k : Nat) : Prop := ∀ i, i < k → okS N S i = true
instance (N : Int) (S : List Int) (k : Nat) : Decidable (SPre N S k) := by unfold SPre; infer_instance
/-- Whether a list is a set of the graph's claims. -/
def setB (N : Int) (X : List (List Int)) (S : List Int) : Bool := gB N X && decide (SPre N S S.length)
theorem SPre.succ {N : Int} {S : List Int} {k : Nat} (h : SPre N S k) (hk : okS N S k = true) : SPre N S (k + 1) := fun i hi => by
  rcases Nat.lt_succ_iff_lt_or_eq.1 hi with h1 | rfl
  · exact h i h1
  · exact hk
theorem setB_bad {N : Int} {X : List (List Int)} {S : List Int} {k : Nat} (hk : k < S.length) (h : okS N S k = false) : setB N X S = false := by
  unfold setB
  rw [decide_eq_false (fun hp => by rw [hp k hk] at h; cases h), Bool.and_false]
theorem getD_i {S : List Int} {k : Nat} (h : k < S.length) : S.getD k 0 = S[k] := by simp [List.getD, h]
set_option maxHeartbeats 2000000 in
theorem specIsSet_any {w : World} {A A' : Option Addr} {n c n' c' : Nat} {N : Int} {X : List (List Int)} {S : List Int} (hl : Hid (X.length = n)) (hn : n ≤ 1099511627776) (hr : RdSS w w.heap.size A X) (hl' : Hid (S.length = n')) (hn' : n' ≤ 1099511627776) (hr' : Rd w w.heap.size A' (ivs S)) :
    Calls Try.prog 152 #[.agg #[.int .i64 N, .slice A n c], .slice A' n' c'] w (Tells (setB N X S) w) := by
  obtain ⟨W1, hW, bx1, hb1⟩ := one_graph w #[Value.int IntKind.i64 N, Value.slice A n c] 27
  have HR := Lib.hid ((hr.below hb1).more hb1.size)
  have HS := Lib.hid (hr'.below hb1)
  have hW' := hW.symm
  obtain ⟨C0, C1⟩ := bx1.two
  clear hW hr hr'
  go_enter Try.func152, Try.ntmps152
  go_wp2_with fail
  clear hW'
  refine (specIsGraph_any (N := N) (X := X) (c := c) hl hn HR.out).mono ?_
  rintro e w3 ⟨rfl, hb3⟩
  have hb4 := hb1.trans (hb3.mono hb1.size)
  by_cases hg : gB N X = true
  case neg =>
    have hg' : gB N X = false := by simpa using hg
    have HB := Lib.hid (show setB N X S = false by unfold setB; rw [hg']; rfl)
    rw [hg']
    clear hg hg'
    go_wp2_with fail
    go_ret
    exact ⟨ret_b HB.out.symm, hb4⟩
  case pos =>
    obtain ⟨m, rfl, hm, _, _⟩ := gB_ok hg
    have HG := Lib.hid hg
    rw [hg]
    have hS3 := HS.out.below (hb3.mono hb1.size)
    obtain ⟨D0, D1⟩ := (bx1.new hb3).two
    clear hg C0 C1 bx1
    go_wp2_with fail
    go_loopw [5] (fun i wr => ∃ k q : Nat, k ≤ n' ∧ i = .int .i64 k ∧ wr = w3.drewN q ∧ Hid (SPre m S k)) (fun i _ => n' - (intOf i).toNat)
    case atStart => exact ⟨0, 0, Nat.zero_le _, rfl, rfl, Lib.hid (fun i hi => absurd hi (by omega))⟩
    case round =>
      obtain ⟨k, q, hk, rfl, rfl, hpre⟩ := hrel
      by_cases hlt : k < n'
      · have hkz : k < S.length := by rw [hl'.out]; exact hlt
        obtain ⟨ad, rfl, hab, hc⟩ := ivs_at hS3 hkz
        have HD := Lib.hid (getD_i hkz)
        obtain ⟨z, hz⟩ : ∃ z, z = S[k] := ⟨_, rfl⟩
        rw [← hz] at hc HD
        have i0 : (0 : Int) ≤ (k : Int) := by omega
        clear hz hab
        by_cases i1 : inr z 0 ((m : Int) - 1) = true
        · have J1 := Lib.hid (l1In_Q (w := w3) z 0 ((m : Int) - 1) i1)
          have I1 := Lib.hid i1
          clear i1
          by_cases hk0 : k = 0
          · have HP := Lib.hid (hpre.out.succ (by unfold okS; rw [HD.out, I1.out, hk0]; rfl))
            have hkn : ¬ (0 < k) := by omega
            have hkn' : ¬ ((0 : Int) < (k : Int)) := by omega
            have dk : decide ((0 : Int) < (k : Int)) = false := decide_eq_false hkn'
            clear hk0
            go_wp2
            go_quiet ((go_at_call 61; with_reducible exact quiet_addQ J1.out))
            go_wp2
            go_roundw
            case rel => exact ⟨k + 1, _, by omega, by go_num, rfl, HP.out⟩
            case measure => simp [intOf]; omega
          · have hkp : 0 < k := by omega
            have hk2 : k - 1 < S.length := by omega
            obtain ⟨ad', e', hab', hc'⟩ := ivs_at hS3 hk2
            injection e' with e'
            subst e'
            have HD' := Lib.hid (getD_i hk2)
            obtain ⟨y, hy⟩ : ∃ y, y = S[k - 1] := ⟨_, rfl⟩
            rw [← hy] at hc' HD'
            clear hy hab'
            by_cases g1 : z ≤ y
            · have HB := Lib.hid (setB_bad (N := m) (X := X) hkz (by unfold okS; rw [HD.out, HD'.out]; simp; omega))
              have d1 : decide (z ≤ y) = true := decide_eq_true g1
              go_wp2
              go_quiet ((go_at_call 61; with_reducible exact quiet_addQ J1.out))
              go_wp2
              go_ret
              first | exact ⟨ret_b HB.out.symm, below_drewN (below_drewN hb4 _) _⟩ | exact ⟨ret_b HB.out.symm, below_drewN hb4 _⟩
            · have HP := Lib.hid (hpre.out.succ (by unfold okS; rw [HD.out, HD'.out, I1.out]; simp; omega))
              have d1 : decide (z ≤ y) = false := decide_eq_false g1
              go_wp2
              go_quiet ((go_at_call 61; with_reducible exact quiet_addQ J1.out))
              go_wp2
              go_roundw
              case rel => exact ⟨k + 1, _, by omega, by go_num, rfl, HP.out⟩
              case measure => simp [intOf]; omega
        · have i1' : inr z 0 ((m : Int) - 1) = false := by simpa using i1
          have J1 := Lib.hid (l1In_Q (w := w3) z 0 ((m : Int) - 1) i1')
          have HB := Lib.hid (setB_bad (N := m) (X := X) hkz (by unfold okS; rw [HD.out, i1']; rfl))
          clear i1 i1'
          go_wp2
          go_quiet ((go_at_call 61; with_reducible exact quiet_addQ J1.out))
          go_wp2
          go_ret
          first | exact ⟨ret_b HB.out.symm, below_drewN (below_drewN hb4 _) _⟩ | exact ⟨ret_b HB.out.symm, below_drewN hb4 _⟩
      · have e : k = n' := by omega
        subst e
        have HE := Lib.hid (show setB m X S = true by unfold setB; rw [HG.out, decide_eq_true (by rw [hl'.out]; exact hpre.out)]; rfl)
        go_wp2
        go_ret
        exact ⟨ret_b HE.out.symm, below_drewN hb4 q⟩
/-- Whether a list is free of quarrels. -/
def freeB (N : Int) (X : List (List Int)) (S : List Int) : Bool := !(S.any fun z => (hit N X S).contains z) && setB N X S
theorem hit_len (N : Int) (Y : List (List Int)) (S : List Int) : (hit N Y S).length ≤ 10 := by
  rw [← hit_code]
  exact lsT_len _ _
set_option maxHeartbeats 2000000 in
theorem specIsFree_any {w : World} {A A' : Option Addr} {n c n' c' : Nat} {N : Int} {X : List (List Int)} {S : List Int} (hl : Hid (X.length = n)) (hn : n ≤ 1099511627776) (hr : RdSS w w.heap.size A X) (hl' : Hid (S.length = n')) (hn' : n' ≤ 1099511627776) (hr' : Rd w w.heap.size A' (ivs S)) :
    Calls Try.prog 127 #[.agg #[.int .i64 N, .slice A n c], .slice A' n' c'] w (Tells (freeB N X S) w) := by
  obtain ⟨W1, hW, bx1, hb1⟩ := one_graph w #[Value.int IntKind.i64 N, Value.slice A n c] 27
  have HR := Lib.hid ((hr.below hb1).more hb1.size)
  have HS := Lib.hid ((hr'.below hb1).more hb1.size)
  have hW' := hW.symm
  obtain ⟨C0, C1⟩ := bx1.two
  clear hW hr hr'
  go_enter Try.func127, Try.ntmps127
  go_wp2_with fail
  clear hW'
  refine (specHitBy_any (N := N) (X := X) (S := S) hl hn HR.out hl' hn' HS.out).mono ?_
  rintro e w3 ⟨hv, rfl, hrh, hb3⟩
  obtain ⟨Ah, ch, rfl, hrd, _, _⟩ := hrh.rd (n := (hit N X S).length) (ivs_len _)
  have HHL := Lib.hid (hit_len N X S)
  have hb4 := hb1.trans (hb3.mono hb1.size)
  have hS3 := (HS.out.below hb3).more hb3.size
  have hR3 := (HR.out.below hb3).more hb3.size
  obtain ⟨D0, D1⟩ := (bx1.new hb3).two
  clear C0 C1 bx1 hrh
  go_wp2_with fail
  go_loopw [6] (fun i wr => ∃ k : Nat, k ≤ n' ∧ i = .int .i64 k ∧ wr = w3 ∧ Hid ((S.take k).any (fun z => (hit N X S).contains z) = false)) (fun i _ => n' - (intOf i).toNat)
  case atStart => exact ⟨0, Nat.zero_le _, rfl, rfl, Lib.hid rfl⟩
  case round =>
    obtain ⟨k, hk, rfl, rfl, hno⟩ := hrel
    by_cases hlt : k < n'
    · have hkz : k < S.length := by rw [hl'.out]; exact hlt
      obtain ⟨ad, rfl, hab, hc⟩ := ivs_at hS3 hkz
      have HA := Lib.hid (any_takeF (f := fun z => (hit N X S).contains z) hkz)
      rw [hno.out, Bool.false_or] at HA
      obtain ⟨z, hz⟩ : ∃ z, z = S[k] := ⟨_, rfl⟩
      rw [← hz] at hc HA
      have i0 : (0 : Int) ≤ (k : Int) := by omega
      by_cases h1 : (hit N X S).contains z = true
      · have HB := Lib.hid (show freeB N X S = false by
          unfold freeB
          rw [show (S.any fun z => (hit N X S).contains z) = true from List.any_eq_true.2 ⟨z, hz ▸ List.getElem_mem hkz, h1⟩]
          rfl)
        have H1 := Lib.hid h1
        clear hz h1
        go_wp2_with fail
        refine (l4Has_any (S := hit N X S) (a := z) (Lib.hid rfl) (by have := HHL.out; omega) hrd).mono ?_
        rintro e w5 ⟨rfl, rfl⟩
        rw [H1.out]
        go_wp2_with fail
        go_ret
        exact ⟨ret_b HB.out.symm, hb4⟩
      · have h1' : (hit N X S).contains z = false := by simpa using h1
        have HN := Lib.hid (HA.out.trans h1')
        have H1 := Lib.hid h1'
        clear hz h1 h1'
        go_wp2_with fail
        refine (l4Has_any (S := hit N X S) (a := z) (Lib.hid rfl) (by have := HHL.out; omega) hrd).mono ?_
        rintro e w5 ⟨rfl, rfl⟩
        rw [H1.out]
        go_wp2_with fail
        go_roundw
        case rel => exact ⟨k + 1, by omega, by go_num, trivial, HN⟩
        case measure => simp [intOf]; omega
    · have e : k = n' := by omega
      subst e
      have HF := Lib.hid (show freeB N X S = setB N X S by
        have h := hno.out
        rw [List.take_of_length_le (by rw [hl'.out]; exact Nat.le_refl _)] at h
        unfold freeB
        rw [h]
        rfl)
      go_wp2_with fail
      refine (specIsSet_any (N := N) (X := X) (S := S) hl hn hR3 hl' hn' hS3).mono ?_
      rintro e w5 ⟨rfl, hb5⟩
      go_wp2_with fail
      go_ret
      exact ⟨ret_b HF.out.symm, hb4.trans (hb5.mono hb4.size)⟩
/-- Whether a set defends a claim. -/
def defB (N : Int) (X : List (List Int)) (S : List Int) (c : Int) : Bool := setB N X S && inr c 0 (N - 1) && !((atk N X c).any fun z => !((hit N X S).contains z))
theorem atk_lenF (N : Int) (X : List (List Int)) (c : Int) (h : gB N X = true) : (atk N X c).length ≤ X.length := by
  unfold atk
  rw [if_pos h, List.length_map]
  exact List.length_filter_le _ _
theorem atk_lenX (N : Int) (X : List (List Int)) (c : Int) : (atk N X c).length ≤ X.length := by
  by_cases h : gB N X = true
  · exact atk_lenF N X c h
  · unfold atk; rw [if_neg h]; simp
set_option maxHeartbeats 2000000 in
theorem specDefends_any {w : World} {A A' : Option Addr} {n c n' c' : Nat} {N a : Int} {X : List (List Int)} {S : List Int} (hl : Hid (X.length = n)) (hn : n ≤ 1099511627776) (hr : RdSS w w.heap.size A X) (hl' : Hid (S.length = n')) (hn' : n' ≤ 1099511627776) (hr' : Rd w w.heap.size A' (ivs S)) :
    Calls Try.prog 153 #[.agg #[.int .i64 N, .slice A n c], .slice A' n' c', .int .i64 a] w (Tells (defB N X S a) w) := by
  obtain ⟨W1, hW, bx1, hb1⟩ := one_graph w #[Value.int IntKind.i64 N, Value.slice A n c] 27
  have HR := Lib.hid ((hr.below hb1).more hb1.size)
  have HS := Lib.hid ((hr'.below hb1).more hb1.size)
  have hW' := hW.symm
  obtain ⟨C0, C1⟩ := bx1.two
  clear hW hr hr'
  go_enter Try.func153, Try.ntmps153
  go_wp2_with fail
  clear hW'
  refine (specIsSet_any (N := N) (X := X) (S := S) hl hn HR.out hl' hn' HS.out).mono ?_
  rintro e w2 ⟨rfl, hb2⟩
  have hb3 := hb1.trans (hb2.mono hb1.size)
  by_cases hs : setB N X S = true
  case neg =>
    have hs' : setB N X S = false := by simpa using hs
    have HB := Lib.hid (show defB N X S a = false by unfold defB; rw [hs']; rfl)
    rw [hs']
    clear hs hs'
    go_wp2_with fail
    go_ret
    exact ⟨ret_b HB.out.symm, hb3⟩
  case pos =>
    have hg : gB N X = true := by unfold setB at hs; rw [Bool.and_eq_true] at hs; exact hs.1
    obtain ⟨m, rfl, hm, _, _⟩ := gB_ok hg
    have HSB := Lib.hid hs
    rw [hs]
    have hS2 := (HS.out.below hb2).more hb2.size
    have hR2 := (HR.out.below hb2).more hb2.size
    have bx2 := bx1.new hb2
    obtain ⟨D0, D1⟩ := bx2.two
    clear hs hg C0 C1 bx1
    by_cases hi : inr a 0 ((m : Int) - 1) = true
    case neg =>
      have hi' : inr a 0 ((m : Int) - 1) = false := by simpa using hi
      have HB := Lib.hid (show defB m X S a = false by unfold defB; rw [hi', Bool.and_false]; rfl)
      have HI := Lib.hid hi'
      clear hi hi'
      go_wp2_with (go_at_call 61; refine (l1In_any _ _ _ _).mono ?_; rintro e w4 ⟨he, rfl⟩; rw [HI.out] at he; subst he)
      go_ret
      exact ⟨ret_b HB.out.symm, hb3⟩
    case pos =>
      have HI := Lib.hid hi
      clear hi
      go_wp2_with (go_at_call 61; refine (l1In_any _ _ _ _).mono ?_; rintro e w4 ⟨he, rfl⟩; rw [HI.out] at he; subst he)
      refine (specHitBy_any (N := m) (X := X) (S := S) hl hn hR2 hl' hn' hS2).mono ?_
      rintro e w5 ⟨hv, rfl, hrh, hb5⟩
      obtain ⟨Ah, ch, rfl, hrd, _, _⟩ := hrh.rd (n := (hit m X S).length) (ivs_len _)
      have HHL := Lib.hid (hit_len m X S)
      have HAL := Lib.hid (show (atk m X a).length ≤ 1099511627776 by have := atk_lenX m X a; have := hl.out; omega)
      have hb6 := hb3.trans (hb5.mono hb3.size)
      have hR5 := (hR2.below hb5).more hb5.size
      obtain ⟨E0, E1⟩ := (bx2.new hb5).two
      clear D0 D1 bx2 hrh
      go_wp2_with fail
      refine (specAttackersOf_any (N := m) (X := X) (a := a) hl hn hR5).mono ?_
      rintro e w7 ⟨av, rfl, hra, hb7⟩
      obtain ⟨Aa, ca, rfl, hrda, _, _⟩ := hra.rd (n := (atk m X a).length) (ivs_len _)
      have hrd7 := (hrd.below hb7).more hb7.size
      have hb8 := hb6.trans (hb7.mono hb6.size)
      clear E0 E1 hra hrd
      have hal := HAL.out
      go_wp2_with fail
      go_loopw [9] (fun i wr => ∃ k : Nat, k ≤ (atk m X a).length ∧ i = .int .i64 k ∧ wr = w7 ∧ Hid (((atk m X a).take k).any (fun z => !((hit m X S).contains z)) = false)) (fun i _ => (atk m X a).length - (intOf i).toNat)
      case atStart => exact ⟨0, Nat.zero_le _, rfl, rfl, Lib.hid rfl⟩
      case round =>
        obtain ⟨k, hk, rfl, rfl, hno⟩ := hrel
        by_cases hlt : k < (atk m X a).length
        · obtain ⟨ad, rfl, hab, hc⟩ := ivs_at hrda hlt
          have HA := Lib.hid (any_takeF (f := fun z => !((hit m X S).contains z)) hlt)
          rw [hno.out, Bool.false_or] at HA
          obtain ⟨z, hz⟩ : ∃ z, z = (atk m X a)[k] := ⟨_, rfl⟩
          rw [← hz] at hc HA
          have i0 : (0 : Int) ≤ (k : Int) := by omega
          by_cases h1 : (hit m X S).contains z = true
          · have HN := Lib.hid (HA.out.trans (by rw [h1]))
            have H1 := Lib.hid h1
            clear hz h1
            go_wp2_with fail
            refine (l4Has_any (S := hit m X S) (a := z) (Lib.hid rfl) (by have := HHL.out; omega) hrd7).mono ?_
            rintro e w5 ⟨rfl, rfl⟩
            rw [H1.out]
            go_wp2_with fail
            go_roundw
            case rel => exact ⟨k + 1, by omega, by go_num, trivial, HN⟩
            case measure => simp [intOf]; omega
          · have h1' : (hit m X S).contains z = false := by simpa using h1
            have HB := Lib.hid (show defB m X S a = false by
              unfold defB
              rw [show ((atk m X a).any fun z => !((hit m X S).contains z)) = true from List.any_eq_true.2 ⟨z, hz ▸ List.getElem_mem hlt, by rw [h1']; rfl⟩]
              simp)
            have H1 := Lib.hid h1'
            clear hz h1 h1'
            go_wp2_with fail
            refine (l4Has_any (S := hit m X S) (a := z) (Lib.hid rfl) (by have := HHL.out; omega) hrd7).mono ?_
            rintro e w5 ⟨rfl, rfl⟩
            rw [H1.out]
            go_wp2_with fail
            go_ret
            exact ⟨ret_b HB.out.symm, hb8⟩
        · have e : k = (atk m X a).length := by omega
          have HF := Lib.hid (show defB m X S a = true by
            have h := hno.out
            rw [e, List.take_length] at h
            unfold defB
            rw [h, HSB.out, HI.out]
            rfl)
          subst e
          go_wp2_with fail
          go_ret
          exact ⟨ret_b HF.out.symm, hb8⟩
end Go.Proofs.Ytejncjjkcmhmbaa
