/- Contract of the model of HitBy. No conditions but that the slices have at most 2^40 elements. -/
import Derived.Test.YthhdklmdldikfaaWhoM2
namespace Go.Proofs.Ythhdklmdldikfaa
open Go.ChangeShapes Go.WideShapes Go.ChangeAt Go.RowKit
set_option maxRecDepth 100000
theorem l4Has_any {w : World} {A : Option Addr} {n c : Nat} {a : Int} {S : List Int} (hl : Hid (S.length = n)) (hn : n ≤ 1099511627776) (hr : Rd w w.heap.size A (ivs S)) :
    Calls Try.prog 98 #[.slice A n c, .int .i64 a] w (fun e w' => e = .returned (.bool (S.contains a)) ∧ w = w') := by
  go_enter Try.func98, Try.ntmps98
  go_wp2_with fail
  go_loopw [5] (fun i wr => ∃ k : Nat, k ≤ n ∧ i = .int .i64 k ∧ wr = w ∧ Hid ((S.take k).contains a = false)) (fun i _ => n - (intOf i).toNat)
  case atStart => exact ⟨0, Nat.zero_le _, rfl, rfl, Lib.hid rfl⟩
  case round =>
    obtain ⟨k, hk, rfl, rfl, hno⟩ := hrel
    by_cases hlt : k < n
    · have hkz : k < S.length := by rw [hl.out]; exact hlt
      obtain ⟨ad, rfl, hab, hc⟩ := ivs_at hr hkz
      have i0 : (0 : Int) ≤ (k : Int) := by omega
      by_cases h1 : S[k] = a
      · have HY := Lib.hid (show S.contains a = true by rw [List.contains_iff_mem]; exact h1 ▸ List.getElem_mem hkz)
        rw [h1] at hc
        clear h1
        go_wp2_with fail
        go_ret
        exact ⟨ret_b HY.out.symm, rfl⟩
      · have HN := Lib.hid (show (S.take (k + 1)).contains a = false by
          rw [List.take_succ_eq_append_getElem hkz]
          have := hno.out
          simp only [List.contains_eq_mem, decide_eq_false_iff_not, List.mem_append, List.mem_singleton, not_or] at this ⊢
          exact ⟨this, fun e => h1 e.symm⟩)
        have h1' : (S[k] == a) = false := by simpa using h1
        obtain ⟨z, hz⟩ : ∃ z, z = S[k] := ⟨_, rfl⟩
        rw [← hz] at hc h1 h1'
        clear hz
        go_wp2_with fail
        go_roundw
        case rel => exact ⟨k + 1, by omega, by go_num, trivial, HN⟩
        case measure => simp [intOf]; omega
    · have e : k = n := by omega
      subst e
      have HF := Lib.hid (show S.contains a = false by have := hno.out; rwa [List.take_of_length_le (by rw [hl.out]; exact Nat.le_refl _)] at this)
      go_wp2_with fail
      go_ret
      exact ⟨ret_b HF.out.symm, rfl⟩
theorem hitL_yes {X : List (List Int)} {S : List Int} {k : Nat} (h : hitP X S k = true) : hitL X S (k + 1) = hitL X S k ++ [(k : Int)] := by simp [hitL, List.range_succ, h]
theorem hitL_no {X : List (List Int)} {S : List Int} {k : Nat} (h : hitP X S k = false) : hitL X S (k + 1) = hitL X S k := by simp [hitL, List.range_succ, h]
theorem hitL_len (X : List (List Int)) (S : List Int) (k : Nat) : (hitL X S k).length ≤ k := by
  unfold hitL
  rw [List.length_map]
  exact Nat.le_trans (List.length_filter_le _ _) (by simp)
set_option maxHeartbeats 8000000 in
theorem specHitBy_any {w : World} {A A' : Option Addr} {n c n' c' : Nat} {N : Int} {X : List (List Int)} {S : List Int} (hl : Hid (X.length = n)) (hn : n ≤ 1099511627776) (hr : RdSS w w.heap.size A X) (hl' : Hid (S.length = n')) (hn' : n' ≤ 1099511627776) (hr' : Rd w w.heap.size A' (ivs S)) :
    Calls Try.prog 131 #[.agg #[.int .i64 N, .slice A n c], .slice A' n' c'] w (Fresh 3 (ivs (hit N X S)) w) := by
  obtain ⟨ti, hti, hz0, hz1, hz2⟩ := info_parts IntS_info
  have hb1 : Below w.heap.size w (w.alloc (Obj.cells #[Value.int IntKind.i64 N, Value.slice A n c] 26)) := (Below.refl _ _).alloc (Nat.le_refl _) _
  have bx0 := Bx.made w 26 #[Value.int IntKind.i64 N, Value.slice A n c]
  obtain ⟨Wa, hWa⟩ : ∃ u : World, u = w.alloc (Obj.cells #[Value.int IntKind.i64 N, Value.slice A n c] 26) := ⟨_, rfl⟩
  have hsa : Wa.heap.size = w.heap.size + 1 := by rw [hWa]; simp
  rw [← hWa] at hb1 bx0
  have hb2 : Below w.heap.size w (Wa.alloc (Obj.cells #[] 3)) := hb1.alloc hb1.size _
  have hrow0 := (Row.made (w := Wa) (w.heap.size + 1) #[] 0 3 (by omega) rfl (Nat.zero_le _)).wide (hi' := (Wa.alloc (Obj.cells #[] 3)).heap.size) (Nat.le_refl _) (by simp)
  have bx1 := bx0.new ((Below.refl Wa.heap.size Wa).alloc (Nat.le_refl _) (Obj.cells #[] 3))
  obtain ⟨W1, hW⟩ : ∃ u : World, u = Wa.alloc (Obj.cells #[] 3) := ⟨_, rfl⟩
  rw [← hW] at hb2 hrow0 bx1
  rw [hsa] at hrow0
  have hWf : (w.alloc (Obj.cells #[Value.int IntKind.i64 N, Value.slice A n c] 26)).alloc (Obj.cells #[] 3) = W1 := by rw [hW, hWa]
  have HR := Lib.hid ((hr.below hb2))
  have HR' := Lib.hid ((hr'.below hb2))
  clear hW hWa hr hr' bx0 hb1
  by_cases hg : gB N X = true
  case neg =>
    have hg' : gB N X = false := by simpa using hg
    have HG := Lib.hid hg'
    have HD := Lib.hid (show hit N X S = [] by unfold hit; rw [hg']; rfl)
    clear hg hg'
    obtain ⟨C0, C1⟩ := bx1.two
    go_enter Try.func131, Try.ntmps131
    go_wp2_with fail
    clear hWf
    go_loopw [5, 6] (fun b i wr => i = .int .i64 0 ∧ wr = W1 ∧ Row W1 (w.heap.size + 1) W1.heap.size 3 b (ivs [])) (fun _ i _ => 0)
    case atStart => exact ⟨rfl, rfl, hrow0⟩
    case round =>
      obtain ⟨rfl, rfl, hrow⟩ := hrel
      by_cases h0 : 0 < N
      · go_wp2_with fail
        refine (specIsGraph_any (N := N) (X := X) (c := c) hl hn (HR.out.more hb2.size)).mono ?_
        rintro e w3 ⟨rfl, hb3⟩
        rw [HG.out]
        go_wp2_with fail
        go_ret
        exact ⟨_, rfl, by rw [HD.out]; exact (hrow.new hb3).wide (by omega) hb3.size, hb2.trans (hb3.mono hb2.size)⟩
      · go_wp2_with fail
        go_ret
        exact ⟨_, rfl, by rw [HD.out]; exact hrow.wide (by omega) (Nat.le_refl _), hb2⟩
  case pos =>
    obtain ⟨m, rfl, hm, hP, _⟩ := gB_ok hg
    have HG := Lib.hid hg
    have HD := Lib.hid (show hit m X S = hitL X S m by unfold hit; rw [if_pos hg, Int.toNat_natCast])
    have HP := Lib.hid hP
    clear hg hP
    go_enter Try.func131, Try.ntmps131
    go_wp2_with fail
    clear hWf
    go_loopw [5, 6] (fun b i wr => ∃ k : Nat, k ≤ m ∧ i = .int .i64 k ∧ Row wr (w.heap.size + 1) wr.heap.size 3 b (ivs (hitL X S k)) ∧ Below w.heap.size w wr ∧ Bx wr w.heap.size 26 #[Value.int IntKind.i64 m, Value.slice A n c] ∧ RdSS wr w.heap.size A X ∧ Rd wr w.heap.size A' (ivs S)) (fun _ i _ => m - (intOf i).toNat)
    case atStart => exact ⟨0, Nat.zero_le _, rfl, hrow0, hb2, bx1, HR.out, HR'.out⟩
    case round =>
      obtain ⟨k, hk, rfl, hrow, hbw, bxk, hrk, hrk'⟩ := hrel
      obtain ⟨C0, C1⟩ := bxk.two
      have hsz := hbw.size
      by_cases hlt : k < m
      · go_wp2_with fail
        refine (specIsGraph_any (N := m) (X := X) (c := c) hl hn (hrk.more hsz)).mono ?_
        rintro e w3 ⟨rfl, hb3⟩
        rw [HG.out]
        have hb5 := hbw.trans (hb3.mono hbw.size)
        have bx3 := bxk.new hb3
        have hr3 := hrk.below (hb3.mono hsz)
        have hr3' := hrk'.below (hb3.mono hsz)
        have hrow3 := (hrow.new hb3).wide (Nat.le_refl _) hb3.size
        have hs3 := hb5.size
        obtain ⟨D0, D1⟩ := bx3.two
        have hg3 := bx3.lt
        have i0 : (0 : Int) ≤ (k : Int) := by omega
        obtain ⟨ys, hys⟩ : ∃ ys, ys = hitL X S k := ⟨_, rfl⟩
        have hyl : ys.length ≤ k := by rw [hys]; exact hitL_len X S k
        rw [← hys] at hrow3
        clear hrow C0 C1
        go_wp2_with fail
        go_loopw [7, 8] (fun b i wr => ∃ j : Nat, j ≤ n ∧ i = .int .i64 j ∧ wr = w3 ∧ b = .bool ((X.take j).any fun x => x.getD 1 0 == (k : Int) && S.contains (x.getD 0 0))) (fun _ i _ => n - (intOf i).toNat)
        case atStart => exact ⟨0, Nat.zero_le _, rfl, rfl, rfl⟩
        case round =>
          obtain ⟨j, hj, rfl, rfl, rfl⟩ := hrel
          by_cases hjt : j < n
          · have hjz : j < X.length := by rw [hl.out]; exact hjt
            obtain ⟨ad, ag, ao, cj, p, q, rfl, _, hc, _, e0, e1, hx, _, _⟩ := pair_at hr3 HP.out hjz
            have HA := Lib.hid (any_take (f := fun x : List Int => x.getD 1 0 == (k : Int) && S.contains (x.getD 0 0)) hjz)
            have j0 : (0 : Int) ≤ (j : Int) := by omega
            obtain ⟨b, hb⟩ : ∃ b, b = (X.take j).any (fun x : List Int => x.getD 1 0 == (k : Int) && S.contains (x.getD 0 0)) := ⟨_, rfl⟩
            rw [← hb, hx] at HA
            rw [← hb]
            clear hb hx
            cases b
            · by_cases h1 : (q : Int) = k
              · have h1' : ((q : Int) == k) = true := by simpa using h1
                have hr4 := hr3'.more hs3
                have HB := Lib.hid (show (X.take (j + 1)).any (fun x : List Int => x.getD 1 0 == (k : Int) && S.contains (x.getD 0 0)) = decide ((p : Int) ∈ S) by rw [HA.out]; simp [h1])
                go_wp2_with (go_at_call 98; refine (l4Has_any hl' hn' hr4).mono ?_; rintro e w9 ⟨rfl, rfl⟩)
                go_roundw
                case rel => exact ⟨j + 1, by omega, by go_num, trivial, by rw [HB.out]⟩
                case measure => simp [intOf]; omega
              · have h1' : ((q : Int) == k) = false := by simpa using h1
                have HB := Lib.hid (show (X.take (j + 1)).any (fun x : List Int => x.getD 1 0 == (k : Int) && S.contains (x.getD 0 0)) = false by rw [HA.out]; simp [h1])
                go_wp2_with fail
                go_roundw
                case rel => exact ⟨j + 1, by omega, by go_num, trivial, by rw [HB.out]⟩
                case measure => simp [intOf]; omega
            · have HB := Lib.hid (show (X.take (j + 1)).any (fun x : List Int => x.getD 1 0 == (k : Int) && S.contains (x.getD 0 0)) = true by rw [HA.out]; rfl)
              go_wp2_with fail
              go_roundw
              case rel => exact ⟨j + 1, by omega, by go_num, trivial, by rw [HB.out]⟩
              case measure => simp [intOf]; omega
          · have e : j = n := by omega
            subst e
            rw [List.take_of_length_le (by rw [hl.out]; exact Nat.le_refl _)]
            have HH : Hid (hitP X S k = X.any fun x => x.getD 1 0 == (k : Int) && S.contains (x.getD 0 0)) := Lib.hid rfl
            obtain ⟨b, hb⟩ : ∃ b, b = X.any (fun x : List Int => x.getD 1 0 == (k : Int) && S.contains (x.getD 0 0)) := ⟨_, rfl⟩
            rw [← hb] at HH ⊢
            clear hb
            cases b
            · have HT := Lib.hid (hitL_no HH.out)
              rw [← hys] at HT
              go_wp2_with fail
              go_roundw
              case rel => exact ⟨k + 1, by omega, by go_num, by rw [HT.out]; exact hrow3, hb5, bx3, hr3, hr3'⟩
              case measure => simp [intOf]; omega
            · have HT := Lib.hid (hitL_yes HH.out)
              rw [← hys] at HT
              have hbl : Below wr.heap.size wr (wr.alloc (Obj.cells #[Value.int .i64 k] 3)) := (Below.refl _ _).alloc (Nat.le_refl _) _
              have hrow2 := hrow3.new hbl
              have hmade := Rd.made wr #[Value.int .i64 k] 3
              have L : (ivs ys).length + 1 ≤ maxLen ∧ ((ivs ys).length + 1) * 8 ≤ 140737488355328 := by rw [ivs_len]; unfold maxLen; omega
              have L1 := Lib.hid L
              clear L hys
              go_wp2_with (at_builtin; refine wpList_app rfl (.tmp 51) (.tmp 53) 31 rfl 3 ti _ 8 Try.underlying31 hti hz0 hz1 hz2 rfl rfl rfl hrow2 rfl hmade (by simp [Value.oneCell']) L1.out.1 L1.out.2 (by simp; omega) ?_; intro v1 w1 hrow1 ho1)
              have hob := ho1.below (B := w.heap.size) (by omega) (by simp; omega)
              go_roundw
              case rel => exact ⟨k + 1, by omega, by go_num, by rw [HT.out, ← ivs_snoc_l]; exact hrow1, hb5.trans ((hbl.mono hs3).trans hob), (bx3.new hbl).out ho1 (by first | exact .inl (by omega) | exact .inr (by omega)), (hr3.below (hbl.mono hs3)).below hob, (hr3'.below (hbl.mono hs3)).below hob⟩
              case measure => simp [intOf]; omega
      · have e : k = m := by omega
        subst e
        go_wp2_with fail
        go_ret
        exact ⟨_, rfl, by rw [HD.out]; exact hrow.wide (by omega) (Nat.le_refl _), hbw⟩
end Go.Proofs.Ythhdklmdldikfaa
