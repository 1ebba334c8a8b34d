/- Contracts of the models l10Put and LettersIn. Condition: the slices have at most 2^40 elements. -/
import Derived.Test.YthhdklmdldikfabSets
import Derived.Test.YthhdklmdldikfabFmlM
import Derived.Test.YthhdklmdldikfabStep
import Derived.Test.YthhdklmdldikfabGrow
namespace Go.Proofs.Ythhdklmdldikfab
open Go.ChangeShapes Go.WideShapes Go.ChangeAt Go.RowKit
set_option maxRecDepth 100000
theorem putL_same {z : Int} : ∀ {S : List Int} {k : Nat}, (∀ y ∈ S.take k, y < z) → S[k]? = some z → putL z S = S
  | [], k, _, h => by simp at h
  | x :: S, 0, _, h => by
    simp at h
    subst h
    unfold putL
    rw [if_neg (by omega), if_pos rfl]
  | x :: S, k + 1, h1, h2 => by
    have hx := h1 x (by simp)
    have ih := putL_same (z := z) (S := S) (k := k) (fun y hy => h1 y (by rw [List.take_succ_cons]; exact List.mem_cons_of_mem _ hy)) (by simpa using h2)
    unfold putL
    rw [if_pos hx, ih]
theorem putL_at {z : Int} : ∀ {S : List Int} {k : Nat}, k ≤ S.length → (∀ y ∈ S.take k, y < z) → (∀ y, S[k]? = some y → z < y) → putL z S = S.take k ++ z :: S.drop k
  | [], k, hk, _, _ => by
    have : k = 0 := by simpa using hk
    subst this; rfl
  | x :: S, 0, _, _, h => by
    have hx := h x rfl
    unfold putL
    rw [if_neg (by omega), if_neg (by omega)]
    rfl
  | x :: S, k + 1, hk, h1, h2 => by
    have hx := h1 x (by simp)
    have ih := putL_at (z := z) (S := S) (k := k) (by simpa using hk) (fun y hy => h1 y (by rw [List.take_succ_cons]; exact List.mem_cons_of_mem _ hy)) (fun y hy => h2 y (by simpa using hy))
    unfold putL
    rw [if_pos hx, ih]
    rfl
theorem putL_len (z : Int) : ∀ S : List Int, (putL z S).length ≤ S.length + 1
  | [] => by simp [putL]
  | x :: S => by
    have ih := putL_len z S
    unfold putL
    split
    · simp; omega
    · split <;> simp
theorem ivs_app2 (zs ys : List Int) : ivs (zs ++ ys) = ivs zs ++ ivs ys := by simp [ivs]
set_option maxHeartbeats 8000000 in
theorem l10Put_any {w : World} {A : Option Addr} {n c : Nat} {z : Int} {S : List Int} (hl : Hid (S.length = n)) (hn : n ≤ 1099511627776) (hnc : n ≤ c) (hr : Rd w w.heap.size A (ivs S)) :
    Calls Try.prog 61 #[.slice A n c, .int .i64 z] w (Fresh 3 (ivs (putL z S)) w) := by
  obtain ⟨i0, hi, hy0, hy1, hy2⟩ := info_parts IntS_info
  have HLv := Lib.hid (show (ivs S).length = n by rw [ivs_len, hl.out])
  have zz : ∀ w, (Go.sizeOf 3).run Try.prog w = .ok 1 w := fun w => by simp [sizeOf, typeInfo, hi, hy1]
  go_enter Try.func61, Try.ntmps61
  go_wp2_with fail
  go_loopw [5] (fun i wr => ∃ k : Nat, k ≤ n ∧ i = .int .i64 k ∧ wr = w ∧ Hid (∀ y ∈ S.take k, y < z)) (fun i _ => n - (intOf i).toNat)
  case atStart => exact ⟨0, Nat.zero_le _, rfl, rfl, Lib.hid (by simp)⟩
  case round =>
    obtain ⟨k, hk, rfl, rfl, hno⟩ := hrel
    have hs1 := fun (w : World) => run_to w 24 3 Try.underlying24 zz A (n := n) (c := c) (k := k) (by omega)
    have hs2 := fun (w : World) => run_from w 24 3 Try.underlying24 zz A (n := n) (c := c) (k := k) hk hnc
    have k0 : (0 : Int) ≤ (k : Int) := by omega
    by_cases hcont : ∃ h : k < S.length, S[k] < z
    case pos =>
      obtain ⟨hkz, hlt⟩ := hcont
      have hkn : k < n := by rw [← hl.out]; exact hkz
      obtain ⟨ad, rfl, hab, hc⟩ := ivs_at hr hkz
      have HN := Lib.hid (show ∀ y ∈ S.take (k + 1), y < z by
        rw [List.take_succ_eq_append_getElem hkz]
        intro y hy
        rcases List.mem_append.1 hy with hy | hy
        · exact hno.out y hy
        · rw [List.mem_singleton.1 hy]; exact hlt)
      obtain ⟨x, hx⟩ : ∃ x, x = S[k] := ⟨_, rfl⟩
      rw [← hx] at hc hlt
      clear hx hs1 hs2
      go_wp2_with fail
      go_roundw
      case rel => exact ⟨k + 1, by omega, by go_num, trivial, HN⟩
      case measure => simp [intOf]; omega
    case neg =>
      by_cases hsame : S[k]? = some z
      · have hkz : k < S.length := (List.getElem?_eq_some_iff.1 hsame).1
        have hkn : k < n := by rw [← hl.out]; exact hkz
        obtain ⟨ad, rfl, hab, hc⟩ := ivs_at hr hkz
        have e1 : S[k] = z := (List.getElem?_eq_some_iff.1 hsame).2
        have HP := Lib.hid (putL_same hno.out hsame)
        have hrow0 := Row.made (w := wr) wr.heap.size #[] 0 3 (Nat.le_refl _) rfl (Nat.zero_le _)
        have hb0 := alloc_new wr (Obj.cells #[] 3)
        have hr1 := hr.below hb0
        have L1 := Lib.hid (show ([] : List Value).length + n ≤ maxLen ∧ (([] : List Value).length + n) * 8 ≤ 140737488355328 by unfold maxLen; simp; omega)
        rw [e1] at hc
        clear e1 hsame hcont hs1 hs2
        go_wp2_with (at_builtin; refine wpList_app (news := ivs S) rfl (.tmp 32) (.tmp 33) 24 rfl 3 i0 _ 8 Try.underlying24 hi hy0 hy1 hy2 rfl rfl rfl hrow0 HLv.out hr1 int_one L1.out.1 L1.out.2 (by simp) ?_; intro v1 w1 hrow1 ho1)
        go_ret
        exact ⟨v1, rfl, by rw [HP.out]; simpa using hrow1, hb0.trans (ho1.below (Nat.le_refl _) (by simp))⟩
      · have HP := Lib.hid (putL_at (z := z) (S := S) (k := k) (by rw [hl.out]; exact hk) hno.out (fun y hy => by
          obtain ⟨h1, h2⟩ := List.getElem?_eq_some_iff.1 hy
          rcases Int.lt_trichotomy y z with h | h | h
          · exact absurd ⟨h1, by rw [h2]; exact h⟩ hcont
          · exact absurd (h ▸ hy) hsame
          · exact h))
        by_cases hkn : k < n
        case' pos =>
          have hkz : k < S.length := by rw [hl.out]; exact hkn
          obtain ⟨ad, hA, hab, hc⟩ := ivs_at hr hkz
          have h1 : ¬ S[k] < z := fun h => hcont ⟨hkz, h⟩
          have h2 : ¬ S[k] = z := fun h => hsame (by rw [List.getElem?_eq_getElem hkz, h])
          obtain ⟨x, hx⟩ : ∃ x, x = S[k] := ⟨_, rfl⟩
          rw [← hx] at hc h1 h2
          have h3 : (x == z) = false := by simpa using h2
          subst hA
          clear hx hcont hsame
          go_wp2_with fail
          obtain ⟨A, hA⟩ : ∃ A, A = some ad := ⟨_, rfl⟩
          rw [← hA] at hr hs1 hs2 ⊢
          clear hA hc
        case' neg =>
          have hkn' : ¬ (k : Int) < (n : Int) := by omega
          clear hcont hsame
          go_wp2_with fail
          clear hkn'
        all_goals
          obtain ⟨Wd, hWd⟩ : ∃ u : World, u = wr.drew := ⟨_, rfl⟩
          have hbw9 : Below wr.heap.size wr Wd := by rw [hWd]; exact (Below.refl _ _).drew
          have hcd : Rd Wd Wd.heap.size A (ivs S) := by rw [hWd]; exact hr
          have hlt9 : ((ivs S).take k).length = k := by rw [List.length_take, HLv.out]; omega
          have HTL := Lib.hid hlt9
          have HDL := Lib.hid (show ((ivs S).drop k).length = n - k by rw [List.length_drop, HLv.out])
          have L1 := Lib.hid (show ([] : List Value).length + k ≤ maxLen ∧ (([] : List Value).length + k) * 8 ≤ 140737488355328 by unfold maxLen; simp; omega)
          have L2 := Lib.hid (show (([] : List Value) ++ (ivs S).take k).length + 1 ≤ maxLen ∧ ((([] : List Value) ++ (ivs S).take k).length + 1) * 8 ≤ 140737488355328 by rw [List.nil_append, hlt9]; unfold maxLen; omega)
          have L3 := Lib.hid (show ((([] : List Value) ++ (ivs S).take k) ++ [Value.int .i64 z]).length + (n - k) ≤ maxLen ∧ (((([] : List Value) ++ (ivs S).take k) ++ [Value.int .i64 z]).length + (n - k)) * 8 ≤ 140737488355328 by rw [List.nil_append, List.length_append, hlt9, List.length_singleton]; unfold maxLen; omega)
          have hB : True := trivial
          have hnE := alloc_new Wd (Obj.cells #[] 3)
          have hnS := alloc_new Wd (Obj.cells #[Value.int .i64 z] 3)
          have hA : Row (Wd.alloc (Obj.cells #[] 3)) Wd.heap.size (Wd.heap.size + 1) 3 (.slice (some ⟨Wd.heap.size, 0, none⟩) 0 0) [] := by
            have := Row.made (w := Wd) Wd.heap.size #[] 0 3 (Nat.le_refl _) rfl (Nat.zero_le _)
            exact this
          have hnES := alloc_new (Wd.alloc (Obj.cells #[] 3)) (Obj.cells #[Value.int .i64 z] 3)
          have hnSE := alloc_new (Wd.alloc (Obj.cells #[Value.int .i64 z] 3)) (Obj.cells #[] 3)
          have hAB := hA.new hnES
          have hAC : Row ((Wd.alloc (Obj.cells #[Value.int .i64 z] 3)).alloc (Obj.cells #[] 3)) (Wd.heap.size + 1) (Wd.heap.size + 2) 3 (.slice (some ⟨Wd.heap.size + 1, 0, none⟩) 0 0) [] := by
            have := Row.made (w := Wd.alloc (Obj.cells #[Value.int .i64 z] 3)) (Wd.alloc (Obj.cells #[Value.int .i64 z] 3)).heap.size #[] 0 3 (Nat.le_refl _) rfl (Nat.zero_le _)
            rw [show (Wd.alloc (Obj.cells #[Value.int .i64 z] 3)).heap.size = Wd.heap.size + 1 by simp] at this
            exact this
          have hSB : Rd ((Wd.alloc (Obj.cells #[] 3)).alloc (Obj.cells #[Value.int .i64 z] 3)) (Wd.heap.size + 2) (some ⟨Wd.heap.size + 1, 0, none⟩) [Value.int .i64 z] := by
            have := Rd.made (Wd.alloc (Obj.cells #[] 3)) #[Value.int .i64 z] 3
            rw [show (Wd.alloc (Obj.cells #[] 3)).heap.size = Wd.heap.size + 1 by simp] at this
            exact this
          have hSC : Rd ((Wd.alloc (Obj.cells #[Value.int .i64 z] 3)).alloc (Obj.cells #[] 3)) (Wd.heap.size + 1) (some ⟨Wd.heap.size, 0, none⟩) [Value.int .i64 z] := by
            have := (Rd.made Wd #[Value.int .i64 z] 3).below (hnSE.mono (by simp))
            exact this
          have hbE : Below Wd.heap.size Wd (Wd.alloc (Obj.cells #[] 3)) := by exact hnE
          have hbES : Below Wd.heap.size Wd ((Wd.alloc (Obj.cells #[] 3)).alloc (Obj.cells #[Value.int .i64 z] 3)) := by exact hnE.trans (hnES.mono (by simp))
          have hbSE : Below Wd.heap.size Wd ((Wd.alloc (Obj.cells #[Value.int .i64 z] 3)).alloc (Obj.cells #[] 3)) := by exact hnS.trans (hnSE.mono (by simp))
          have hzE : Wd.heap.size + 1 ≤ (Wd.alloc (Obj.cells #[] 3)).heap.size := by simp
          have hzES : Wd.heap.size + 2 ≤ ((Wd.alloc (Obj.cells #[] 3)).alloc (Obj.cells #[Value.int .i64 z] 3)).heap.size := by simp
          have hzSE : Wd.heap.size + 2 ≤ ((Wd.alloc (Obj.cells #[Value.int .i64 z] 3)).alloc (Obj.cells #[] 3)).heap.size := by simp
          have hcdB : Rd Wd Wd.heap.size A (ivs S) := by exact hcd
          have hTK := hcdB.hd (k := k)
          have hDP := hcdB.tl (k := k) (c := c) (by rw [HLv.out]; exact hnc)
          have HO1 := Lib.hid (show ∀ u ∈ (ivs S).take k, u.oneCell' = true from fun u hu => int_one u (List.mem_of_mem_take hu))
          have HO2 := Lib.hid (show ∀ u ∈ (ivs S).drop k, u.oneCell' = true from fun u hu => int_one u (List.mem_of_mem_drop hu))
          have HBB := trivial
          have hWd' := hWd.symm
          clear hnE hnS hnES hnSE hB hWd hlt9
          go_region_law (first
            | (refine step_app (v := .slice (some ⟨Wd.heap.size, 0, none⟩) 0 0) (xs := []) (news := (ivs S).take k) (lo := Wd.heap.size) (A := A) (c := c) rfl (.tmp 35) (.tmp 38) 24 rfl 3 i0 _ 8 Try.underlying24 hi hy0 hy1 hy2 rfl (by simp [Act.eval]) (by simp [Act.eval]) hA HTL.out (hTK.below hbE) HO1.out L1.out.1 L1.out.2 (by omega) ?_; intro v1 w1 hrow1 ho1; have hb1 : Below Wd.heap.size Wd w1 := hbE.trans (ho1.below (Nat.le_refl _) (by omega)); have hz1 := ho1.size; have hrd61 := Rd.made w1 #[Value.int .i64 z] 3; have hrow61 := (hrow1.new (alloc_new w1 (Obj.cells #[Value.int .i64 z] 3))); have hb61 := hb1.alloc (B := Wd.heap.size) (by omega) (Obj.cells #[Value.int .i64 z] 3); have hz61 : Wd.heap.size ≤ (w1.alloc (Obj.cells #[Value.int .i64 z] 3)).heap.size := by simp; omega)
            | (refine step_app (v := .slice (some ⟨Wd.heap.size, 0, none⟩) 0 0) (xs := []) (news := (ivs S).take k) (lo := Wd.heap.size) (A := A) (c := c) rfl (.tmp 35) (.tmp 38) 24 rfl 3 i0 _ 8 Try.underlying24 hi hy0 hy1 hy2 rfl (by simp [Act.eval]) (by simp [Act.eval]) hAB HTL.out (hTK.below hbES) HO1.out L1.out.1 L1.out.2 (by omega) ?_; intro v1 w1 hrow1 ho1; have hb1 : Below Wd.heap.size Wd w1 := hbES.trans (ho1.below (Nat.le_refl _) (by omega)); have hz1 := ho1.size; have hrd61 := hSB.out1 ho1 (by omega) (.inr (Nat.le_refl _)); have hrow61 := hrow1; have hb61 := hb1; have hz61 : Wd.heap.size ≤ w1.heap.size := by omega)
            | (refine step_app (v := .slice (some ⟨Wd.heap.size + 1, 0, none⟩) 0 0) (xs := []) (news := (ivs S).take k) (lo := Wd.heap.size + 1) (A := A) (c := c) rfl (.tmp 35) (.tmp 38) 24 rfl 3 i0 _ 8 Try.underlying24 hi hy0 hy1 hy2 rfl (by simp [Act.eval]) (by simp [Act.eval]) hAC HTL.out (hTK.below hbSE) HO1.out L1.out.1 L1.out.2 (by omega) ?_; intro v1 w1 hrow1 ho1; have hb1 : Below Wd.heap.size Wd w1 := hbSE.trans (ho1.below (Nat.le_succ _) (by omega)); have hz1 := ho1.size; have hrd61 := hSC.out1 ho1 (by omega) (.inl (Nat.lt_succ_self _)); have hrow61 := hrow1.wide (Nat.le_succ _) (Nat.le_refl _); have hb61 := hb1; have hz61 : Wd.heap.size ≤ w1.heap.size := by omega)
            | (refine step_app (v := v1) (news := [Value.int .i64 z]) (lo := Wd.heap.size) rfl (.tmp 39) (.tmp 41) 24 rfl 3 i0 _ 8 Try.underlying24 hi hy0 hy1 hy2 rfl (by simp [Act.eval]) (by first | (simp [Act.eval]; done) | (simp [Act.eval]; rfl)) hrow61 rfl hrd61 (by simp [Value.oneCell']) L2.out.1 L2.out.2 hz61 ?_; intro v2 w2 hrow2 ho2; have hb2 : Below Wd.heap.size Wd w2 := hb61.trans (ho2.below (Nat.le_refl _) hz61); have hz2 : Wd.heap.size ≤ w2.heap.size := hb2.size)
            | (refine step_app (v := v2) (news := (ivs S).drop k) (lo := Wd.heap.size) (A := tlA A k c) (c := c - k) rfl (.tmp 42) (.tmp 45) 24 rfl 3 i0 _ 8 Try.underlying24 hi hy0 hy1 hy2 rfl (by simp [Act.eval]) (by simp [Act.eval]) hrow2 HDL.out (hDP.below hb2) HO2.out L3.out.1 L3.out.2 hz2 ?_; intro v3 w9 hrow3 ho3; have hb3' : Below Wd.heap.size Wd w9 := hb2.trans (ho3.below (Nat.le_refl _) hz2))
            | fail)
          all_goals
            go_wp2_with fail
            go_ret
            have e9 : ivs (S.take k ++ z :: S.drop k) = (([] ++ (ivs S).take k) ++ [Value.int .i64 z]) ++ (ivs S).drop k := by simp [ivs, List.map_take, List.map_drop]
            exact ⟨v3, rfl, by rw [HP.out, e9]; exact hrow3.wide hbw9.size (Nat.le_refl _), hbw9.trans (hb3'.mono hbw9.size)⟩
theorem putAll_snoc (f : List Int) (x : Int) : putAll (f ++ [x]) [] = if 0 ≤ x then putL x (putAll f []) else putAll f [] := by
  unfold putAll; rw [List.foldl_append]; rfl
theorem putAll_len (f : List Int) : (putAll f []).length ≤ f.length := by
  have key : ∀ (f l : List Int), (putAll f l).length ≤ l.length + f.length := by
    intro f
    induction f with
    | nil => intro l; simp [putAll]
    | cons x f ih =>
      intro l
      have h1 := ih (if 0 ≤ x then putL x l else l)
      have h2 : (if 0 ≤ x then putL x l else l).length ≤ l.length + 1 := by
        split
        · exact putL_len x l
        · omega
      have e : putAll (x :: f) l = putAll f (if 0 ≤ x then putL x l else l) := rfl
      rw [e, List.length_cons]
      omega
  have := key f []
  simpa using this
theorem letL_short (f : List Int) : (letL f).length ≤ 140000000 := by
  unfold letL
  split
  · rename_i h
    have h1 := isF_len h
    have h2 := putAll_len f
    unfold putAll at h2
    omega
  · simp
set_option maxHeartbeats 4000000 in
theorem specLettersIn_any {w : World} {A : Option Addr} {n c : Nat} {f : List Int} (hl : Hid (f.length = n)) (hn : n ≤ 1099511627775) (hr : Rd w w.heap.size A (ivs f)) :
    Calls Try.prog 32 #[.slice A n c] w (Fresh 3 (ivs (letL f)) w) := by
  have hrow0 := Row.made (w := w) w.heap.size #[] 0 3 (Nat.le_refl _) rfl (Nat.zero_le _)
  have hb0 := alloc_new w (Obj.cells #[] 3)
  by_cases hf : isF f = true
  case neg =>
    have HN := Lib.hid (show letL f = [] by unfold letL; rw [if_neg hf])
    have hf' : isF f = false := by simpa using hf
    have HF := Lib.hid hf'
    clear hf hf'
    go_enter Try.func32, Try.ntmps32
    go_wp2_with fail
    go_loopw [3, 4] (fun b i wr => i = .int .i64 (0 : Nat) ∧ Row wr w.heap.size wr.heap.size 3 b [] ∧ Below w.heap.size w wr) (fun _ i _ => (intOf i).toNat)
    case atStart => exact ⟨rfl, hrow0.wide (Nat.le_refl _) (by simp), hb0⟩
    case round =>
      obtain ⟨rfl, hrow, hbw⟩ := hrel
      have hrw := (hr.below hbw).more hbw.size
      by_cases hn0 : 0 < n
      · have hn1 : (0 : Int) < (n : Int) := by omega
        go_wp2_with (go_at_call 12; refine (specIsFormula_any (f := f) hl (by omega) hrw).mono ?_; rintro e w1 ⟨he, rfl⟩; rw [HF.out] at he; subst he)
        go_ret
        exact ⟨_, rfl, by rw [HN.out]; exact hrow, hbw⟩
      · have hn1 : ¬ (0 : Int) < (n : Int) := by omega
        go_wp2_with fail
        go_ret
        exact ⟨_, rfl, by rw [HN.out]; exact hrow, hbw⟩
  case pos =>
    have HN := Lib.hid (show letL f = putAll f [] by unfold letL; rw [if_pos hf]; rfl)
    have HF := Lib.hid hf
    clear hf
    go_enter Try.func32, Try.ntmps32
    go_wp2_with fail
    go_loopw [3, 4] (fun b i wr => ∃ k : Nat, k ≤ n ∧ i = .int .i64 k ∧ Row wr w.heap.size wr.heap.size 3 b (ivs (putAll (f.take k) [])) ∧ Below w.heap.size w wr) (fun _ i _ => n - (intOf i).toNat)
    case atStart => exact ⟨0, Nat.zero_le _, rfl, hrow0.wide (Nat.le_refl _) (by simp), hb0⟩
    case round =>
      obtain ⟨k, hk, rfl, hrow, hbw⟩ := hrel
      have hsz := hbw.size
      have hrw := (hr.below hbw).more hbw.size
      have k0 : (0 : Int) ≤ (k : Int) := by omega
      clear hrow0 hb0
      by_cases hlt : k < n
      · have hkz : k < f.length := by rw [hl.out]; exact hlt
        obtain ⟨ad, hA, hab, hc⟩ := ivs_at hrw hkz
        subst hA
        have HT := Lib.hid (show putAll (f.take (k + 1)) [] = if 0 ≤ f[k] then putL f[k] (putAll (f.take k) []) else putAll (f.take k) [] by rw [List.take_succ_eq_append_getElem hkz, putAll_snoc])
        have hpl := putAll_len (f.take k)
        rw [List.length_take] at hpl
        obtain ⟨x, hx⟩ : ∃ x, x = f[k] := ⟨_, rfl⟩
        obtain ⟨P, hP⟩ : ∃ P, P = putAll (f.take k) [] := ⟨_, rfl⟩
        rw [← hx, ← hP] at HT
        rw [← hP] at hrow hpl
        rw [← hx] at hc
        obtain ⟨Ap, cp, rfl, hrp, hpc, _⟩ := hrow.rd (n := P.length) (ivs_len _)
        clear hx hP
        by_cases hx0 : 0 ≤ x
        · have HT2 := Lib.hid (show putAll (f.take (k + 1)) [] = putL x P by rw [HT.out, if_pos hx0])
          have hge : decide (0 ≤ x) = true := decide_eq_true hx0
          go_wp2_with (first | (go_at_call 12; refine (specIsFormula_any (f := f) hl (by omega) hrw).mono ?_; rintro e w1 ⟨he, rfl⟩; rw [HF.out] at he; subst he) | (go_at_call 61; refine (l10Put_any (z := x) (S := P) (Lib.hid rfl) (by omega) hpc hrp).mono ?_; rintro e w2 ⟨v2, rfl, hrow2, hb2⟩))
          go_roundw
          case rel => exact ⟨k + 1, by omega, by go_num, by rw [HT2.out]; exact hrow2.wide hsz (Nat.le_refl _), hbw.trans (hb2.mono hsz)⟩
          case measure => simp [intOf]; omega
        · have HT2 := Lib.hid (show putAll (f.take (k + 1)) [] = P by rw [HT.out, if_neg hx0])
          have hge : decide (0 ≤ x) = false := decide_eq_false hx0
          go_wp2_with (go_at_call 12; refine (specIsFormula_any (f := f) hl (by omega) hrw).mono ?_; rintro e w1 ⟨he, rfl⟩; rw [HF.out] at he; subst he)
          go_roundw
          case rel => exact ⟨k + 1, by omega, by go_num, by rw [HT2.out]; exact hrow, hbw⟩
          case measure => simp [intOf]; omega
      · have e : k = n := by omega
        subst e
        have HE := Lib.hid (show putAll (f.take k) [] = letL f by rw [List.take_of_length_le (by rw [hl.out]; exact Nat.le_refl _), HN.out])
        rw [HE.out] at hrow
        have hkn : ¬ (k : Int) < (k : Int) := by omega
        go_wp2_with fail
        go_ret
        exact ⟨_, rfl, hrow, hbw⟩
end Go.Proofs.Ythhdklmdldikfab
