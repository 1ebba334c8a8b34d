/- Contract of the code's LettersIn. Condition: the slice has at most 2^40 elements. -/
import Derived.Test.YtobghogkflgpeaaFmlC
import Derived.Deep.LoopGhost
import Derived.WalkMore
namespace Go.Proofs.Ytobghogkflgpeaa
open Go.ChangeShapes Go.WideShapes Go.ChangeAt Go.RowKit
set_option maxRecDepth 100000
def ltT (f : List Int) (k : Nat) : List Int := ((List.range k).filter fun (j : Nat) => f.contains (j : Int)).map fun (j : Nat) => (j : Int)
theorem ltT_yes {f : List Int} {k : Nat} (h : f.contains (k : Int) = true) : ltT f (k + 1) = ltT f k ++ [(k : Int)] := by
  simp only [ltT, List.range_succ, List.filter_append, List.map_append, List.filter_cons, h]
  simp
theorem ltT_no {f : List Int} {k : Nat} (h : f.contains (k : Int) = false) : ltT f (k + 1) = ltT f k := by
  simp only [ltT, List.range_succ, List.filter_append, List.map_append, List.filter_cons, h]
  simp
theorem ltT_len (f : List Int) (k : Nat) : (ltT f k).length ≤ k := by
  unfold ltT
  rw [List.length_map]
  exact Nat.le_trans (List.length_filter_le _ _) (by simp)
theorem sorted_extI : ∀ {xs ys : List Int}, xs.Pairwise (· < ·) → ys.Pairwise (· < ·) → (∀ x, x ∈ xs ↔ x ∈ ys) → xs = ys
  | [], [], _, _, _ => rfl
  | [], y :: ys, _, _, h => absurd ((h y).2 (by simp)) (by simp)
  | x :: xs, [], _, _, h => absurd ((h x).1 (by simp)) (by simp)
  | x :: xs, y :: ys, hx, hy, h => by
    rw [List.pairwise_cons] at hx hy
    have e : x = y := by
      rcases List.mem_cons.1 ((h x).1 (by simp)) with e | hxy
      · exact e
      · rcases List.mem_cons.1 ((h y).2 (by simp)) with e | hyx
        · exact e.symm
        · have := hy.1 x hxy; have := hx.1 y hyx; omega
    subst e
    congr 1
    refine sorted_extI hx.2 hy.2 (fun z => ⟨fun hz => ?_, fun hz => ?_⟩)
    · rcases List.mem_cons.1 ((h z).1 (by simp [hz])) with e | h'
      · subst e; exact absurd (hx.1 _ hz) (Int.lt_irrefl _)
      · exact h'
    · rcases List.mem_cons.1 ((h z).2 (by simp [hz])) with e | h'
      · subst e; exact absurd (hy.1 _ hz) (Int.lt_irrefl _)
      · exact h'
theorem isF_le {f : List Int} (h : isF f = true) : ∀ z ∈ f, z ≤ 5 := by
  intro z hz
  unfold isF at h
  rw [Bool.and_eq_true, decide_eq_true_iff] at h
  obtain ⟨k, hk, rfl⟩ := List.getElem_of_mem hz
  have e : f = f.take (k + 1) ++ f.drop (k + 1) := (List.take_append_drop _ f).symm
  obtain ⟨m, hm⟩ := cnt_some_pre (f := f.take (k + 1)) (g := f.drop (k + 1)) (by rw [← e]; exact h.1)
  rw [take_next hk, cntF_snoc] at hm
  obtain ⟨n, _, hc⟩ := stF_some hm
  omega
theorem let_code {f : List Int} (h : isF f = true) : ltT f 6 = letL f := by
  refine sorted_extI ?_ (letL_asc f) fun z => ?_
  · unfold ltT
    rw [List.pairwise_map]
    refine List.Pairwise.filter _ ?_
    exact List.pairwise_lt_range.imp fun {a b} h => by omega
  · rw [letL_mem]
    unfold ltT
    rw [List.mem_map]
    constructor
    · rintro ⟨j, hj, rfl⟩
      exact ⟨h, List.contains_iff_mem.1 (List.mem_filter.1 hj).2, by omega⟩
    · rintro ⟨_, hz, h0⟩
      have := isF_le h z hz
      exact ⟨z.toNat, List.mem_filter.2 ⟨List.mem_range.2 (by omega), by rw [Int.toNat_of_nonneg h0]; exact List.contains_iff_mem.2 hz⟩, Int.toNat_of_nonneg h0⟩
theorem ivs_snoc_r (zs : List Int) (x : Int) : ivs (zs ++ [x]) = ivs zs ++ [Value.int .i64 x] := by simp [ivs]
theorem let_none {f : List Int} (h : isF f = false) : letL f = [] := by unfold letL; rw [h]; rfl
set_option maxHeartbeats 2000000 in
theorem impLettersIn_any {w : World} {A : Option Addr} {n c : Nat} {f : List Int} (hl : Hid (f.length = n)) (hn : n ≤ 1099511627776) (hr : Rd w w.heap.size A (ivs f)) :
    Calls Try.prog 35 #[.slice A n c] w (Fresh 3 (ivs (letL f)) w) := by
  obtain ⟨i0, hi, hz0, hz1, hz2⟩ := info_parts IntS_info
  have hrow0 := Row.made (w := w) w.heap.size #[] 0 3 (Nat.le_refl _) rfl (Nat.zero_le _)
  have hb0 := alloc_new w (Obj.cells #[] 3)
  have HR := Lib.hid ((hr.below hb0).more hb0.size)
  obtain ⟨W1, hW⟩ : ∃ u : World, u = w.alloc (Obj.cells #[] 3) := ⟨_, rfl⟩
  have hs1 : W1.heap.size = w.heap.size + 1 := by rw [hW]; simp
  rw [← hW] at hrow0 hb0 HR
  have hW' := hW.symm
  clear hW
  go_enter Try.func35, Try.ntmps35
  go_wp2_with fail
  go_step3
  go_wp2_with fail
  refine (impIsFormula_any (f := f) hl HR.out).mono ?_
  rintro e w2 ⟨rfl, hb2⟩
  have hb3 := hb0.trans (hb2.mono hb0.size)
  have hs2 := hb2.size
  have hrow2 := (hrow0.new hb2).wide (Nat.le_refl _) (show w.heap.size + 1 ≤ w2.heap.size by omega)
  by_cases hf : isF f = true
  case neg =>
    have HF := Lib.hid (show isF f = false by simpa using hf)
    have HL := Lib.hid (let_none HF.out)
    rw [HF.out]
    clear hf
    go_wp2_with fail
    try rw [Exit.noGoto_ret]
    go_ret
    exact ⟨_, rfl, by rw [HL.out]; exact hrow2, hb3⟩
  case pos =>
    have HF := Lib.hid hf
    have HL := Lib.hid (let_code hf)
    rw [hf]
    clear hf hW' hrow0
    go_wp2_with fail
    go_step3
    go_wp2_with fail
    go_loopg [3, 12] 6 (fun g b i wx => ∃ k : Nat, k + g = 6 ∧ i = .int .i64 k ∧ Row wx w.heap.size wx.heap.size 3 b (ivs (ltT f k)) ∧ Below w.heap.size w wx)
    case atStart => exact ⟨0, by omega, rfl, hrow2, hb3⟩
    case round =>
      obtain ⟨k, hkg, rfl, hrow, hbw⟩ := hrel
      have hsz := hbw.size
      clear hrow2
      cases gk with
      | zero =>
        obtain rfl : k = 6 := by omega
        go_wp2_with fail
        try rw [Exit.noGoto_ret]
        go_ret
        exact ⟨_, rfl, by rw [← HL.out]; exact hrow, hbw⟩
      | succ g =>
        have hk6 : (k : Int) < 6 := by omega
        have hrw := hr.below hbw
        have HROW := Lib.hid hrow
        have HBW := Lib.hid hbw
        clear hrow hbw
        go_wp2_with fail
        obtain ⟨wo, hwo⟩ : ∃ wo : World, wo = wr := ⟨_, rfl⟩
        rw [← hwo] at hrw HROW HBW hsz ⊢
        clear hwo
        go_loopg [3, 17] n (fun g2 b2 i wy => ∃ j : Nat, j + g2 = n ∧ i = .int .i64 j ∧ wy = wo ∧ Row wo w.heap.size wo.heap.size 3 b2 (ivs (ltT f k)) ∧ Hid ((f.take j).contains (k : Int) = false))
        case atStart => exact ⟨0, by omega, rfl, rfl, HROW.out, Lib.hid (by simp)⟩
        case round =>
          obtain ⟨j, hjg, rfl, rfl, hrw2, hno⟩ := hrel
          have HR2 := Lib.hid hrw2
          clear hrw2
          cases gk with
          | zero =>
            have hjz : ¬ ((j : Int) < (n : Int)) := by omega
            have HT := Lib.hid (ltT_no (f := f) (k := k) (by have := hno.out; rwa [List.take_of_length_le (by rw [hl.out]; omega)] at this))
            go_wp2_with fail
            go_roundg g
            case measure => omega
            case rel => exact ⟨k + 1, by omega, by go_num, by rw [HT.out]; exact HR2.out, HBW.out⟩
          | succ g2 =>
            have hjz : (j : Int) < (n : Int) := by omega
            have hjf : j < f.length := by rw [hl.out]; omega
            have j0 : (0 : Int) ≤ (j : Int) := by omega
            obtain ⟨ad, rfl, _, hc⟩ := ivs_at hrw hjf
            by_cases he : f[j] = (k : Int)
            · have HT := Lib.hid (ltT_yes (f := f) (k := k) (by rw [List.contains_iff_mem, ← he]; exact List.getElem_mem _))
              rw [he] at hc
              have hlen := ltT_len f k
              obtain ⟨ys, hys⟩ : ∃ ys, ys = ltT f k := ⟨_, rfl⟩
              rw [← hys] at HT hlen
              have hrow6 := hys ▸ HR2.out.new (alloc_new wr (Obj.cells #[Value.int .i64 k] 3))
              have hmade := Rd.made wr #[Value.int .i64 k] 3
              have hba := HBW.out.alloc (B := w.heap.size) hsz (Obj.cells #[Value.int .i64 k] 3)
              have L1 := Lib.hid (show (ivs ys).length + 1 ≤ maxLen ∧ ((ivs ys).length + 1) * 8 ≤ 140737488355328 by rw [ivs_len]; unfold maxLen; omega)
              clear he hys
              go_wp2_with (at_builtin; refine wpList_app rfl (.tmp 24) (.tmp 26) 31 rfl 3 i0 _ 8 Try.underlying31 hi hz0 hz1 hz2 rfl rfl rfl hrow6 rfl hmade (by simp [Value.oneCell']) L1.out.1 L1.out.2 (by simp; omega) ?_; intro v1 w1 hrow1 ho1)
              go_roundg g
              case measure => omega
              case rel => exact ⟨k + 1, by omega, by go_num, by rw [HT.out, ivs_snoc_r]; exact hrow1, hba.trans (ho1.below (Nat.le_refl _) (by simp; omega))⟩
            · have HN := Lib.hid (show (f.take (j + 1)).contains (k : Int) = false by
                rw [List.take_succ_eq_append_getElem hjf]
                have := hno.out
                simp only [List.contains_eq_mem, decide_eq_false_iff_not, List.mem_append, List.mem_singleton, not_or] at this ⊢
                exact ⟨this, fun e => he e.symm⟩)
              obtain ⟨z, hz⟩ : ∃ z, z = f[j] := ⟨_, rfl⟩
              rw [← hz] at hc he
              have he' : (z == (k : Int)) = false := by simpa using he
              clear hz
              go_wp2_with fail
              go_roundg g2
              case measure => omega
              case rel => exact ⟨j + 1, by omega, by go_num, rfl, HR2.out, HN⟩
end Go.Proofs.Ytobghogkflgpeaa
