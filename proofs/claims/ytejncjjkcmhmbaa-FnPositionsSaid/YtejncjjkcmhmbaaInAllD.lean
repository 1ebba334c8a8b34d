/- Contract of the code's InAll. Condition: the slices have at most 2^40 elements. -/
import Derived.Test.YtejncjjkcmhmbaaInAllC
import Derived.Test.YtejncjjkcmhmbaaSets
namespace Go.Proofs.Ytejncjjkcmhmbaa
open Go.ChangeShapes Go.WideShapes Go.ChangeAt Go.RowKit
set_option maxRecDepth 100000
/-- Those of the first list whom each further list has. -/
def inAllL : List (List Int) → List Int
  | [] => []
  | x :: r => x.filter (eachB r)
theorem RdSS.tail {w : World} {B : Nat} {ad : Addr} {x : List Int} {r : List (List Int)} (h : RdSS w B (some ad) (x :: r)) : RdSS w B (some (ad.add 1)) r := fun k y hy => by
  obtain ⟨ad', Aj, cj, e, hb, hc, h1, h2, h3⟩ := h (k + 1) y (by simpa using hy)
  obtain rfl : ad = ad' := by injection e
  refine ⟨_, Aj, cj, rfl, hb, ?_, h1, h2, h3⟩
  have e2 : (ad.add 1).add k = ad.add (k + 1) := by
    by_cases hk : k = 0
    · subst hk; rfl
    · simp [Addr.add, hk]; omega
  rw [e2]; exact hc
theorem ivs_snocI (zs : List Int) (x : Int) : ivs (zs ++ [x]) = ivs zs ++ [Value.int .i64 x] := by simp [ivs]
theorem RdSS.nil' {w : World} {B : Nat} {A : Option Addr} : RdSS w B A [] := fun k y hy => by simp at hy
set_option maxHeartbeats 2000000 in
theorem impInAll_any {w : World} {A : Option Addr} {n c : Nat} {X : List (List Int)} (hl : Hid (X.length = n)) (hn : n ≤ 1099511627776) (hnc : n ≤ c) (hs : Hid (∀ x ∈ X, x.length ≤ 1099511627776)) (hr : RdSS w w.heap.size A X) :
    Calls Try.prog 37 #[.slice A n c] w (Fresh 3 (ivs (inAllL X)) w) := by
  obtain ⟨i0, hi, hz0, hz1, hz2⟩ := info_parts IntS_info
  have hrow0 := Row.made (w := w) w.heap.size #[] 0 3 (Nat.le_refl _) rfl (Nat.zero_le _)
  have hb0 : Below w.heap.size w (w.alloc (Obj.cells #[] 3)) := (Below.refl _ _).alloc (Nat.le_refl _) _
  rcases X with _ | ⟨x, r⟩
  · obtain rfl : n = 0 := hl.out.symm
    go_enter Try.func37, Try.ntmps37
    go_wp2_with fail
    go_ret
    exact ⟨_, rfl, hrow0.wide (Nat.le_refl _) (by simp), hb0⟩
  · obtain ⟨m, rfl⟩ : ∃ m, n = m + 1 := ⟨r.length, hl.out.symm⟩
    have hmn : m ≤ 1099511627776 := by omega
    have hlr : r.length = m := by have := hl.out; simp at this; exact this
    have HLR := Lib.hid hlr
    obtain ⟨ad, Aj, cj, rfl, hab, hc0, _, _, hrd⟩ := hr.at_ (k := 0) (by simp)
    simp only [List.getElem_cons_zero] at hc0 hrd
    have hxl := hs.out x (by simp)
    have HSR := Lib.hid (show ∀ y ∈ r, y.length ≤ 1099511627776 from fun y hy => hs.out y (List.mem_cons_of_mem _ hy))
    have hrt := hr.tail
    obtain ⟨q, hq⟩ : ∃ q, q = x.length := ⟨_, rfl⟩
    rw [← hq] at hc0 hxl
    have hcw := (World.cell?_of_block (hb0.block _ hab)).trans hc0
    clear hr hs
    have hnil : c = 1 → r = [] := fun e => List.eq_nil_of_length_eq_zero (by omega)
    have htl : RdSS w w.heap.size (tlA (some ad) 1 c) r := by
      unfold tlA
      by_cases e : c = 1
      · rw [hnil e]; exact RdSS.nil'
      · rw [if_neg e]; exact hrt
    obtain ⟨je, hje, hy0, hy1, hy2⟩ := info_parts IntSS_info
    have zz : ∀ w, (Go.sizeOf 25).run Try.prog w = .ok 1 w := fun w => by simp [sizeOf, typeInfo, hje, hy1]
    have hsl : ∀ w, (Instr.slice 22 (.slice (some ad) (m + 1) c) (some (.int .i64 1)) none none).run Try.prog w = .ok (.slice (tlA (some ad) 1 c) m (c - 1)) w := fun w => by
      have := run_from w 22 25 Try.underlying22 zz (some ad) (n := m + 1) (c := c) (k := 1) (by omega) hnc
      simpa using this
    obtain ⟨T, hT⟩ : ∃ T, T = tlA (some ad) 1 c := ⟨_, rfl⟩
    rw [← hT] at htl hsl
    clear hnil hrt hT
    go_enter Try.func37, Try.ntmps37
    go_wp2_with fail
    go_loopw [3, 15] (fun b i wr => ∃ k : Nat, k ≤ q ∧ i = .int .i64 k ∧ Row wr w.heap.size wr.heap.size 3 b (ivs ((x.take k).filter (eachB r))) ∧ Below w.heap.size w wr) (fun _ i _ => q - (intOf i).toNat)
    case atStart => exact ⟨0, Nat.zero_le _, rfl, hrow0.wide (Nat.le_refl _) (by simp), hb0⟩
    case round =>
      obtain ⟨k, hk, rfl, hrow, hbw⟩ := hrel
      have hsz := hbw.size
      clear hrow0 hb0
      by_cases hlt : k < q
      · have hkz : k < x.length := by rw [← hq]; exact hlt
        obtain ⟨ax, rfl, hax, hcx'⟩ := ivs_at (hrd.below hbw) hkz
        have HRW := Lib.hid ((htl.below hbw).more hsz)
        have HT := Lib.hid (List.take_succ_eq_append_getElem hkz)
        obtain ⟨z, hz⟩ : ∃ z, z = x[k] := ⟨_, rfl⟩
        rw [← hz] at hcx' HT
        obtain ⟨ys, hys⟩ : ∃ ys, ys = (x.take k).filter (eachB r) := ⟨_, rfl⟩
        rw [← hys] at hrow
        have hyl : ys.length ≤ k := by rw [hys]; exact Nat.le_trans (List.length_filter_le _ _) (by rw [List.length_take]; omega)
        by_cases hb : eachB r z = true
        · have HF := Lib.hid (show (x.take (k + 1)).filter (eachB r) = ys ++ [z] by rw [HT.out, List.filter_append, ← hys, List.filter_cons, hb]; rfl)
          have HB := Lib.hid hb
          clear hz hys hb
          have L1 := Lib.hid (show (ivs ys).length + 1 ≤ maxLen ∧ ((ivs ys).length + 1) * 8 ≤ 140737488355328 by rw [ivs_len]; unfold maxLen; omega)
          go_wp2_with fail
          refine (isInEach_any HLR hmn HSR HRW.out).mono ?_
          rintro e w1 ⟨he, hb1⟩
          rw [HB.out] at he
          subst he
          have hsz1 := hb1.size
          have hrow1 := hrow.new hb1
          have hbl := alloc_new w1 (Obj.cells #[Value.int .i64 z] 3)
          have hrow2 := hrow1.new hbl
          have hmade := Rd.made w1 #[Value.int .i64 z] 3
          go_wp2_with (at_builtin; refine wpList_app rfl (.tmp 23) (.tmp 25) 25 rfl 3 i0 _ 8 Try.underlying25 hi hz0 hz1 hz2 rfl rfl rfl hrow2 rfl hmade (by simp [Value.oneCell']) L1.out.1 L1.out.2 (by simp; omega) ?_; intro v1 w2 hrow3 ho1)
          go_roundw
          case rel => exact ⟨k + 1, by omega, by go_num, by rw [HF.out, ivs_snocI]; exact hrow3, (hbw.trans (hb1.mono hsz)).trans ((hbl.mono (by omega)).trans (ho1.below (Nat.le_refl _) (by simp; omega)))⟩
          case measure => simp [intOf]; omega
        · have hb' : eachB r z = false := by simpa using hb
          have HF := Lib.hid (show (x.take (k + 1)).filter (eachB r) = ys by rw [HT.out, List.filter_append, ← hys, List.filter_cons, hb']; simp)
          have HB := Lib.hid hb'
          clear hz hys hb hb'
          go_wp2_with fail
          refine (isInEach_any HLR hmn HSR HRW.out).mono ?_
          rintro e w1 ⟨he, hb1⟩
          rw [HB.out] at he
          subst he
          have hrow1 := hrow.new hb1
          go_wp2_with fail
          go_roundw
          case rel => exact ⟨k + 1, by omega, by go_num, by rw [HF.out]; exact hrow1.wide (Nat.le_refl _) hb1.size, hbw.trans (hb1.mono hsz)⟩
          case measure => simp [intOf]; omega
      · have e : k = q := by omega
        subst e
        have HF := Lib.hid (show (x.take k).filter (eachB r) = inAllL (x :: r) by rw [List.take_of_length_le (by rw [← hq]; exact Nat.le_refl _)]; rfl)
        rw [HF.out] at hrow
        go_wp2_with fail
        go_ret
        exact ⟨_, rfl, hrow, hbw⟩
end Go.Proofs.Ytejncjjkcmhmbaa
