/- Contracts of the models of AnswersTo, LongestGame, CountLoops. No conditions but that the slices have at most 2^40 elements. -/
import Derived.Test.YtobghogkflgpeaaMg1
import Derived.Test.YtobghogkflgpeaaMg6
import Derived.Test.YtobghogkflgpeaaGameMath
import Derived.Test.YtobghogkflgpeaaDispMath
namespace Go.Proofs.Ytobghogkflgpeaa
open Go.ChangeShapes Go.WideShapes Go.ChangeAt Go.RowKit
set_option maxRecDepth 100000
def lonG (N : Int) (X : List (List Int)) : Int := if gB N X then 2 * N else 0
theorem atk_len (N : Int) (X : List (List Int)) (c : Int) : (atk N X c).length ≤ 10 := by
  cases hg : gB N X with
  | false => unfold atk; rw [hg]; simp
  | true =>
    have hs := atk_asc N X c
    have hb : ∀ z ∈ atk N X c, 0 ≤ z ∧ z < 10 := fun z hz => by
      obtain ⟨n, p, _, hn, rfl, hp⟩ := atk_claim hz
      omega
    have key : ∀ (l : List Int) (lo : Int), l.Pairwise (· < ·) → (∀ z ∈ l, lo ≤ z ∧ z < 10) → lo ≤ 10 → (l.length : Int) ≤ 10 - lo := by
      intro l
      induction l with
      | nil => intro lo _ _ h; simp; omega
      | cons z l ih =>
        intro lo hp hb _
        rw [List.pairwise_cons] at hp
        have hz := hb z (by simp)
        have := ih (z + 1) hp.2 (fun y hy => ⟨by have := hp.1 y hy; omega, (hb y (by simp [hy])).2⟩) (by omega)
        rw [List.length_cons]
        push_cast
        omega
    have := key _ 0 hs hb (by omega)
    omega
set_option maxHeartbeats 4000000 in
theorem specAnswersTo_any {w : World} {A A' : Option Addr} {n c n' c' : Nat} {N a : Int} {X : List (List Int)} {S : List Int} (hl : Hid (X.length = n)) (hn : n ≤ 1099511627776) (hr : RdSS w w.heap.size A X) (hl' : Hid (S.length = n')) (hn' : n' ≤ 1099511627776) (hr' : Rd w w.heap.size A' (ivs S)) :
    Calls Try.prog 76 #[.agg #[.int .i64 N, .slice A n c], .slice A' n' c', .int .i64 a] w (Fresh 3 (ivs (ansL N X S a)) w) := by
  obtain ⟨ti, hti, hz0, hz1, hz2⟩ := info_parts IntS_info
  obtain ⟨Wa, hWa, bx0, hb1⟩ : ∃ u : World, u = w.alloc (Obj.cells #[Value.int IntKind.i64 N, Value.slice A n c] 27) ∧ Bx u w.heap.size 27 #[Value.int IntKind.i64 N, Value.slice A n c] ∧ Below w.heap.size w u := ⟨_, rfl, Bx.made _ _ _, alloc_new _ _⟩
  have hsa : Wa.heap.size = w.heap.size + 1 := by rw [hWa]; simp
  have hrow0 := Row.made (w := Wa) (w.heap.size + 1) #[] 0 3 (by omega) rfl (Nat.zero_le _)
  have hb2 : Below w.heap.size w (Wa.alloc (Obj.cells #[] 3)) := hb1.alloc hb1.size _
  have bx1 := bx0.new (alloc_new Wa (Obj.cells #[] 3))
  obtain ⟨W1, hW⟩ : ∃ u : World, u = Wa.alloc (Obj.cells #[] 3) := ⟨_, rfl⟩
  have hs1 : W1.heap.size = w.heap.size + 2 := by rw [hW]; simp [hsa]
  rw [← hW, hsa] at hrow0
  rw [← hW] at hb2 bx1
  have hWf : (w.alloc (Obj.cells #[Value.int IntKind.i64 N, Value.slice A n c] 27)).alloc (Obj.cells #[] 3) = W1 := by rw [hW, hWa]
  have HR := Lib.hid ((hr.below hb2).more hb2.size)
  have HS := Lib.hid (hr'.below hb2)
  have HS1 := Lib.hid hs1
  clear hW hWa hr hr' bx0 hb1
  obtain ⟨C0, C1⟩ := bx1.two
  go_enter Try.func76, Try.ntmps76
  go_wp2_with fail
  try rw [hWf]
  clear hWf
  refine (specAttackersOf_any (N := N) (X := X) (c := c) hl hn HR.out).mono ?_
  rintro e w2 ⟨v, rfl, hrowl, hb3⟩
  obtain ⟨Al, cl, rfl, _, _, _⟩ := hrowl.rd (n := (atk N X a).length) (ivs_len _)
  have hz3 := hb3.size
  have hg0 : Gr w2 (w.heap.size + 1) 3 w2 (.slice (some ⟨w.heap.size + 1, 0, none⟩) 0 0) [] := Gr.start ((hrow0.new hb3).wide (Nat.le_refl _) (by omega))
  have HS2 := Lib.hid (HS.out.below (hb3.mono hb2.size))
  have hb4 := hb2.trans (hb3.mono hb2.size)
  have HLL := Lib.hid (atk_len N X a)
  have HAL := Lib.hid (show ansL N X S a = (atk N X a).filter fun z => !(S.contains z) from rfl)
  have hsz4 := hb4.size
  generalize atk N X a = L at hrowl HLL HAL ⊢
  go_wp2_with fail
  clear bx1 C0 C1 hb2 hb3 hrow0
  go_loopw [7, 9] (fun b i wr => ∃ k : Nat, k ≤ L.length ∧ i = .int .i64 k ∧ Gr w2 (w.heap.size + 1) 3 wr b (ivs ((L.take k).filter fun z => !(S.contains z)))) (fun _ i _ => L.length - (intOf i).toNat)
  case atStart => exact ⟨0, Nat.zero_le _, rfl, hg0⟩
  case round =>
    obtain ⟨k, hk, rfl, hgr⟩ := hrel
    have hll := HLL.out
    have hs1 := HS1.out
    have hsw := hgr.out.size
    by_cases hlt : k < L.length
    · obtain ⟨ad, rfl, hab, hc⟩ := ivs_at (hgr.other hrowl (by omega)).rd' hlt
      have hrs := hgr.rd HS2.out (Nat.le_succ _) (by omega)
      have hyl := filt_len L (fun z => !(S.contains z)) k
      have i0 : (0 : Int) ≤ (k : Int) := by omega
      by_cases hin : S.contains L[k] = true
      · have HT := Lib.hid (filt_no (p := fun z => !(S.contains z)) hlt (by rw [hin]; rfl))
        have HI := Lib.hid hin
        obtain ⟨z, hz⟩ : ∃ z, z = L[k] := ⟨_, rfl⟩
        obtain ⟨ys, hys⟩ : ∃ ys, ys = (L.take k).filter (fun z => !(S.contains z)) := ⟨_, rfl⟩
        rw [← hz] at hc HI
        rw [← hys] at hgr HT
        clear hin hz hys hyl
        go_wp2_with fail
        refine (l4Has_any (S := S) (a := z) hl' hn' hrs).mono ?_
        rintro e w5 ⟨rfl, rfl⟩
        rw [HI.out]
        go_wp2_with fail
        go_roundw
        case rel => exact ⟨k + 1, by omega, by go_num, by rw [HT.out]; exact hgr⟩
        case measure => simp [intOf]; omega
      · have hin' : S.contains L[k] = false := by simpa using hin
        have HT := Lib.hid (filt_yes (p := fun z => !(S.contains z)) hlt (by rw [hin']; rfl))
        have HI := Lib.hid hin'
        obtain ⟨z, hz⟩ : ∃ z, z = L[k] := ⟨_, rfl⟩
        obtain ⟨ys, hys⟩ : ∃ ys, ys = (L.take k).filter (fun z => !(S.contains z)) := ⟨_, rfl⟩
        rw [← hz] at hc HI HT
        rw [← hys] at hgr HT hyl
        have L1 := Lib.hid (show (ivs ys).length + 1 ≤ maxLen ∧ ((ivs ys).length + 1) * 8 ≤ 140737488355328 by rw [ivs_len]; unfold maxLen; omega)
        have hgr2 := hgr.new (alloc_new wr (Obj.cells #[Value.int .i64 z] 3))
        have hmade := Rd.made wr #[Value.int .i64 z] 3
        clear hin hin' hz hys
        go_wp2_with fail
        refine (l4Has_any (S := S) (a := z) hl' hn' hrs).mono ?_
        rintro e w5 ⟨rfl, rfl⟩
        rw [HI.out]
        go_wp2_with (at_builtin; refine wpList_gr rfl (.tmp 27) (.tmp 32) 31 rfl 3 ti _ 8 Try.underlying31 hti hz0 hz1 hz2 rfl rfl rfl hgr2 (by simp; omega) rfl hmade (by simp [Value.oneCell']) L1.out.1 L1.out.2 ?_; intro v1 w1 hgr1 hsw1)
        go_roundw
        case rel => exact ⟨k + 1, by omega, by go_num, by rw [HT.out, ← ivs_snoc_l]; exact hgr1⟩
        case measure => simp [intOf]; omega
    · have e : k = L.length := by omega
      subst e
      rw [List.take_length] at hgr
      go_wp2_with fail
      go_ret
      exact ⟨_, rfl, by rw [HAL.out]; exact hgr.row.wide (by omega) (Nat.le_refl _), hb4.trans (hgr.below (by omega) (by omega))⟩
def loopT (X : List (List Int)) (k : Nat) : Nat := ((X.take k).filter loopP).length
theorem loopT_le (X : List (List Int)) (k : Nat) : loopT X k ≤ k := filt_len X loopP k
end Go.Proofs.Ytobghogkflgpeaa
