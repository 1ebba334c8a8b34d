/- Contract of slices.Delete of one number of a row that the call owns. Condition: the slice has at most 2^40 elements. -/
import Derived.Test.YteffhbboeacogaaPickSS
import Derived.Test.YteffhbboeacogaaInts
import Derived.Deep.RegionLaw
import Derived.Lib.SliceRun
namespace Go.Proofs.Yteffhbboeacogaa
open Go.ChangeShapes Go.WideShapes Go.ChangeAt Go.RowKit
set_option maxRecDepth 100000
theorem run_mid3I {P : Program} (W : World) (t e : TypeId) (ht : P.underlying t = some (.slice e)) (hz : ∀ w, (Go.sizeOf e).run P w = .ok 1 w) (A : Option Addr) {n c l h : Nat} (h0 : l ≤ h) (h1 : h ≤ n) (h2 : n ≤ c) :
    (Instr.slice t (.slice A n c) (some (.int .i64 (l : Int))) (some (.int .i64 (h : Int))) (some (.int .i64 (n : Int)))).run P W = .ok (.slice (tlA A l n) (h - l) (n - l)) W := by
  have ht' : P.underlying t = some (.slice (P.elem t)) := by simp [Program.elem, ht]
  have he : P.elem t = e := by simp [Program.elem, ht]
  rw [run_slice_lhm W t _ _ _ ht' .i64 .i64 .i64 _ _ _ (by omega) (by omega) (by omega) (by omega), he, hz]
  unfold tlA
  by_cases h0 : n = l
  · simp [Result.andThen, sliced, h0]
  · simp [Result.andThen, sliced, h0]
theorem run_midI {P : Program} (W : World) (t e : TypeId) (ht : P.underlying t = some (.slice e)) (hz : ∀ w, (Go.sizeOf e).run P w = .ok 1 w) (A : Option Addr) {n c l h : Nat} (h0 : l ≤ h) (h2 : h ≤ c) :
    (Instr.slice t (.slice A n c) (some (.int .i64 (l : Int))) (some (.int .i64 (h : Int))) none).run P W = .ok (.slice (tlA A l c) (h - l) (c - l)) W := by
  have ht' : P.underlying t = some (.slice (P.elem t)) := by simp [Program.elem, ht]
  have he : P.elem t = e := by simp [Program.elem, ht]
  rw [run_slice_lh W t _ _ _ ht' .i64 .i64 _ _ (by omega) (by omega) (by omega), he, hz]
  unfold tlA
  by_cases h0 : c = l
  · simp [Result.andThen, sliced, h0]
  · simp [Result.andThen, sliced, h0]
theorem tlA_someI (g l c : Nat) : ∃ ad, tlA (some ⟨g, 0, none⟩) l c = some ad ∧ (l < c → ad = ⟨g, l, none⟩) := by
  unfold tlA
  by_cases h : c = l
  · exact ⟨_, if_pos h, fun h2 => by omega⟩
  · exact ⟨_, if_neg h, fun _ => by unfold Addr.add; split <;> simp_all⟩
theorem zeroI (w : World) : (zeroValue 3).run Try.prog w = .ok (.int .i64 0) w := by
  obtain ⟨i0, hi, hz0, hz1, hz2⟩ := info_parts IntS_info
  simp [zeroValue, typeInfo, hi, hz0]
set_option maxHeartbeats 4000000 in
theorem delI_any {w : World} {lo hi g n c k : Nat} {X : List Int} (h : Row w lo hi 3 (.slice (some ⟨g, 0, none⟩) n c) (ivs X)) (hn : X.length = n) (hk : k < n) (hs : n ≤ 1099511627776) :
    Calls Try.prog 71 #[.slice (some ⟨g, 0, none⟩) n c, .int .i64 k, .int .i64 ((k : Int) + 1)] w (fun e w' => e = .returned (.slice (some ⟨g, 0, none⟩) (n - 1) c) ∧ Row w' lo hi 3 (.slice (some ⟨g, 0, none⟩) (n - 1) c) (ivs (X.take k ++ X.drop (k + 1))) ∧ Out g (g + 1) w w') := by
  obtain ⟨i0, hi0, hz0, hz1, hz2⟩ := info_parts IntS_info
  have zz : ∀ w, (Go.sizeOf 3).run Try.prog w = .ok 1 w := fun w => by simp [sizeOf, typeInfo, hi0, hz1]
  have hul : (ivs X).length = n := by rw [ivs_len, hn]
  have hone : ∀ u ∈ ivs X, u.oneCell' = true := int_one
  obtain ⟨⟨h1, h2⟩, h3⟩ := h
  rcases h2 with ⟨e, _⟩ | ⟨g', c', cur, e, hb, hgg, hnc, hcm, hcs, htk⟩
  · injection e with e1; cases e1
  injection e with e1 e2 e3
  injection e1 with e1
  injection e1 with e1
  subst e1 e3
  rw [hul] at hnc
  rw [Nat.mul_one] at hcs
  rw [hul, Nat.mul_one] at htk
  obtain ⟨us, hus⟩ : ∃ us, us = ivs X := ⟨_, rfl⟩
  rw [← hus] at htk hul hone
  have bx : Bx w g 3 cur := hgg
  obtain ⟨ad, hA, hA2⟩ := tlA_someI g (k + 1) c
  obtain ⟨ae, hE, hE2⟩ := tlA_someI g (n - 1) c
  have hE3 := hE2 (by omega)
  subst hE3
  have hcell : ∀ j u, us[j]? = some u → w.cell? ⟨g, j, none⟩ = some u := fun j u hu => by
    have hj : j < n := by rw [← hul]; exact (List.getElem?_eq_some_iff.1 hu).1
    refine bx.at_ ?_
    rw [← htk, List.getElem?_take, if_pos hj] at hu
    simpa using hu
  have hnl : (us.drop (k + 1)).length = n - (k + 1) := by rw [List.length_drop, hul]
  have s1 := Lib.hid (show (us.drop (k + 1)).length = (n - (k + 1)) * 1 by rw [hnl, Nat.mul_one])
  have s2 := Lib.hid (show ∀ u ∈ us.drop (k + 1), u.oneCell' = true from fun u hu => hone u (List.mem_of_mem_drop hu))
  have s3 := Lib.hid (show ∀ j u, (us.drop (k + 1))[j]? = some u → w.drew.cell? (ad.add j) = some u from fun j u hu => by
    have hj : j < n - (k + 1) := by rw [← hnl]; exact (List.getElem?_eq_some_iff.1 hu).1
    rw [hA2 (by omega), Addr.add_lit]
    rw [List.getElem?_drop] at hu
    exact hcell _ u hu)
  have hfree : ∀ j, w.frozen? ⟨g, j, none⟩ = false := fun j => bx.free j
  have hsome : ∀ j, j < c → (w.cell? ⟨g, j, none⟩).isSome = true := fun j hj => by
    rw [bx.at_ (k := j) (v := cur[j]'(by omega)) (by simp [hcs, hj])]; rfl
  have s4 := Lib.hid (show ∀ j, j < (us.drop (k + 1)).length → (w.drew.cell? ⟨g, 0 + k * 1 + j, none⟩).isSome = true ∧ w.drew.frozen? ⟨g, 0 + k * 1 + j, none⟩ = false from fun j hj => by
    rw [hnl] at hj
    exact ⟨hsome _ (by omega), hfree _⟩)
  obtain ⟨W1, hW1⟩ : ∃ u : World, u = w.drew.setCells g (0 + k * 1) (us.drop (k + 1)) := ⟨_, rfl⟩
  have bx1 : Bx W1 g 3 (putA cur k (us.drop (k + 1))) := by
    rw [hW1, show 0 + k * 1 = k by omega]
    exact Bx.setCells _ _ _ _ bx.drew_
  have ho1 : Out g (g + 1) w W1 := by
    rw [hW1]
    exact (Out.refl.drewN 1).trans (Out.setCells g _ _ _)
  have hs1 : (putA cur k (us.drop (k + 1))).size = c := by rw [putA_size, hcs]
  have hcl : ∀ ty, (Builtin.clear_ #[24] ty #[.slice (some ⟨g, n - 1, none⟩) (n - (n - 1)) (c - (n - 1))]).run Try.prog W1 = .ok (.tuple #[]) (W1.setCells g (n - 1) (List.replicate (n - (n - 1)) (.int .i64 0))) :=
    fun ty => Lib.run_clear_slice W1 _ _ ty _ Try.underlying24 zeroI rfl rfl g (n - 1) _ _ (by omega)
      (fun t ht => by rw [bx1.at_ (k := n - 1 + t) (v := (putA cur k (us.drop (k + 1)))[n - 1 + t]'(by omega)) (by rw [Array.getElem?_eq_getElem]) ]; rfl) (fun t ht => bx1.free _)
  have h0 := fun (w : World) => run_mid3I w 24 3 Try.underlying24 zz (some ⟨g, 0, none⟩) (n := n) (c := c) (l := k) (h := k + 1) (by omega) (by omega) hnc
  have h1' := fun (w : World) => run_to w 24 3 Try.underlying24 zz (some ⟨g, 0, none⟩) (n := n) (c := c) (k := k) (by omega)
  have h2 := fun (w : World) => run_from w 24 3 Try.underlying24 zz (some ⟨g, 0, none⟩) (n := n) (c := c) (k := k + 1) (by omega) hnc
  have h3' := fun (w : World) => run_midI w 24 3 Try.underlying24 zz (some ⟨g, 0, none⟩) (n := n - 1) (c := c) (l := n - 1) (h := n) (by omega) hnc
  rw [hA] at h2
  rw [hE] at h3'
  have ek : ((k + 1 : Nat) : Int) = (k : Int) + 1 := by omega
  rw [ek] at h0 h2
  have hne : ((k : Int) == (k : Int) + 1) = false := by simpa using (show ¬ (k : Int) = (k : Int) + 1 by omega)
  have enk : k + (n - (k + 1)) = n - 1 := by omega
  have HW := Lib.hid hW1.symm
  have HX1 := Lib.hid bx1
  have HO1 := Lib.hid ho1
  have HS1 := Lib.hid hs1
  have HUS := Lib.hid hul
  have HTK := Lib.hid htk
  have HCS := Lib.hid hcs
  have HLO := Lib.hid hb
  have HHI := Lib.hid (h3 g rfl)
  have HUX := Lib.hid hus
  have i0' : (0 : Int) ≤ (k : Int) := by omega
  clear hW1 bx1 ho1 hs1 htk hone hcell hfree hsome hnl bx hgg h3 h1 e2 hus hb
  go_enter Try.func71, Try.ntmps71
  go_wp2_with fail
  go_region_law (refine step_append_room rfl (.tmp 22) (.tmp 25) 24 rfl 3 i0 1 Try.underlying24 hi0 hz1 g 0 k c (by simp [Act.eval, Act.put]) ad (n - (k + 1)) (c - (k + 1)) (us.drop (k + 1)) (by simp [Act.eval, Act.put]) s1.out s3.out s2.out (by omega) s4.out ?_; rw [HW.out, enk])
  go_wp2_with fail
  go_ret
  have hz := HUS.out
  have hL1 : (us.take k).length = k := by rw [List.length_take]; omega
  have hL2 : (us.drop (k + 1)).length = n - (k + 1) := by rw [List.length_drop, hz]
  have hXX : ivs (X.take k ++ X.drop (k + 1)) = us.take k ++ us.drop (k + 1) := by rw [HUX.out]; simp [ivs]
  have hLL : (ivs (X.take k ++ X.drop (k + 1))).length = n - 1 := by rw [hXX, List.length_append, hL1, hL2]; omega
  refine ⟨rfl, ⟨⟨by rw [Nat.mul_one], .inr ⟨g, c, putA (putA cur k (us.drop (k + 1))) (n - 1) (List.replicate (n - (n - 1)) (.int .i64 0)), by rw [hLL], HLO.out, Bx.setCells _ _ _ _ HX1.out, by omega, hcm, by rw [putA_size, HS1.out, Nat.mul_one], ?_⟩⟩, fun g' hg' => by
    have : g = g' := by simpa [Value.ownBlock] using hg'
    subst this
    exact HHI.out⟩, HO1.out.trans (Out.setCells g _ _ _)⟩
  have hcl2 : k + (us.drop (k + 1)).length ≤ cur.size := by rw [List.length_drop, hz, HCS.out]; omega
  have hk1 : cur.toList.take k = us.take k := by rw [← HTK.out, List.take_take, Nat.min_eq_left (by omega)]
  rw [hLL, hXX, Nat.mul_one]
  rw [putA_list _ _ _ (by rw [HS1.out, List.length_replicate]; omega), putA_list _ _ _ hcl2, hk1]
  rw [List.append_assoc, List.take_append_of_le_length (by rw [List.length_take, List.length_append, List.length_append]; omega), List.take_take, Nat.min_eq_left (by omega), List.append_assoc, List.take_append, hL1, List.take_of_length_le (by omega)]
  congr 1
  rw [List.take_append_of_le_length (by omega), List.take_of_length_le (by omega)]
end Go.Proofs.Yteffhbboeacogaa
