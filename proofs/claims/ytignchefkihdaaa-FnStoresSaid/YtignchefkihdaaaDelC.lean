/- Contract of slices.Delete of one element of a list of lists that the call owns. Condition: the slice has at most 2^40 elements. -/
import Derived.Test.YtignchefkihdaaaMg11
import Derived.Test.YtignchefkihdaaaTabC3
import Derived.Deep.RegionLaw
import Derived.Lib.SliceRun
namespace Go.Proofs.Ytignchefkihdaaa
open Go.ChangeShapes Go.WideShapes Go.ChangeAt Go.RowKit
set_option maxRecDepth 100000
theorem run_mid3 {P : Program} (W : World) (t e : TypeId) (ht : P.underlying t = some (.slice e)) (hz : ∀ w, (Go.sizeOf e).run P w = .ok 1 w) (A : Option Addr) {n c l h : Nat} (h0 : l ≤ h) (h1 : h ≤ n) (h2 : n ≤ c) :
    (Instr.slice t (.slice A n c) (some (.int .i64 (l : Int))) (some (.int .i64 (h : Int))) (some (.int .i64 (n : Int)))).run P W = .ok (.slice (tlA A l n) (h - l) (n - l)) W := by
  have ht' : P.underlying t = some (.slice (P.elem t)) := by simp [Program.elem, ht]
  have he : P.elem t = e := by simp [Program.elem, ht]
  rw [run_slice_lhm W t _ _ _ ht' .i64 .i64 .i64 _ _ _ (by omega) (by omega) (by omega) (by omega), he, hz]
  unfold tlA
  by_cases h0 : n = l
  · simp [Result.andThen, sliced, h0]
  · simp [Result.andThen, sliced, h0]
theorem run_mid {P : Program} (W : World) (t e : TypeId) (ht : P.underlying t = some (.slice e)) (hz : ∀ w, (Go.sizeOf e).run P w = .ok 1 w) (A : Option Addr) {n c l h : Nat} (h0 : l ≤ h) (h2 : h ≤ c) :
    (Instr.slice t (.slice A n c) (some (.int .i64 (l : Int))) (some (.int .i64 (h : Int))) none).run P W = .ok (.slice (tlA A l c) (h - l) (c - l)) W := by
  have ht' : P.underlying t = some (.slice (P.elem t)) := by simp [Program.elem, ht]
  have he : P.elem t = e := by simp [Program.elem, ht]
  rw [run_slice_lh W t _ _ _ ht' .i64 .i64 _ _ (by omega) (by omega) (by omega), he, hz]
  unfold tlA
  by_cases h0 : c = l
  · simp [Result.andThen, sliced, h0]
  · simp [Result.andThen, sliced, h0]
theorem tlA_some (g l c : Nat) : ∃ ad, tlA (some ⟨g, 0, none⟩) l c = some ad ∧ (l < c → ad = ⟨g, l, none⟩) := by
  unfold tlA
  by_cases h : c = l
  · exact ⟨_, if_pos h, fun h2 => by omega⟩
  · exact ⟨_, if_neg h, fun _ => add0 g l⟩
theorem FL_under : Try.prog.underlying 85 = some (.slice 25) := by kernel_rfl
theorem zeroSS (w : World) : (zeroValue 25).run Try.prog w = .ok (.slice none 0 0) w := by
  obtain ⟨i0, hi, hz0, hz1, hz2⟩ := info_parts SS_info2
  simp [zeroValue, typeInfo, hi, hz0]
set_option maxHeartbeats 4000000 in
theorem delete_any {w : World} {lo hi g n c k : Nat} {X : List (List Int)} (h : OwnSS w lo hi (.slice (some ⟨g, 0, none⟩) n c) X) (hn : X.length = n) (hk : k < n) (hs : n ≤ 1099511627776) :
    Calls Try.prog 129 #[.slice (some ⟨g, 0, none⟩) n c, .int .i64 k, .int .i64 ((k : Int) + 1)] w (fun e w' => e = .returned (.slice (some ⟨g, 0, none⟩) (n - 1) c) ∧ OwnSS w' lo hi (.slice (some ⟨g, 0, none⟩) (n - 1) c) (X.take k ++ X.drop (k + 1)) ∧ Out g (g + 1) w w') := by
  obtain ⟨i0, hi0, hz0, hz1, hz2⟩ := info_parts SS_info2
  have zz : ∀ w, (Go.sizeOf 25).run Try.prog w = .ok 1 w := fun w => by simp [sizeOf, typeInfo, hi0, hz1]
  obtain ⟨us, cur, hul, hgg, hnc, hcm, hcs, htk, hlo, hhi, hone, _, back⟩ := h.pick hn
  -- the cells that are moved
  have bx : Bx w g 25 cur := hgg
  obtain ⟨ad, hA, hA2⟩ := tlA_some g (k + 1) c
  obtain ⟨ae, hE, hE2⟩ := tlA_some g (n - 1) c
  have hE3 := hE2 (by omega)
  subst hE3
  have hcell : ∀ j u, us[j]? = some u → w.cell? ⟨g, j, none⟩ = some u := fun j u hu => by
    have hj : j < n := by rw [← hul]; exact (List.getElem?_eq_some_iff.1 hu).1
    refine bx.at_ ?_
    rw [← htk, List.getElem?_take, if_pos hj] at hu
    simpa using hu
  have hnl : (us.drop (k + 1)).length = n - (k + 1) := by rw [List.length_drop, hul]
  have s1 := Lib.hid (show (us.drop (k + 1)).length = (n - (k + 1)) * 1 by rw [hnl, Nat.mul_one])
  have s2 := Lib.hid (show ∀ u ∈ us.drop (k + 1), u.oneCell' = true from fun u hu => hone u (List.mem_of_mem_drop hu))
  have s3 := Lib.hid (show ∀ j u, (us.drop (k + 1))[j]? = some u → w.drew.cell? (ad.add j) = some u from fun j u hu => by
    have hj : j < n - (k + 1) := by rw [← hnl]; exact (List.getElem?_eq_some_iff.1 hu).1
    rw [hA2 (by omega), Addr.add_lit]
    rw [List.getElem?_drop] at hu
    exact hcell _ u hu)
  have hfree : ∀ j, w.frozen? ⟨g, j, none⟩ = false := fun j => bx.free j
  have hsome : ∀ j, j < c → (w.cell? ⟨g, j, none⟩).isSome = true := fun j hj => by
    rw [bx.at_ (k := j) (v := cur[j]'(by omega)) (by simp [hcs, hj])]; rfl
  have s4 := Lib.hid (show ∀ j, j < (us.drop (k + 1)).length → (w.drew.cell? ⟨g, 0 + k * 1 + j, none⟩).isSome = true ∧ w.drew.frozen? ⟨g, 0 + k * 1 + j, none⟩ = false from fun j hj => by
    rw [hnl] at hj
    exact ⟨hsome _ (by omega), hfree _⟩)
  obtain ⟨W1, hW1⟩ : ∃ u : World, u = w.drew.setCells g (0 + k * 1) (us.drop (k + 1)) := ⟨_, rfl⟩
  have bx1 : Bx W1 g 25 (putA cur k (us.drop (k + 1))) := by
    rw [hW1, show 0 + k * 1 = k by omega]
    exact Bx.setCells _ _ _ _ bx.drew_
  have ho1 : Out g (g + 1) w W1 := by
    rw [hW1]
    exact (Out.refl.drewN 1).trans (Out.setCells g _ _ _)
  have hs1 : (putA cur k (us.drop (k + 1))).size = c := by rw [putA_size, hcs]
  have hcl : ∀ ty, (Builtin.clear_ #[85] ty #[.slice (some ⟨g, n - 1, none⟩) (n - (n - 1)) (c - (n - 1))]).run Try.prog W1 = .ok (.tuple #[]) (W1.setCells g (n - 1) (List.replicate (n - (n - 1)) (.slice none 0 0))) :=
    fun ty => Lib.run_clear_slice W1 _ _ ty _ FL_under zeroSS rfl rfl g (n - 1) _ _ (by omega)
      (fun t ht => by rw [bx1.at_ (k := n - 1 + t) (v := (putA cur k (us.drop (k + 1)))[n - 1 + t]'(by omega)) (by rw [Array.getElem?_eq_getElem]) ]; rfl) (fun t ht => bx1.free _)
  have h0 := fun (w : World) => run_mid3 w 85 25 FL_under zz (some ⟨g, 0, none⟩) (n := n) (c := c) (l := k) (h := k + 1) (by omega) (by omega) hnc
  have h1 := fun (w : World) => run_to w 85 25 FL_under zz (some ⟨g, 0, none⟩) (n := n) (c := c) (k := k) (by omega)
  have h2 := fun (w : World) => run_from w 85 25 FL_under zz (some ⟨g, 0, none⟩) (n := n) (c := c) (k := k + 1) (by omega) hnc
  have h3 := fun (w : World) => run_mid w 85 25 FL_under zz (some ⟨g, 0, none⟩) (n := n - 1) (c := c) (l := n - 1) (h := n) (by omega) hnc
  rw [hA] at h2
  rw [hE] at h3
  have ek : ((k + 1 : Nat) : Int) = (k : Int) + 1 := by omega
  rw [ek] at h0 h2
  have hne : ((k : Int) == (k : Int) + 1) = false := by simpa using (show ¬ (k : Int) = (k : Int) + 1 by omega)
  have enk : k + (n - (k + 1)) = n - 1 := by omega
  have HB := Lib.hid back
  have HW := Lib.hid hW1.symm
  have HX1 := Lib.hid bx1
  have HO1 := Lib.hid ho1
  have HS1 := Lib.hid hs1
  have HUS := Lib.hid hul
  have HTK := Lib.hid htk
  have HCS := Lib.hid hcs
  have i0' : (0 : Int) ≤ (k : Int) := by omega
  clear back hW1 bx1 ho1 hs1 htk hone hcell hfree hsome hnl h bx hgg
  go_enter Try.func129, Try.ntmps129
  go_wp2_with fail
  go_region_law (refine step_append_room rfl (.tmp 22) (.tmp 25) 85 rfl 25 i0 1 FL_under hi0 hz1 g 0 k c (by simp [Act.eval, Act.put]) ad (n - (k + 1)) (c - (k + 1)) (us.drop (k + 1)) (by simp [Act.eval, Act.put]) s1.out s3.out s2.out (by omega) s4.out ?_; rw [HW.out, enk])
  go_wp2_with fail
  go_ret
  have hXn : X.length = n := hn
  have hz := HUS.out
  have hlt1 : ((us.zip X).take k).length = k := by rw [List.length_take, List.length_zip]; omega
  have hlt2 : ((us.zip X).drop (k + 1)).length = n - (k + 1) := by rw [List.length_drop, List.length_zip]; omega
  have hq := HB.out (W1.setCells g (n - 1) (List.replicate (n - (n - 1)) (.slice none 0 0))) ((us.zip X).take k ++ (us.zip X).drop (k + 1)) (by
      have e : us.zip X = (us.zip X).take k ++ (us.zip X).drop k := (List.take_append_drop k _).symm
      conv => rhs; rw [e]
      refine (List.append_sublist_append_left _).2 ?_
      rw [← List.drop_drop (i := 1) (j := k)]
      exact List.drop_sublist _ _)
    (fun b hlt hb => (HO1.out.trans (Out.setCells g (List.replicate (n - (n - 1)) (.slice none 0 0)) (n - 1) W1)).block b hlt (by omega))
    ⟨putA (putA cur k (us.drop (k + 1))) (n - 1) (List.replicate (n - (n - 1)) (.slice none 0 0)), Bx.setCells _ _ _ _ HX1.out, by rw [putA_size, HS1.out], by
      have hcl2 : k + (us.drop (k + 1)).length ≤ cur.size := by rw [List.length_drop, hz, HCS.out]; omega
      have hk1 : cur.toList.take k = us.take k := by rw [← HTK.out, List.take_take, Nat.min_eq_left (by omega)]
      have hL1 : (us.take k).length = k := by rw [List.length_take]; omega
      have hL2 : (us.drop (k + 1)).length = n - (k + 1) := by rw [List.length_drop, hz]
      rw [putA_list _ _ _ (by rw [HS1.out, List.length_replicate]; omega), putA_list _ _ _ hcl2, hk1]
      rw [List.length_append, hlt1, hlt2, List.map_append, List.map_take, List.map_drop, List.map_fst_zip (by omega)]
      rw [List.append_assoc, List.take_append_of_le_length (by rw [List.length_take, List.length_append, List.length_append]; omega), List.take_take, Nat.min_eq_left (by omega), List.append_assoc, List.take_append, hL1, List.take_of_length_le (by omega)]
      congr 1
      rw [List.take_append_of_le_length (by omega), List.take_of_length_le (by omega)]⟩
  rw [List.length_append, hlt1, hlt2, enk, List.map_append, List.map_take, List.map_drop, List.map_snd_zip (by omega)] at hq
  exact ⟨rfl, hq, HO1.out.trans (Out.setCells g _ _ _)⟩
end Go.Proofs.Ytignchefkihdaaa
