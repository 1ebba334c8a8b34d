/- Contract of the method addDebate (adT). Condition: points and wins in their ranges; at most 2^20 meetings. -/
import Derived.Test.YthkigilegnjglaaCpT
namespace Go.Proofs.Ythkigilegnjglaa
open Go.ChangeShapes Go.WideShapes Go.ChangeAt Go.RowKit
set_option maxRecDepth 100000
/-- What one debate makes of a team. -/
def adT (x : Tm) (m : Int) (won : Bool) (q : Int) : Tm := { x with met := x.met ++ [m], pts := x.pts + q, wins := if won then x.wins + 1 else x.wins }
theorem OwnT.cells {w : World} {lo hi g n c k : Nat} {X : List Tm} {x : Tm} (h : OwnT w lo hi (.slice (some ⟨g, 0, none⟩) n c) X) (hn : X.length = n) (hx : X[k]? = some x) : (w.cell? ⟨g, k * 6, none⟩ = some (.int .i64 x.id) ∧ w.cell? ⟨g, k * 6 + 1, none⟩ = some (.int .i64 x.club) ∧ w.cell? ⟨g, k * 6 + 2, none⟩ = some (.int .i64 x.wins) ∧ w.cell? ⟨g, k * 6 + 3, none⟩ = some (.int .i64 x.pts) ∧ w.cell? ⟨g, k * 6 + 4, none⟩ = some (.int .i64 x.firsts)) ∧ (∀ i, w.frozen? ⟨g, i, none⟩ = false) ∧ lo ≤ g ∧ g < hi ∧ g < w.heap.size ∧ k < n := by
  obtain ⟨hk, rfl⟩ := List.getElem?_eq_some_iff.1 hx
  have hkn : k < n := by omega
  obtain ⟨ad, p, e1, hp, _, Aj, cj, c0, c1, c2, c3, c4, _⟩ := h.rd'.at_ hk
  injection e1 with e1
  subst e1
  have hp' : p = ⟨g, k * 6, none⟩ := by rw [← hp]; simp [Addr.add]; intro h; omega
  subst hp'
  obtain ⟨g', c', e2, q1, q2, q3, _, _, q6⟩ := h.base hn (by omega)
  injection e2 with e2 _ _
  injection e2 with e2
  injection e2 with e2
  subst e2
  exact ⟨⟨c0, c1, c2, c3, c4⟩, q6, q1, q2, q3, hkn⟩
theorem frozen_same {w w' : World} {g i : Nat} (h : w'.heap[g]? = w.heap[g]?) : w'.frozen? ⟨g, i, none⟩ = w.frozen? ⟨g, i, none⟩ := by
  unfold World.frozen?
  simp [h]
theorem ivs_one (S : List Int) (a : Int) : ivs (S ++ [a]) = ivs S ++ [.int .i64 a] := by simp [ivs]
theorem set_idem {α : Type} {X : List α} {k : Nat} {a b : α} : (X.set k a).set k b = X.set k b := by simp
theorem cell_same {w w' : World} {p : Addr} (h : w'.heap[p.block]? = w.heap[p.block]?) : w'.cell? p = w.cell? p := World.cell?_of_block h
set_option maxHeartbeats 8000000 in
theorem addDebate_any {w : World} {lo hi g n c k : Nat} {X : List Tm} {x : Tm} {m q : Int} {won : Bool} (h : OwnT w lo hi (.slice (some ⟨g, 0, none⟩) n c) X) (hn : Hid (X.length = n)) (hx : Hid (X[k]? = some x)) (hlo : lo ≤ hi) (hhi : hi ≤ w.heap.size) (hsn : Hid (x.met.length ≤ 1048576)) (hp : Hid (0 ≤ x.pts ∧ x.pts ≤ 1000000)) (hw : Hid (0 ≤ x.wins ∧ x.wins ≤ 1000000)) (hq : 0 ≤ q) (hq2 : q ≤ 1000000) :
    Calls Try.prog 91 #[.pointer (some ⟨g, k * 6, none⟩), .int .i64 m, .bool won, .int .i64 q] w (fun e w' => e = .returned (.tuple #[]) ∧ OwnT w' lo w'.heap.size (.slice (some ⟨g, 0, none⟩) n c) (X.set k (adT x m won q)) ∧ Below lo w w') := by
  obtain ⟨i0, hi0, hz0, hz1, hz2⟩ := info_parts IntS_info
  obtain ⟨hkl, hxe⟩ := List.getElem?_eq_some_iff.1 hx.out
  obtain ⟨u, hc5, hrow5, hne⟩ := h.cell5 hn.out hkl
  obtain ⟨_, hfz, hlg, hgh, hgw, hkn⟩ := h.cells hn.out hx.out
  rw [hxe] at hrow5
  obtain ⟨m9, hm9⟩ : ∃ m, x.met.length = m := ⟨_, rfl⟩
  have HM9 := Lib.hid hm9
  obtain ⟨A9, c9, rfl, _, _, _⟩ := hrow5.rd (n := m9) (by rw [ivs_len, hm9])
  have b1 := alloc_m w (Obj.cells #[Value.int .i64 m] 3)
  have HROW := Lib.hid (hrow5.new b1)
  have HMADE := Lib.hid (show Rd (w.alloc (Obj.cells #[Value.int .i64 m] 3)) (w.heap.size + 1) (some ⟨w.heap.size, 0, none⟩) [.int .i64 m] from Rd.made w #[Value.int .i64 m] 3)
  have L1 := Lib.hid (show (ivs x.met).length + 1 ≤ maxLen ∧ ((ivs x.met).length + 1) * 8 ≤ 140737488355328 by rw [ivs_len]; have := hsn.out; unfold maxLen; omega)
  have hl1 : lo ≤ (w.alloc (Obj.cells #[Value.int .i64 m] 3)).heap.size := by simp; omega
  have hcw := nwc5 b1 hc5
  have HH := Lib.hid h
  have HC5 := Lib.hid hc5
  have HB1 := Lib.hid b1
  have HNE := Lib.hid hne
  have hp3 := hp.out
  have hw3 := hw.out
  have hsz1 : (w.alloc (Obj.cells #[Value.int .i64 m] 3)).heap.size = w.heap.size + 1 := by simp
  have HS1 := Lib.hid hsz1
  have HFZ := Lib.hid hfz
  have HXE := Lib.hid hxe
  clear h hrow5 hm9 b1 hsz1 hfz hne hxe
  go_enter Try.func91, Try.ntmps91
  go_upto_region 1 with (
    at_builtin
    refine wpList_appD rfl (.tmp 12) (.tmp 14) 45 rfl 3 i0 _ 8 Try.underlying45 hi0 hz0 hz1 hz2 rfl (v := .slice A9 m9 c9) (ad := ⟨w.heap.size, 0, none⟩) (m := 1) (c := 1) rfl rfl HROW.out rfl HMADE.out (by simp [Value.oneCell']) L1.out.1 L1.out.2 hl1 ?_
    intro v9 w9 hrow9 hsz9 hb9 hk9 ho9
    rw [← ivs_one] at hrow9
    obtain ⟨A2, c2, rfl, _, _, _⟩ := hrow9.rd (n := m9 + 1) (by rw [ivs_len, List.length_append, HM9.out]; rfl)
    have hg9 : w9.heap[g]? = w.heap[g]? := (hk9 g (by rw [HS1.out]; omega) HNE.out).trans (HB1.out.block g hgw)
    have s5 : w9.cell? ⟨g, k * 6 + 5, none⟩ = some (.slice A9 m9 c9) := (cell_same (p := ⟨g, k * 6 + 5, none⟩) hg9).trans HC5.out
    have f5 : w9.frozen? ⟨g, k * 6 + 5, none⟩ = false := (frozen_same hg9).trans (HFZ.out _)
    have hw9 : w.heap.size ≤ w9.heap.size := Nat.le_trans (HB1.out).size hsz9
    have hbl9 : Below lo w w9 := (HB1.out.mono (by omega)).trans hb9
    have how := OwnT.grow (ys := x.met ++ [m]) (hi' := w9.heap.size) HH.out hn.out hkl hlo hhi HC5.out hrow9 (Nat.le_refl _) (by omega) (fun b hb hnb => (hk9 b (by rw [HS1.out]; omega) hnb).trans (HB1.out.block b hb)) (fun b hb => (ho9 b hb).imp id (fun e => by rw [e, HS1.out]; omega))
    rw [HXE.out] at how
    have how9 := Lib.hid how
    clear how)
  obtain ⟨W2, hW2⟩ : ∃ v, w9.setCell ⟨g, k * 6 + 5, none⟩ (.slice A2 (m9 + 1) c2) = v := ⟨_, rfl⟩
  have hs2 : W2.heap.size = w9.heap.size := by rw [← hW2]; simp [World.setCell]
  have hb2 : Below lo w W2 := by rw [← hW2]; exact hbl9.setCell hlg _
  rw [hW2] at how9
  have hox := Lib.hid (show (X.set k { x with met := x.met ++ [m] }).length = n by rw [List.length_set]; exact hn.out)
  have hxx : (X.set k { x with met := x.met ++ [m] })[k]? = some { x with met := x.met ++ [m] } := List.getElem?_set_self hkl
  obtain ⟨⟨c0, c1, cw, c3, c4⟩, hfz2, _, _, _, _⟩ := how9.out.cells hox.out hxx
  simp only at c0 c1 cw c3 c4
  have ff := hfz2 (k * 6 + 3)
  have HW2 := Lib.hid hW2
  rw [HW2.out]
  have w3 := IntWalk.i64_in (x.pts + q) (by omega)
  have hkl3 : k < (X.set k { x with met := x.met ++ [m] }).length := by simpa using hkl
  have hhi9 : lo ≤ w9.heap.size := by omega
  have how3 := how9.out.put3 hox.out hkl3 hhi9 (x.pts + q)
  rw [set_idem, show ((X.set k { x with met := x.met ++ [m] })[k]'hkl3) = { x with met := x.met ++ [m] } by simp] at how3
  have HO3 := Lib.hid how3
  clear hW2 how3 c0 c1 c4 hfz2 hk9 ho9 hrow9 hb9 hg9 s5 f5 hxx
  go_upto_region 2 with fail
  obtain ⟨W3, hW3⟩ : ∃ v, W2.setCell ⟨g, k * 6 + 3, none⟩ (.int .i64 (x.pts + q)) = v := ⟨_, rfl⟩
  have hs3 : W3.heap.size = W2.heap.size := by rw [← hW3]; simp [World.setCell]
  have hb3 : Below lo w W3 := by rw [← hW3]; exact hb2.setCell hlg _
  have ho3 := HO3.out
  rw [hW3] at ho3
  have HW3 := Lib.hid hW3
  rw [HW3.out]
  have hox3 : (X.set k { x with met := x.met ++ [m], pts := x.pts + q }).length = n := by rw [List.length_set]; exact hn.out
  have hxx3 : (X.set k { x with met := x.met ++ [m], pts := x.pts + q })[k]? = some { x with met := x.met ++ [m], pts := x.pts + q } := List.getElem?_set_self hkl
  obtain ⟨⟨_, _, d2, _, _⟩, hfz3, _, _, _, _⟩ := ho3.cells hox3 hxx3
  simp only at d2
  have ff2 := hfz3 (k * 6 + 2)
  have w4 := IntWalk.i64_in (x.wins + 1) (by omega)
  have hkl4 : k < (X.set k { x with met := x.met ++ [m], pts := x.pts + q }).length := by simpa using hkl
  have how4 := ho3.put2 hox3 hkl4 hhi9 (x.wins + 1)
  rw [set_idem, show ((X.set k { x with met := x.met ++ [m], pts := x.pts + q })[k]'hkl4) = { x with met := x.met ++ [m], pts := x.pts + q } by simp] at how4
  have HO4 := Lib.hid how4
  have HO3' := Lib.hid ho3
  have hsA : W3.heap.size = w9.heap.size := by omega
  have HSA := Lib.hid hsA
  have HB3 := Lib.hid hb3
  clear hW3 how4 ho3 hfz3 hxx3 cw c3 ff hsA hs3 hs2 hb3 hb2
  cases won with
  | true =>
    go_wp2_with fail
    go_end0
    exact ⟨rfl, by rw [show ({ x with met := x.met ++ [m], pts := x.pts + q, wins := x.wins + 1 } : Tm) = adT x m true q from rfl] at HO4; exact HO4.out.wide (Nat.le_refl _) (by rw [← HSA.out]; simp [World.setCell]), HB3.out.setCell hlg _⟩
  | false =>
    go_wp2_with fail
    go_end0
    exact ⟨rfl, by rw [show ({ x with met := x.met ++ [m], pts := x.pts + q } : Tm) = adT x m false q from rfl] at HO3'; exact HO3'.out.wide (Nat.le_refl _) (by rw [HSA.out]; exact Nat.le_refl _), HB3.out⟩
end Go.Proofs.Ythkigilegnjglaa
