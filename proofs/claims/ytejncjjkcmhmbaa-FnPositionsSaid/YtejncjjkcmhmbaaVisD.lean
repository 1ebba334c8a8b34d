/- Contracts of the code's heldIn and AllComplete. Condition: the slices have at most 2^40 elements. -/
import Derived.Test.YtejncjjkcmhmbaaVisC
import Derived.Test.YtejncjjkcmhmbaaMg6
import Derived.Test.YtejncjjkcmhmbaaMg5
import Derived.Test.YtejncjjkcmhmbaaMg19
namespace Go.Proofs.Ytejncjjkcmhmbaa
open Go.ChangeShapes Go.WideShapes Go.ChangeAt Go.RowKit
set_option maxRecDepth 100000
theorem psF_at (f : Nat → Nat) {hs : List Nat} {k : Nat} (hk : k < hs.length) : (psF f hs)[k * 2]? = some (.int .u16 (hs[k] : Int)) ∧ (psF f hs)[k * 2 + 1]? = some (.int .u16 (hB f hs[k] 10 : Int)) := by
  induction hs generalizing k with
  | nil => simp at hk
  | cons h hs ih =>
    have e : psF f (h :: hs) = (.int .u16 (h : Int)) :: (.int .u16 (hB f h 10 : Int)) :: psF f hs := rfl
    cases k with
    | zero => rw [e]; exact ⟨rfl, rfl⟩
    | succ k =>
      have := ih (k := k) (by simpa using hk)
      rw [e, show (k + 1) * 2 = k * 2 + 1 + 1 by omega]
      simpa using this
/-- A position that is read. -/
theorem ps_rd {w : World} {B : Nat} {A : Option Addr} {f : Nat → Nat} {hs : List Nat} {k : Nat} (h : Rd w B A (psF f hs)) (hk : k < hs.length) :
    ∃ ad, A = some ad ∧ ad.block < B ∧ w.cell? (ad.add (k * 2)) = some (.int .u16 (hs[k] : Int)) ∧ w.cell? ⟨(ad.add (k * 2)).block, (ad.add (k * 2)).off + 1, none⟩ = some (.int .u16 (hB f hs[k] 10 : Int)) := by
  obtain ⟨h1, h2⟩ := psF_at f hk
  obtain ⟨ad, rfl, hb, c1⟩ := h _ _ h1
  obtain ⟨ad', e, _, c2⟩ := h _ _ h2
  injection e with e
  subst e
  have e1 : (⟨(ad.add (k * 2)).block, (ad.add (k * 2)).off + 1, none⟩ : Addr) = ad.add (k * 2 + 1) := by
    unfold Addr.add
    by_cases h0 : k * 2 = 0
    · rw [if_pos h0, if_neg (by omega), h0]
    · rw [if_neg h0, if_neg (by omega)]; simp; omega
  exact ⟨ad, rfl, hb, c1, by rw [e1]; exact c2⟩
theorem OwnSS.made0 (w : World) : OwnSS (w.alloc (Obj.cells #[] 25)) w.heap.size (w.heap.size + 1) (.slice (some ⟨w.heap.size, 0, none⟩) 0 0) [] := by
  have h := World.ownsRow_lit (base := w.heap.size) (e := 25) (size := 1) w #[] 0 (Nat.le_refl _) (Nat.zero_le _) rfl
  exact ⟨[w.heap.size], RowsR.made1 (n := 0) (z := .slice none 0 0) (x0 := []) (base := w.heap.size) (by simpa using h) ⟨_, rfl, by simpa using World.ownsRow_nil (w.alloc (Obj.cells #[] 25)) 0 3 1, rfl⟩, by simp, by simp⟩
/-- The lists of sets' bits. -/
def lsB (hs : List Nat) : List (List Int) := hs.map fun h => lsT h 10
set_option maxHeartbeats 4000000 in
theorem heldIn_any {w : World} {A : Option Addr} {n c : Nat} {f : Nat → Nat} {hs : List Nat} (hl : Hid (hs.length = n)) (hn : n ≤ 4096) (h16 : Hid (∀ h ∈ hs, h < 65536)) (hr : Rd w w.heap.size A (psF f hs)) :
    Calls Try.prog 84 #[.slice A n c] w (FreshSS (lsB hs) w) := by
  go_enter Try.func84, Try.ntmps84
  go_wp2_with fail
  go_loopw [3, 9] (fun s i wr => ∃ k : Nat, k ≤ n ∧ i = .int .i64 k ∧ OwnSS wr w.heap.size wr.heap.size s (lsB (hs.take k)) ∧ Below w.heap.size w wr) (fun _ i _ => n - (intOf i).toNat)
  case atStart => exact ⟨0, Nat.zero_le _, rfl, (OwnSS.made0 w).wide (Nat.le_refl _) (by simp), (Below.refl _ _).alloc (Nat.le_refl _) _⟩
  case round =>
    obtain ⟨k, hk, rfl, hov, hbw⟩ := hrel
    have hsz := hbw.size
    by_cases hlt : k < n
    · have hkz : k < hs.length := by rw [hl.out]; exact hlt
      obtain ⟨ad, rfl, hab, ha, hb⟩ := ps_rd (hr.below hbw) hkz
      have hxl := h16.out hs[k] (List.getElem_mem _)
      have HT := Lib.hid (List.take_succ_eq_append_getElem hkz)
      obtain ⟨x, hx⟩ : ∃ x, x = hs[k] := ⟨_, rfl⟩
      obtain ⟨Y, hY⟩ : ∃ Y, Y = hs.take k := ⟨_, rfl⟩
      have hYl : Y.length ≤ k := by rw [hY]; simp; omega
      rw [← hx] at ha hb hxl HT
      rw [← hY] at hov HT
      have i0' : (0 : Int) ≤ (k : Int) := by omega
      clear hx hY
      go_wp2_with fail
      have hba := (Below.refl wr.heap.size wr).alloc (Nat.le_refl _) (Obj.cells #[Value.int IntKind.u16 x, Value.int IntKind.u16 (hB f x 10)] 98)
      refine (list_any hxl).mono ?_
      rintro e w2 ⟨v2, rfl, hrow, hb2⟩
      obtain ⟨A9, c9, rfl, _, _, _⟩ := hrow.rd (n := (lsT x 10).length) (by rw [ivs_len])
      have hb3 := hba.trans (hb2.mono (by simp))
      have hov3 := hov.new hb3
      have hmade := alloc_new w2 (Obj.cells #[Value.slice A9 (lsT x 10).length c9] 25)
      have hov4 := hov3.new hmade
      have hrow4 := hrow.new hmade
      have hrd4 := Rd.made w2 #[Value.slice A9 (lsT x 10).length c9] 25
      have hs2 := hb3.size
      have hYL : (lsB Y).length ≤ k := by unfold lsB; rw [List.length_map]; exact hYl
      clear hba hov3 hov hrow ha hb
      go_wp2_with (first | (refine wpList_appSS (X := lsB Y) (x := lsT x 10) (L := w.heap.size) (M := wr.heap.size) (lo := wr.heap.size + 1) rfl (.tmp 13) (.tmp 17) rfl rfl rfl hov4 (hrow4.wide (by simp) (Nat.le_refl _)) hrd4 (by omega) (by omega) (by omega) (by simp; omega) ?_; intro v5 w5 hov5 hb5))
      go_roundw
      case rel => exact ⟨k + 1, by omega, by go_num, by rw [HT.out]; unfold lsB at hov5 ⊢; rw [List.map_append]; exact hov5, hbw.trans ((hb3.mono hsz).trans ((hmade.mono (by omega)).trans hb5))⟩
      case measure => simp [intOf]; omega
    · have e : k = n := by omega
      subst e
      rw [List.take_of_length_le (by rw [hl.out]; exact Nat.le_refl _)] at hov
      go_wp2_with fail
      go_ret
      exact ⟨_, rfl, hov, hbw⟩
theorem psum_ten {X : List (List Int)} (h : ∀ x ∈ X, x.length ≤ 10) : psum X X.length ≤ X.length * 10 := by
  unfold psum
  rw [List.take_of_length_le (Nat.le_refl _)]
  induction X with
  | nil => simp
  | cons x X ih =>
    have h1 := h x (by simp)
    have h2 := ih fun y hy => h y (List.mem_cons_of_mem _ hy)
    simp only [List.map_cons, List.sum_cons, List.length_cons]
    omega
theorem allB_ls (N : Int) (X : List (List Int)) : lsB (allB N X) = allC N X := by
  unfold allB lsB
  by_cases hg : gB N X = true
  · rw [if_pos hg]
    obtain ⟨n, rfl, hn, _, _⟩ := gB_ok hg
    rw [Int.toNat_natCast]
    exact vsB_all hg hn
  · rw [if_neg hg]
    unfold allC
    rw [if_neg hg]; rfl
theorem allB_lt (N : Int) (X : List (List Int)) : ∀ h ∈ allB N X, h < 65536 := fun h hh => by
  unfold allB at hh
  split at hh
  · rename_i hg
    obtain ⟨n, rfl, hn, _, _⟩ := gB_ok hg
    rw [Int.toNat_natCast] at hh
    exact Nat.lt_of_lt_of_le (vsB_ok hh).1 (Nat.le_trans (Nat.pow_le_pow_right (by decide) (show n ≤ 16 by omega)) (by decide))
  · cases hh
theorem allB_len (N : Int) (X : List (List Int)) : (allB N X).length ≤ 1024 := by
  have h1 := congrArg List.length (allB_ls N X)
  unfold lsB at h1
  rw [List.length_map] at h1
  rw [h1]; exact allC_len N X
set_option maxHeartbeats 1000000 in
theorem impAllComplete_any {w : World} {A : Option Addr} {n c : Nat} {N : Int} {X : List (List Int)} (hl : Hid (X.length = n)) (hn : n ≤ 1099511627776) (hr : RdSS w w.heap.size A X) :
    Calls Try.prog 28 #[.agg #[.int .i64 N, .slice A n c]] w (FreshSS (allC N X) w) := by
  obtain ⟨W1, hW, bx1, hb1⟩ := one_graph w #[Value.int IntKind.i64 N, Value.slice A n c] 27
  have HR := Lib.hid ((hr.below hb1).more hb1.size)
  have hW' := hW.symm
  obtain ⟨C0, C1⟩ := bx1.two
  clear hW hr
  go_enter Try.func28, Try.ntmps28
  go_wp2_with fail
  refine (completePos_any hl hn HR.out).mono ?_
  rintro e w2 ⟨A2, c2, rfl, hrd, hlc, _, hb2⟩
  have hb3 := hb1.trans (hb2.mono hb1.size)
  have HRD := Lib.hid hrd
  clear hW' C0 C1 hrd hlc
  go_wp2_with fail
  refine (heldIn_any (hs := allB N X) (Lib.hid rfl) (by have := allB_len N X; omega) (Lib.hid (allB_lt N X)) HRD.out).mono ?_
  rintro e w4 ⟨v, rfl, hov, hb4⟩
  rw [allB_ls] at hov
  have hb5 := hb3.trans (hb4.mono hb3.size)
  have hs3 := hb3.size
  go_wp2_with fail
  go_ret
  exact ⟨v, rfl, hov.wide hs3 (Nat.le_refl _), hb5⟩
end Go.Proofs.Ytejncjjkcmhmbaa
