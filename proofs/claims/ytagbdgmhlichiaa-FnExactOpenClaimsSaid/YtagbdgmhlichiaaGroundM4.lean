/- Contract of the model of OpenClaims. No conditions but that the slices have at most 2^40 elements. -/
import Derived.Test.YtagbdgmhlichiaaGroundM3
namespace Go.Proofs.Ytagbdgmhlichiaa
open Go.ChangeShapes Go.WideShapes Go.ChangeAt Go.RowKit
set_option maxRecDepth 100000
def openP (N : Int) (X : List (List Int)) (k : Nat) : Bool := !((grd N X).contains (k : Int)) && !((hit N X (grd N X)).contains (k : Int))
def opnT (N : Int) (X : List (List Int)) (k : Nat) : List Int := ((List.range k).filter (openP N X)).map fun (j : Nat) => (j : Int)
/-- The claims whose label is open. -/
def opns (N : Int) (X : List (List Int)) : List Int := opnT N X (labs N X).length
theorem opnT_yes {N : Int} {X : List (List Int)} {k : Nat} (h : openP N X k = true) : opnT N X (k + 1) = opnT N X k ++ [(k : Int)] := by simp [opnT, List.range_succ, h]
theorem opnT_no {N : Int} {X : List (List Int)} {k : Nat} (h : openP N X k = false) : opnT N X (k + 1) = opnT N X k := by simp [opnT, List.range_succ, h]
theorem opnT_len (N : Int) (X : List (List Int)) (k : Nat) : (opnT N X k).length ≤ k := by
  unfold opnT
  rw [List.length_map]
  exact Nat.le_trans (List.length_filter_le _ _) (by simp)
theorem labs_len (N : Int) (X : List (List Int)) : (labs N X).length ≤ 10 := by
  unfold labs
  split
  · rename_i h
    obtain ⟨m, rfl, hm, _, _⟩ := gB_ok h
    rw [labT_len]
    omega
  · simp
theorem labs_at (N : Int) (X : List (List Int)) {k : Nat} (h : k < (labs N X).length) : (labs N X)[k] = lab N X k := by
  unfold labs at h ⊢
  split
  · simp [labT]
  · rename_i hg
    rw [if_neg hg] at h
    simp at h
theorem lab_eq (N : Int) (X : List (List Int)) (k : Nat) : ((lab N X k).toList == (⟨#[111, 112, 101, 110]⟩ : ByteArray).toList) = openP N X k := by
  unfold lab openP
  have e1 : ((⟨#[105, 110]⟩ : ByteArray).toList == (⟨#[111, 112, 101, 110]⟩ : ByteArray).toList) = false := by rw [ByteArray.toList_eq, ByteArray.toList_eq]; rfl
  have e2 : ((⟨#[111, 117, 116]⟩ : ByteArray).toList == (⟨#[111, 112, 101, 110]⟩ : ByteArray).toList) = false := by rw [ByteArray.toList_eq, ByteArray.toList_eq]; rfl
  have e3 : ((⟨#[111, 112, 101, 110]⟩ : ByteArray).toList == (⟨#[111, 112, 101, 110]⟩ : ByteArray).toList) = true := by rw [ByteArray.toList_eq]; rfl
  cases (grd N X).contains (k : Int)
  · cases (hit N X (grd N X)).contains (k : Int)
    · exact e3
    · exact e2
  · exact e1
theorem svs_at {w : World} {B : Nat} {A : Option Addr} {zs : List ByteArray} (h : Rd w B A (svs zs)) {k : Nat} (hk : k < zs.length) : ∃ ad, A = some ad ∧ ad.block < B ∧ w.cell? (ad.add k) = some (.string zs[k]) := by
  obtain ⟨ad, e, hb, hc⟩ := h.at_ (k := k) (by rw [svs_len]; exact hk)
  exact ⟨ad, e, hb, by rw [hc]; simp [svs]⟩
set_option maxHeartbeats 4000000 in
theorem specOpenClaims_any {w : World} {A : Option Addr} {n c : Nat} {N : Int} {X : List (List Int)} (hl : Hid (X.length = n)) (hn : n ≤ 1099511627776) (hr : RdSS w w.heap.size A X) :
    Calls Try.prog 49 #[.agg #[.int .i64 N, .slice A n c]] w (Fresh 3 (ivs (opns N X)) w) := by
  obtain ⟨ti, hti, hz0, hz1, hz2⟩ := info_parts IntS_info
  obtain ⟨Wa, hWa, bx0, hb1⟩ := one_graph w #[Value.int IntKind.i64 N, Value.slice A n c] 26
  have hsa : Wa.heap.size = w.heap.size + 1 := by rw [hWa]; simp
  have hb2 : Below w.heap.size w (Wa.alloc (Obj.cells #[] 3)) := hb1.alloc hb1.size _
  have hrow0 := (Row.made (w := Wa) (w.heap.size + 1) #[] 0 3 (by omega) rfl (Nat.zero_le _)).wide (hi' := (Wa.alloc (Obj.cells #[] 3)).heap.size) (Nat.le_refl _) (by simp)
  have bx1 := bx0.new ((Below.refl Wa.heap.size Wa).alloc (Nat.le_refl _) (Obj.cells #[] 3))
  obtain ⟨W1, hW⟩ : ∃ u : World, u = Wa.alloc (Obj.cells #[] 3) := ⟨_, rfl⟩
  rw [← hW] at hb2 hrow0 bx1
  rw [hsa] at hrow0
  have hWf : (w.alloc (Obj.cells #[Value.int IntKind.i64 N, Value.slice A n c] 26)).alloc (Obj.cells #[] 3) = W1 := by rw [hW, hWa]
  have hR1 := hr.below hb2
  obtain ⟨C0, C1⟩ := bx1.two
  have HZ1 := Lib.hid (show W1.heap.size = w.heap.size + 2 by rw [← hWf]; simp)
  clear hW hWa hr bx0 hb1 hsa
  go_enter Try.func49, Try.ntmps49
  go_wp2_with fail
  try rw [hWf]
  clear hWf
  refine (specLabels_any (N := N) (X := X) hl hn (hR1.more hb2.size)).mono ?_
  rintro e w2 ⟨v, rfl, hrowl, hb3⟩
  obtain ⟨Al, cl, rfl, _, _, _⟩ := hrowl.rd (n := (labs N X).length) (svs_len _)
  have hb4 := hb2.trans (hb3.mono hb2.size)
  have hrow2 := (hrow0.new hb3).wide (Nat.le_refl _) hb3.size
  have hW1 := HZ1.out
  have hz2' := hb3.size
  have HLL := Lib.hid (labs_len N X)
  clear C0 C1 bx1 hR1 hrow0
  go_wp2_with fail
  go_loopw [3, 5] (fun b i wr => ∃ k : Nat, k ≤ (labs N X).length ∧ i = .int .i64 k ∧ Row wr (w.heap.size + 1) wr.heap.size 3 b (ivs (opnT N X k)) ∧ Hid (∀ q, W1.heap.size ≤ q → q < w2.heap.size → b.ownBlock ≠ some q) ∧ Below w.heap.size w wr ∧ Row wr W1.heap.size w2.heap.size 9 (.slice Al (labs N X).length cl) (svs (labs N X)) ∧ w2.heap.size ≤ wr.heap.size) (fun _ i _ => (labs N X).length - (intOf i).toNat)
  case atStart => exact ⟨0, Nat.zero_le _, rfl, hrow2, Lib.hid (fun q hq _ e => by simp [Value.ownBlock] at e; omega), hb4, hrowl, Nat.le_refl _⟩
  case round =>
    obtain ⟨k, hk, rfl, hrow, hub, hbw, hlk, hzk⟩ := hrel
    have hll := HLL.out
    clear hrow2 hrowl
    by_cases hlt : k < (labs N X).length
    · obtain ⟨ad, rfl, hab, hc⟩ := svs_at hlk.rd' hlt
      rw [labs_at N X hlt] at hc
      have HE := Lib.hid (lab_eq N X k)
      obtain ⟨s, hs⟩ : ∃ s, s = lab N X k := ⟨_, rfl⟩
      rw [← hs] at hc HE
      have i0 : (0 : Int) ≤ (k : Int) := by omega
      obtain ⟨ys, hys⟩ : ∃ ys, ys = opnT N X k := ⟨_, rfl⟩
      have hyl : ys.length ≤ k := by rw [hys]; exact opnT_len N X k
      clear hs
      have hlit : (⟨#[111, 112, 101, 110]⟩ : ByteArray).toList = [111, 112, 101, 110] := by rw [ByteArray.toList_eq]
      have HL2 := Lib.hid hlit
      clear hlit
      by_cases ho : openP N X k = true
      · have HT := Lib.hid (opnT_yes ho)
        have he := HE.out.trans ho
        have he2 := he
        rw [HL2.out] at he2
        rw [← hys] at hrow HT
        have hbl : Below wr.heap.size wr (wr.alloc (Obj.cells #[Value.int .i64 k] 3)) := (Below.refl _ _).alloc (Nat.le_refl _) _
        have hrow6 := hrow.new hbl
        have hmade := Rd.made wr #[Value.int .i64 k] 3
        have L : (ivs ys).length + 1 ≤ maxLen ∧ ((ivs ys).length + 1) * 8 ≤ 140737488355328 := by rw [ivs_len]; unfold maxLen; omega
        have L1 := Lib.hid L
        have HBL := Lib.hid hbl
        clear L hbl hys ho
        go_wp2_with (at_builtin; refine wpList_app2 rfl (.tmp 20) (.tmp 22) 28 rfl 3 ti _ 8 Try.underlying28 hti hz0 hz1 hz2 rfl rfl rfl hrow6 rfl hmade (by simp [Value.oneCell']) L1.out.1 L1.out.2 (by simp; omega) ?_; intro v1 w1 hrow1 hsw1 hbw1 hkp1 hblk1)
        have hbl := HBL.out
        have hz51 : wr.heap.size + 1 ≤ w1.heap.size := by simpa using hsw1
        have hba : Below (w.heap.size + 1) wr w1 := (hbl.mono (by omega)).trans hbw1
        have hnew : ∀ q, W1.heap.size ≤ q → q < w2.heap.size → w1.heap[q]? = wr.heap[q]? := fun q hq1 hq2 => (hkp1 q (by simp; omega) (hub.out q hq1 hq2)).trans (hbl.block q (by omega))
        go_roundw
        case rel => exact ⟨k + 1, by omega, by go_num, by rw [HT.out, ← ivs_snoc_l]; exact hrow1, Lib.hid (fun q hq1 hq2 e => (hblk1 q e).elim (fun e => hub.out q hq1 hq2 e) (fun e => by simp at e; omega)), hbw.trans (hba.mono (Nat.le_succ _)), hlk.keep (fun q h1 h2 _ => hnew q h1 h2), by omega⟩
        case measure => simp [intOf]; omega
      · have ho' : openP N X k = false := by simpa using ho
        have HT := Lib.hid (opnT_no ho')
        have he := HE.out.trans ho'
        have he2 := he
        rw [HL2.out] at he2
        rw [← hys] at hrow HT
        clear hys ho ho'
        go_wp2_with fail
        go_roundw
        case rel => exact ⟨k + 1, by omega, by go_num, by rw [HT.out]; exact hrow, hub, hbw, hlk, hzk⟩
        case measure => simp [intOf]; omega
    · have e : k = (labs N X).length := by omega
      have HF := Lib.hid (show opnT N X k = opns N X by unfold opns; rw [e])
      subst e
      go_wp2_with fail
      go_ret
      exact ⟨_, rfl, by rw [← HF.out]; exact hrow.wide (by omega) (Nat.le_refl _), hbw⟩
end Go.Proofs.Ytagbdgmhlichiaa
