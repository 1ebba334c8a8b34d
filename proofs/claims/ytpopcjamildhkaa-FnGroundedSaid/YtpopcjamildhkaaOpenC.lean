/- Contract of the code's OpenClaims. No conditions but that the slices have at most 2^40 elements. -/
import Derived.Test.YtpopcjamildhkaaLabels
namespace Go.Proofs.Ytpopcjamildhkaa
open Go.ChangeShapes Go.WideShapes Go.ChangeAt Go.RowKit
set_option maxRecDepth 100000
theorem rn_opns (N : Int) (X : List (List Int)) : opns N X = opnT N X (rn N X).toNat := by
  unfold opns
  rw [rn_labs, labT_len]
set_option maxHeartbeats 8000000 in
theorem impOpenClaims_any {w : World} {A : Option Addr} {n c : Nat} {N : Int} {X : List (List Int)} (hl : Hid (X.length = n)) (hn : n ≤ 1099511627776) (hr : RdSS w w.heap.size A X) :
    Calls Try.prog 30 #[.agg #[.int .i64 N, .slice A n c]] w (Fresh 3 (ivs (opns N X)) w) := by
  obtain ⟨ti, hti, hz0, hz1, hz2⟩ := info_parts IntS_info
  obtain ⟨Wa, hWa, bx0, hb1⟩ := one_graph w #[Value.int IntKind.i64 N, Value.slice A n c] 26
  have hsa : Wa.heap.size = w.heap.size + 1 := by rw [hWa]; simp
  have hb2 : Below w.heap.size w (Wa.alloc (Obj.cells #[] 3)) := hb1.alloc hb1.size _
  have hrow0 := (Row.made (w := Wa) (w.heap.size + 1) #[] 0 3 (by omega) rfl (Nat.zero_le _)).wide (hi' := (Wa.alloc (Obj.cells #[] 3)).heap.size) (Nat.le_refl _) (by simp)
  have bx1 := bx0.new ((Below.refl Wa.heap.size Wa).alloc (Nat.le_refl _) (Obj.cells #[] 3))
  obtain ⟨W1, hW⟩ : ∃ u : World, u = Wa.alloc (Obj.cells #[] 3) := ⟨_, rfl⟩
  rw [← hW] at hb2 hrow0 bx1
  rw [hsa] at hrow0
  have hWf : (w.alloc (Obj.cells #[Value.int IntKind.i64 N, Value.slice A n c] 26)).alloc (Obj.cells #[] 3) = W1 := by rw [hW, hWa]
  have hR1 := hr.below hb2
  have HZ1 := Lib.hid (show W1.heap.size = w.heap.size + 2 by rw [← hWf]; simp)
  obtain ⟨C0, C1⟩ := bx1.two
  clear hW hWa hr bx0 hb1 hsa
  go_enter Try.func30, Try.ntmps30
  go_wp2_with fail
  try rw [hWf]
  clear hWf
  refine (rowsOf_any (N := N) (X := X) hl hn (hR1.more hb2.size)).mono ?_
  rintro e w2 ⟨rfl, hb3⟩
  have hb4 := hb2.trans (hb3.mono hb2.size)
  have hrow2 := (hrow0.new hb3).wide (Nat.le_refl _) hb3.size
  obtain ⟨K, hK10, hK, hgrow⟩ := stop_ex N X
  have HC := Lib.hid (fun (k : Nat) (hk : k < (rn N X).toNat) => signs_code (stop_it hK hgrow) hk)
  have HQ := Lib.hid (rn_opns N X)
  obtain ⟨r0, r1⟩ := rn_le N X
  have hfl := rf_lt N X
  generalize rf N X = f at hfl HC HQ hK hgrow ⊢
  generalize rn N X = m at r0 r1 HC HQ hK hgrow ⊢
  go_wp2_with fail
  refine (signs_any r0 r1 hfl hK10 hK hgrow).mono ?_
  rintro e w3 ⟨rfl, hb5⟩
  have hb6 := hb4.trans (hb5.mono hb4.size)
  have hrow3 := (hrow2.new hb5).wide (Nat.le_refl _) hb5.size
  generalize hB f (itB m f K) 10 = h at HC ⊢
  generalize itB m f K = x at HC ⊢
  obtain ⟨n', rfl⟩ := Int.eq_ofNat_of_zero_le r0
  rw [Int.toNat_natCast] at HC HQ ⊢
  rw [show (⟨(sgs x h n').toArray⟩ : ByteArray) = sgT x h n' from rfl]
  have hn10 : n' ≤ 10 := by omega
  have HS := Lib.hid (sgT_size x h n')
  have hsz3 := hb6.size
  have hz3 : w.heap.size + 2 ≤ w3.heap.size := by have := HZ1.out; have := hb3.size; have := hb5.size; omega
  clear C0 C1 bx1 hR1 hrow0 hrow2
  go_wp2_with fail
  have hit0 := World.iter_heap w3 (sgT x h n') 0
  have hb7 : Below w3.heap.size w3 (w3.iter (sgT x h n') 0) := (Below.refl _ _).alloc (Nat.le_refl _) _
  have hrow4 := (hrow3.new hb7).wide (Nat.le_refl _) hb7.size
  have hb8 := hb6.trans (hb7.mono hb6.size)
  have hs4 : w3.heap.size < (w3.iter (sgT x h n') 0).heap.size := (Array.getElem?_eq_some_iff.1 hit0).1
  generalize w3.iter (sgT x h n') 0 = W4 at *
  have HZ3 := Lib.hid hz3
  generalize w3.heap.size = gi at *
  clear hb5 hrow3
  go_loopw [3] (fun b wr => ∃ k : Nat, k ≤ n' ∧ Row wr (w.heap.size + 1) wr.heap.size 3 b (ivs (opnT N X k)) ∧ Hid (b.ownBlock ≠ some gi) ∧ wr.heap[gi]? = some (.stringIter (sgT x h n') k) ∧ Below w.heap.size w wr) (fun _ wr => n' - wr.iterPos gi)
  case atStart => exact ⟨0, Nat.zero_le _, hrow4, Lib.hid (by simp [Value.ownBlock]; omega), hit0, hb8⟩
  case round =>
    obtain ⟨k, hk, hrow, hown, hit, hbw⟩ := hrel
    clear hrow4 hit0 hb8
    have hsz := hbw.size
    by_cases hlt : k < n'
    · have hks : k < (sgT x h n').size := by rw [HS.out]; exact hlt
      have hat := sgT_at hks
      have h128 : ((sgT x h n')[k]'hks).toNat < 128 := by
        rw [hat]
        rcases sgn_is (x.testBit k) (h.testBit k) with e | e | e <;> rw [e] <;> decide
      have hnx : ∀ ty, (Instr.next (.pointer (some ⟨gi, 0, none⟩)) true ty).run Try.prog wr = _ := fun ty => Lib.run_next_ascii_at wr gi (sgT x h n') k ty hit hks h128
      rw [hat] at hnx
      have hit2 := Lib.iterAt_heap wr gi (sgT x h n') k (k + 1) hit
      have hrow2 := hrow.keepOwn (w' := wr.iterAt gi (sgT x h n') (k + 1)) (fun b hb => Lib.iterAt_other wr gi b _ _ (fun e => hown.out (by rw [hb, e])))
      have hbw2 := Lib.below_iterAt hbw (k := gi) (by omega) (sgT x h n') (k + 1)
      have hsz2 : (wr.iterAt gi (sgT x h n') (k + 1)).heap.size = wr.heap.size := Lib.iterAt_size _ _ _ _
      have hc := HC.out k hlt
      have HO := Lib.hid (show openP N X k = decide (sgn (x.testBit k) (h.testBit k) = 63) by unfold openP; rw [← hc.1, ← hc.2]; cases x.testBit k <;> cases h.testBit k <;> rfl)
      clear hat h128 hc
      obtain ⟨r, hrr⟩ : ∃ r, r = sgn (x.testBit k) (h.testBit k) := ⟨_, rfl⟩
      rw [← hrr] at HO
      simp only [← hrr] at hnx
      have HIT := Lib.hid hit
      rw [← hsz2] at hrow2
      have hsz5 := hbw2.size
      clear hsz2 hsz hrr hrow hit
      generalize wr.iterAt gi (sgT x h n') (k + 1) = w5 at *
      have hgi5 : gi < w5.heap.size := (Array.getElem?_eq_some_iff.1 hit2).1
      by_cases h63 : r = 63
      · have HT := Lib.hid (opnT_yes (N := N) (X := X) (k := k) (by rw [HO.out, decide_eq_true h63]))
        obtain ⟨ys, hys⟩ : ∃ ys, ys = opnT N X k := ⟨_, rfl⟩
        have hyl : ys.length ≤ k := by rw [hys]; exact opnT_len N X k
        rw [← hys] at hrow2 HT
        clear hys
        subst h63
        have hbl : Below w5.heap.size w5 (w5.alloc (Obj.cells #[Value.int .i64 k] 3)) := (Below.refl _ _).alloc (Nat.le_refl _) _
        have hrow6 := hrow2.new hbl
        have hmade := Rd.made w5 #[Value.int .i64 k] 3
        have L : (ivs ys).length + 1 ≤ maxLen ∧ ((ivs ys).length + 1) * 8 ≤ 140737488355328 := by rw [ivs_len]; unfold maxLen; omega
        have L1 := Lib.hid L
        have HBL := Lib.hid hbl
        clear L hbl
        go_wp2_with (at_builtin; refine wpList_app2 rfl (.tmp 17) (.tmp 19) 34 rfl 3 ti _ 8 Try.underlying34 hti hz0 hz1 hz2 rfl rfl rfl hrow6 rfl hmade (by simp [Value.oneCell']) L1.out.1 L1.out.2 (by simp; omega) ?_; intro v1 w1 hrow1 hsw1 hbw1 hkp1 hblk1)
        have hbl := HBL.out
        have hz51 : w5.heap.size + 1 ≤ w1.heap.size := by simpa using hsw1
        have hba : Below (w.heap.size + 1) w5 w1 := (hbl.mono (by omega)).trans hbw1
        have hkgi : w1.heap[gi]? = w5.heap[gi]? := (hkp1 gi (by simp; omega) hown.out).trans (hbl.block gi hgi5)
        go_roundw
        case rel => exact ⟨k + 1, by omega, by rw [HT.out, ← ivs_snoc_l]; exact hrow1, Lib.hid (fun e => (hblk1 gi e).elim (fun e => hown.out e) (fun e => by simp at e; omega)), hkgi.trans hit2, hbw2.trans (hba.mono (Nat.le_succ _))⟩
        case measure =>
          simp only [World.iterPos, hkgi, hit2, HIT.out]
          omega
      · have HT := Lib.hid (opnT_no (N := N) (X := X) (k := k) (by rw [HO.out, decide_eq_false h63]))
        have h63' : ¬ ((r : Int) = 63) := by omega
        have h63b : ((r : Int) == 63) = false := beq_eq_false_iff_ne.2 h63'
        go_wp2_with fail
        go_roundw
        case rel => exact ⟨k + 1, by omega, by rw [HT.out]; exact hrow2, hown, hit2, hbw2⟩
        case measure =>
          simp only [World.iterPos, hit2, HIT.out]
          omega
    · have e : k = n' := by omega
      subst e
      have hnx : ∀ ty, (Instr.next (.pointer (some ⟨gi, 0, none⟩)) true ty).run Try.prog wr = _ := fun ty => Lib.run_next_end_at wr gi (sgT x h k) k ty hit (by rw [HS.out]; omega)
      go_wp2_with fail
      go_ret
      exact ⟨_, rfl, by rw [HQ.out]; exact hrow.wide (Nat.le_succ _) (Nat.le_refl _), hbw⟩
end Go.Proofs.Ytpopcjamildhkaa
