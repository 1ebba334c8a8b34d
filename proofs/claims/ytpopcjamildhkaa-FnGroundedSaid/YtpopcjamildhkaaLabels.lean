/- Contract of the code's Labels. No conditions but that the slices have at most 2^40 elements. -/
import Derived.Test.YtpopcjamildhkaaSigns
import Derived.Test.YtpopcjamildhkaaMg11
import Derived.Test.YtpopcjamildhkaaMg12
import Derived.Lib.OthersKept
import Derived.Laws.RangeAny
namespace Go.Proofs.Ytpopcjamildhkaa
open Go.ChangeShapes Go.WideShapes Go.ChangeAt Go.RowKit
set_option maxRecDepth 100000
theorem Row.keepOwn {w w' : World} {lo hi : Nat} {t : TypeId} {v : Value} {xs : List Value} (h : Row w lo hi t v xs) (hk : ∀ b, v.ownBlock = some b → w'.heap[b]? = w.heap[b]?) : Row w' lo hi t v xs := by
  refine ⟨⟨h.1.1, ?_⟩, h.2⟩
  rcases h.1.2 with hn | ⟨g, cap, cur, rfl, hb, hgg, rest⟩
  · exact .inl hn
  · exact .inr ⟨g, cap, cur, rfl, hb, (hk g rfl).trans hgg, rest⟩
/-- The text of signs. -/
def sgT (x h n : Nat) : ByteArray := ⟨(sgs x h n).toArray⟩
theorem sgT_size (x h n : Nat) : (sgT x h n).size = n := by
  show (sgs x h n).toArray.size = n
  simp [sgs_len]
theorem sgT_at {x h n k : Nat} (hk : k < (sgT x h n).size) : ((sgT x h n)[k]'hk).toNat = sgn (x.testBit k) (h.testBit k) := by
  have e : (sgT x h n)[k]'hk = (sgn (x.testBit k) (h.testBit k)).toUInt8 := by
    show (sgs x h n).toArray[k]'hk = _
    simp [sgs]
  rw [e]
  have h' := sgn_is (x.testBit k) (h.testBit k)
  generalize sgn (x.testBit k) (h.testBit k) = r at h'
  rcases h' with rfl | rfl | rfl <;> rfl
/-- The signs that the code makes of a graph tell what stands and what is hit. -/
theorem signs_code {N : Int} {X : List (List Int)} {K k : Nat} (hK : itS N X K = grd N X) (hk : k < (rn N X).toNat) : (itB (rn N X) (rf N X) K).testBit k = (grd N X).contains (k : Int) ∧ (hB (rf N X) (itB (rn N X) (rf N X) K) 10).testBit k = (hit N X (grd N X)).contains (k : Int) := by
  have hk10 : k < 10 := by have := (rn_le N X).2; omega
  constructor
  · have := has_it N X (k : Int) K
    rw [show inr (k : Int) 0 9 = true from inr_t (by omega) (by omega), Bool.true_and, Int.toNat_natCast, hK] at this
    exact this
  · by_cases h : gB N X = true
    · obtain ⟨n, rfl, hn, hp, _⟩ := gB_ok h
      rw [itB_code, hK, Bool.eq_iff_iff, hB_mem h hp hn]
      simp
    · rw [rn_none (by simpa using h)] at hk
      simp at hk
theorem rn_labs (N : Int) (X : List (List Int)) : labs N X = labT N X (rn N X).toNat := by
  unfold labs rn
  split
  · rfl
  · rfl
def lbS (i o : Bool) : ByteArray := if i then ⟨#[105, 110]⟩ else if o then ⟨#[111, 117, 116]⟩ else ⟨#[111, 112, 101, 110]⟩
theorem labelOf_any {w : World} {i o : Bool} : Calls Try.prog 96 #[.int .i32 (sgn i o : Nat)] w (fun e w' => e = .returned (.string (lbS i o)) ∧ w = w') := by
  cases i
  · cases o
    · rw [show ((sgn false false : Nat) : Int) = 63 from rfl, show lbS false false = ⟨#[111, 112, 101, 110]⟩ from rfl]
      go_enter Try.func96, Try.ntmps96
      go_wp2
      go_ret
      exact ⟨rfl, rfl⟩
    · rw [show ((sgn false true : Nat) : Int) = 45 from rfl, show lbS false true = ⟨#[111, 117, 116]⟩ from rfl]
      go_enter Try.func96, Try.ntmps96
      go_wp2
      go_ret
      exact ⟨rfl, rfl⟩
  · rw [show ((sgn true o : Nat) : Int) = 43 from rfl, show lbS true o = ⟨#[105, 110]⟩ from rfl]
    go_enter Try.func96, Try.ntmps96
    go_wp2
    go_ret
    exact ⟨rfl, rfl⟩
set_option maxHeartbeats 8000000 in
theorem impLabels_any {w : World} {A : Option Addr} {n c : Nat} {N : Int} {X : List (List Int)} (hl : Hid (X.length = n)) (hn : n ≤ 1099511627776) (hr : RdSS w w.heap.size A X) :
    Calls Try.prog 27 #[.agg #[.int .i64 N, .slice A n c]] w (Fresh 9 (svs (labs N X)) w) := by
  obtain ⟨ti, hti, hz0, hz1, hz2⟩ := info_parts StringS_info
  obtain ⟨Wa, hWa, bx0, hb1⟩ := one_graph w #[Value.int IntKind.i64 N, Value.slice A n c] 26
  have hsa : Wa.heap.size = w.heap.size + 1 := by rw [hWa]; simp
  have hb2 : Below w.heap.size w (Wa.alloc (Obj.cells #[] 9)) := hb1.alloc hb1.size _
  have hrow0 := (Row.made (w := Wa) (w.heap.size + 1) #[] 0 9 (by omega) rfl (Nat.zero_le _)).wide (hi' := (Wa.alloc (Obj.cells #[] 9)).heap.size) (Nat.le_refl _) (by simp)
  have bx1 := bx0.new ((Below.refl Wa.heap.size Wa).alloc (Nat.le_refl _) (Obj.cells #[] 9))
  obtain ⟨W1, hW⟩ : ∃ u : World, u = Wa.alloc (Obj.cells #[] 9) := ⟨_, rfl⟩
  rw [← hW] at hb2 hrow0 bx1
  rw [hsa] at hrow0
  have hWf : (w.alloc (Obj.cells #[Value.int IntKind.i64 N, Value.slice A n c] 26)).alloc (Obj.cells #[] 9) = W1 := by rw [hW, hWa]
  have hR1 := hr.below hb2
  have HZ1 := Lib.hid (show W1.heap.size = w.heap.size + 2 by rw [← hWf]; simp)
  obtain ⟨C0, C1⟩ := bx1.two
  clear hW hWa hr bx0 hb1 hsa
  go_enter Try.func27, Try.ntmps27
  go_wp2_with fail
  try rw [hWf]
  clear hWf
  refine (rowsOf_any (N := N) (X := X) hl hn (hR1.more hb2.size)).mono ?_
  rintro e w2 ⟨rfl, hb3⟩
  have hb4 := hb2.trans (hb3.mono hb2.size)
  have hrow2 := (hrow0.new hb3).wide (Nat.le_refl _) hb3.size
  obtain ⟨K, hK10, hK, hgrow⟩ := stop_ex N X
  have HC := Lib.hid (fun (k : Nat) (hk : k < (rn N X).toNat) => signs_code (stop_it hK hgrow) hk)
  have HQ := Lib.hid (rn_labs N X)
  obtain ⟨r0, r1⟩ := rn_le N X
  have hfl := rf_lt N X
  generalize rf N X = f at hfl HC HQ hK hgrow ⊢
  generalize rn N X = m at r0 r1 HC HQ hK hgrow ⊢
  go_wp2_with fail
  refine (signs_any r0 r1 hfl hK10 hK hgrow).mono ?_
  rintro e w3 ⟨rfl, hb5⟩
  have hb6 := hb4.trans (hb5.mono hb4.size)
  have hrow3 := (hrow2.new hb5).wide (Nat.le_refl _) hb5.size
  generalize hB f (itB m f K) 10 = h at HC ⊢
  generalize itB m f K = x at HC ⊢
  obtain ⟨n', rfl⟩ := Int.eq_ofNat_of_zero_le r0
  rw [Int.toNat_natCast] at HC HQ ⊢
  rw [show (⟨(sgs x h n').toArray⟩ : ByteArray) = sgT x h n' from rfl]
  have hn10 : n' ≤ 10 := by omega
  have HS := Lib.hid (sgT_size x h n')
  have hsz3 := hb6.size
  have hz3 : w.heap.size + 2 ≤ w3.heap.size := by have := HZ1.out; have := hb3.size; have := hb5.size; omega
  clear C0 C1 bx1 hR1 hrow0 hrow2
  go_wp2_with fail
  have hit0 := World.iter_heap w3 (sgT x h n') 0
  have hb7 : Below w3.heap.size w3 (w3.iter (sgT x h n') 0) := (Below.refl _ _).alloc (Nat.le_refl _) _
  have hrow4 := (hrow3.new hb7).wide (Nat.le_refl _) hb7.size
  have hb8 := hb6.trans (hb7.mono hb6.size)
  have hs4 : w3.heap.size < (w3.iter (sgT x h n') 0).heap.size := (Array.getElem?_eq_some_iff.1 hit0).1
  generalize w3.iter (sgT x h n') 0 = W4 at *
  have HZ3 := Lib.hid hz3
  generalize w3.heap.size = gi at *
  clear hb5 hrow3
  go_loopw [3] (fun b wr => ∃ k : Nat, k ≤ n' ∧ Row wr (w.heap.size + 1) wr.heap.size 9 b (svs (labT N X k)) ∧ Hid (b.ownBlock ≠ some gi) ∧ wr.heap[gi]? = some (.stringIter (sgT x h n') k) ∧ Below w.heap.size w wr) (fun _ wr => n' - wr.iterPos gi)
  case atStart => exact ⟨0, Nat.zero_le _, hrow4, Lib.hid (by simp [Value.ownBlock]; omega), hit0, hb8⟩
  case round =>
    obtain ⟨k, hk, hrow, hown, hit, hbw⟩ := hrel
    clear hrow4 hit0 hb8
    have hsz := hbw.size
    by_cases hlt : k < n'
    · have hks : k < (sgT x h n').size := by rw [HS.out]; exact hlt
      have hat := sgT_at hks
      have h128 : ((sgT x h n')[k]'hks).toNat < 128 := by
        rw [hat]
        rcases sgn_is (x.testBit k) (h.testBit k) with e | e | e <;> rw [e] <;> decide
      have hnx : ∀ ty, (Instr.next (.pointer (some ⟨gi, 0, none⟩)) true ty).run Try.prog wr = _ := fun ty => Lib.run_next_ascii_at wr gi (sgT x h n') k ty hit hks h128
      rw [hat] at hnx
      have hit2 := Lib.iterAt_heap wr gi (sgT x h n') k (k + 1) hit
      have hrow2 := hrow.keepOwn (w' := wr.iterAt gi (sgT x h n') (k + 1)) (fun b hb => Lib.iterAt_other wr gi b _ _ (fun e => hown.out (by rw [hb, e])))
      have hbw2 := Lib.below_iterAt hbw (k := gi) (by omega) (sgT x h n') (k + 1)
      have hsz2 : (wr.iterAt gi (sgT x h n') (k + 1)).heap.size = wr.heap.size := Lib.iterAt_size _ _ _ _
      have HT := Lib.hid (labT_succ N X k)
      have hc := HC.out k hlt
      have HL := Lib.hid (show lab N X k = lbS (x.testBit k) (h.testBit k) by rw [hc.1, hc.2]; rfl)
      clear hat h128 hc
      obtain ⟨q1, hq1⟩ : ∃ q, q = x.testBit k := ⟨_, rfl⟩
      obtain ⟨q2, hq2⟩ : ∃ q, q = h.testBit k := ⟨_, rfl⟩
      rw [← hq1, ← hq2] at HL
      simp only [← hq1, ← hq2] at hnx
      obtain ⟨ys, hys⟩ : ∃ ys, ys = labT N X k := ⟨_, rfl⟩
      have hyl : ys.length = k := by rw [hys]; exact labT_len N X k
      rw [← hys] at hrow2 HT
      have HIT := Lib.hid hit
      clear hq1 hq2 hys hrow hit
      rw [← hsz2] at hrow2
      have hsz5 := hbw2.size
      clear hsz2 hsz
      generalize wr.iterAt gi (sgT x h n') (k + 1) = w5 at *
      have hgi5 : gi < w5.heap.size := (Array.getElem?_eq_some_iff.1 hit2).1
      go_wp2_with fail
      refine (labelOf_any).mono ?_
      rintro e w8 ⟨rfl, rfl⟩
      generalize hlb : lbS q1 q2 = s at *
      have hbl : Below w5.heap.size w5 (w5.alloc (Obj.cells #[Value.string s] 9)) := (Below.refl _ _).alloc (Nat.le_refl _) _
      have hrow6 := hrow2.new hbl
      have hmade := Rd.made w5 #[Value.string s] 9
      have L : (svs ys).length + 1 ≤ maxLen ∧ ((svs ys).length + 1) * 16 ≤ 140737488355328 := by rw [svs_len]; unfold maxLen; omega
      have L1 := Lib.hid L
      have HBL := Lib.hid hbl
      clear L hbl
      go_wp2_with (at_builtin; refine wpList_app2 rfl (.tmp 14) (.tmp 17) 42 rfl 9 ti _ 16 Try.underlying42 hti hz0 hz1 hz2 rfl rfl rfl hrow6 rfl hmade (by simp [Value.oneCell']) L1.out.1 L1.out.2 (by simp; omega) ?_; intro v1 w1 hrow1 hsw1 hbw1 hkp1 hblk1)
      have hbl := HBL.out
      have hz51 : w5.heap.size + 1 ≤ w1.heap.size := by simpa using hsw1
      have hba : Below (w.heap.size + 1) w5 w1 := (hbl.mono (by omega)).trans hbw1
      have hkgi : w1.heap[gi]? = w5.heap[gi]? := (hkp1 gi (by simp; omega) hown.out).trans (hbl.block gi hgi5)
      go_roundw
      case rel => exact ⟨k + 1, by omega, by rw [HT.out, HL.out, ← svs_snoc]; exact hrow1, Lib.hid (fun e => (hblk1 gi e).elim (fun e => hown.out e) (fun e => by simp at e; omega)), hkgi.trans hit2, hbw2.trans (hba.mono (Nat.le_succ _))⟩
      case measure =>
        simp only [World.iterPos, hkgi, hit2, HIT.out]
        omega
    · have e : k = n' := by omega
      subst e
      have hnx : ∀ ty, (Instr.next (.pointer (some ⟨gi, 0, none⟩)) true ty).run Try.prog wr = _ := fun ty => Lib.run_next_end_at wr gi (sgT x h k) k ty hit (by rw [HS.out]; omega)
      go_wp2_with fail
      go_ret
      exact ⟨_, rfl, by rw [HQ.out]; exact hrow.wide (Nat.le_succ _) (Nat.le_refl _), hbw⟩
end Go.Proofs.Ytpopcjamildhkaa
