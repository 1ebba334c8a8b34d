/- Contracts of Encrypt's and Decrypt's models. No conditions but that the slices have at most 2^40 elements. -/
import Derived.Test.YtmemjapmkoenmaaHash
import Derived.Test.YtmemjapmkoenmaaStep
import Derived.IntWalk
namespace Go.Proofs.Ytmemjapmkoenmaa
open Go.ChangeShapes Go.WideShapes Go.ChangeAt Go.RowKit
def kst (q : Int) (i : Nat) : Int := hsh (q :: [(i : Int)] ++ [q])
def encT (q : Int) (zs : List Int) (k : Nat) : List Int := (List.range k).map fun i => (zs.getD i 0 + kst q i) % 256
def decT (q : Int) (zs : List Int) (k : Nat) : List Int := (List.range k).map fun i => (zs.getD i 0 - kst q i) % 256
def encB (q : Int) (zs : List Int) : List Int := encT q zs zs.length
def decB (q : Int) (zs : List Int) : List Int := decT q zs zs.length
theorem encT_succ (q : Int) (zs : List Int) (k : Nat) : encT q zs (k + 1) = encT q zs k ++ [(zs.getD k 0 + kst q k) % 256] := by simp [encT, List.range_succ]
theorem decT_succ (q : Int) (zs : List Int) (k : Nat) : decT q zs (k + 1) = decT q zs k ++ [(zs.getD k 0 - kst q k) % 256] := by simp [decT, List.range_succ]
theorem encT_len (q : Int) (zs : List Int) (k : Nat) : (encT q zs k).length = k := by simp [encT]
theorem decT_len (q : Int) (zs : List Int) (k : Nat) : (decT q zs k).length = k := by simp [decT]
theorem kst_range (q : Int) (i : Nat) : 0 ≤ kst q i ∧ kst q i ≤ 2147483646 := hsh_range _
theorem getDi_at {zs : List Int} {k : Nat} (h : k < zs.length) : zs.getD k 0 = zs[k] := by simp [List.getD, h]
theorem bvs_snoc_ (ys : List Int) (x : Int) : bvs (ys ++ [x]) = bvs ys ++ [Value.int .u8 x] := by simp [bvs]
theorem enc_byte {x h : Int} (hx0 : 0 ≤ x) (hx1 : x ≤ 255) (h0 : 0 ≤ h) : IntKind.u8.wrap ((IntKind.i64.wrap (IntKind.i64.wrap x + h.tmod 256)).tmod 256) = (x + h) % 256 := by
  rw [IntWalk.i64_in x (by omega), Int.tmod_eq_emod_of_nonneg h0, IntWalk.i64_in (x + h % 256) (by omega), Int.tmod_eq_emod_of_nonneg (by omega)]
  simp [IntKind.wrap, IntKind.bits, IntKind.signed]
set_option maxRecDepth 100000 in
set_option maxHeartbeats 1600000 in
theorem specEncrypt_any {w : World} {A : Option Addr} {n c : Nat} {zs : List Int} {q : Int} (hl : Hid (zs.length = n)) (hn : n ≤ 1099511627776) (hr : Rd w w.heap.size A (bvs zs)) (hb : ∀ x ∈ zs, 0 ≤ x ∧ x ≤ 255) :
    Calls Try.prog 50 #[.int .i64 q, .slice A n c] w (Fresh 5 (bvs (encB q zs)) w) := by
  obtain ⟨i0, hi, hz0, hz1, hz2⟩ := info_parts ByteS_info
  have hrow0 := Row.made (w := w) w.heap.size #[] 0 5 (Nat.le_refl _) rfl (Nat.zero_le _)
  have hb0 : Below w.heap.size w (w.alloc (Obj.cells #[] 5)) := (Below.refl _ _).alloc (Nat.le_refl _) _
  go_enter Try.func50, Try.ntmps50
  go_wp2
  go_loopw [5, 6] (fun b i wr => ∃ k : Nat, k ≤ n ∧ i = .int .i64 k ∧ Row wr w.heap.size wr.heap.size 5 b (bvs (encT q zs k)) ∧ Below w.heap.size w wr) (fun _ i _ => n - (intOf i).toNat)
  case atStart => exact ⟨0, Nat.zero_le _, rfl, hrow0.wide (Nat.le_refl _) (by simp), hb0⟩
  case round =>
    obtain ⟨k, hk, rfl, hrow, hbw⟩ := hrel
    have hsz := hbw.size
    clear hrow0 hb0
    by_cases hlt : k < n
    · have hkz : k < zs.length := by rw [hl.out]; exact hlt
      have hrw := hr.below hbw
      obtain ⟨ad, rfl, hab, hc⟩ := bvs_at hrw hkz
      obtain ⟨hx0, hx1⟩ := hb zs[k] (List.getElem_mem _)
      have HT := Lib.hid (encT_succ q zs k)
      rw [getDi_at hkz] at HT
      obtain ⟨x, hx⟩ : ∃ x, x = zs[k] := ⟨_, rfl⟩
      rw [← hx] at hc hx0 hx1 HT
      obtain ⟨h0, h1⟩ := kst_range q k
      have hhv := kst_range q k
      obtain ⟨h, hh⟩ : ∃ h, h = kst q k := ⟨_, rfl⟩
      rw [← hh] at h0 h1 HT hhv
      have HH := Lib.hid hh
      obtain ⟨ys, hys⟩ : ∃ ys, ys = encT q zs k := ⟨_, rfl⟩
      have hyl : ys.length = k := by rw [hys]; exact encT_len q zs k
      rw [← hys] at hrow HT
      have HL := Lib.hid hyl
      have hlc : (ad.add k).block < w.heap.size := by rw [add_blk]; omega
      have hbl : Below wr.heap.size wr (wr.alloc (Obj.cells #[Value.int .i64 k] 3)) := (Below.refl _ _).alloc (Nat.le_refl _) _
      have L : (bvs ys).length + 1 ≤ maxLen ∧ ((bvs ys).length + 1) * 1 ≤ 140737488355328 := by rw [bvs_len]; unfold maxLen; omega
      have L1 := Lib.hid L
      clear L hx hys hb hr hrw hh hyl hhv
      go_wp2_with fail
      go_region_held3 (fun w' => w'.cell? (ad.add k) = some (.int .u8 x) ∧ Below w.heap.size w w') (first | exact hc_atd hc hbw | exact hc_at hc hbw | assumption | exact hc_drew ‹_› | exact hc_alloc hlc ‹_› _ | exact hc_drew (hc_alloc hlc ‹_› _))
        (first
          | (go_at_call 41; (refine (specKeyedHash_any (zs := [(k : Int)]) (q := q) (Lib.hid rfl) (by simp) (by exact (Rd.made wr #[Value.int .i64 k] 3).more (by simp))).mono ?_); (rintro e w1 ⟨he, hb1⟩); (rw [show hsh (q :: [(k : Int)] ++ [q]) = h from HH.out.symm] at he); subst he; (have hk1 := hc_call hlc (by first | assumption | exact hc_alloc hlc (hc_at hc hbw) _ | exact hc_drew (hc_alloc hlc (hc_at hc hbw) _)) hb1); (have hrow1 : Row w1 w.heap.size wr.heap.size 5 u5 (bvs ys) := Row.new (by first | exact hrow.new hbl.drew | exact hrow.new hbl) hb1))
          | (refine step_app (news := [Value.int .u8 (IntKind.u8.wrap ((IntKind.i64.wrap (IntKind.i64.wrap x + h.tmod 256)).tmod 256))]) (B := w1.heap.size + 1) (A := some ⟨w1.heap.size, 0, none⟩) (m := 1) (c := 1) (v := u5) (xs := bvs ys) (lo := w.heap.size) (hi' := wr.heap.size) rfl (.tmp 14) (.tmp 28) 22 rfl 5 i0 (.int .u8 0) 1 Try.underlying22 hi hz0 hz1 hz2 rfl (by simp [Act.eval]) (by simp [Act.eval]) (by first | exact hrow1.new ((Below.refl _ _).alloc (Nat.le_refl _) _) | exact hrow1.new ((Below.refl _ _).alloc (Nat.le_refl _) _).drew) rfl (by exact Rd.made w1 #[_] _) (by simp [Value.oneCell']) L1.out.1 L1.out.2 (by have hq := hk1.2.size; simp; omega) ?_; intro v2 w2 hrow2 ho2; have hk2 := hc_out hlc ‹_ ∧ Below w.heap.size w _› ho2 (Nat.le_refl _)))
      all_goals go_wp2
      all_goals go_roundw
      case rel => exact ⟨k + 1, by omega, by go_num, by rw [HT.out, bvs_snoc_, ← enc_byte hx0 hx1 h0]; exact hrow2, hk2.2⟩
      case measure => simp [intOf]; omega
    · have e : k = n := by omega
      subst e
      have H1 := Lib.hid (show encT q zs k = encB q zs by rw [encB, hl.out])
      go_wp2
      go_ret
      exact ⟨_, rfl, by rw [← H1.out]; exact hrow, hbw⟩
theorem dec_byte {x h : Int} (hx0 : 0 ≤ x) (hx1 : x ≤ 255) (h0 : 0 ≤ h) : IntKind.u8.wrap (md (IntKind.i64.wrap (IntKind.i64.wrap x - h.tmod 256)) 256) = (x - h) % 256 := by
  have e : ∀ p, md p 256 = p % 256 := fun p => by unfold md; rw [if_pos (by decide)]
  rw [IntWalk.i64_in x (by omega), Int.tmod_eq_emod_of_nonneg h0, IntWalk.i64_in (x - h % 256) (by omega), e]
  simp [IntKind.wrap, IntKind.bits, IntKind.signed]
set_option maxRecDepth 100000 in
set_option maxHeartbeats 1600000 in
theorem specDecrypt_any {w : World} {A : Option Addr} {n c : Nat} {zs : List Int} {q : Int} (hl : Hid (zs.length = n)) (hn : n ≤ 1099511627776) (hr : Rd w w.heap.size A (bvs zs)) (hb : ∀ x ∈ zs, 0 ≤ x ∧ x ≤ 255) :
    Calls Try.prog 52 #[.int .i64 q, .slice A n c] w (Fresh 5 (bvs (decB q zs)) w) := by
  obtain ⟨i0, hi, hz0, hz1, hz2⟩ := info_parts ByteS_info
  have hrow0 := Row.made (w := w) w.heap.size #[] 0 5 (Nat.le_refl _) rfl (Nat.zero_le _)
  have hb0 : Below w.heap.size w (w.alloc (Obj.cells #[] 5)) := (Below.refl _ _).alloc (Nat.le_refl _) _
  go_enter Try.func52, Try.ntmps52
  go_wp2
  go_loopw [5, 6] (fun b i wr => ∃ k : Nat, k ≤ n ∧ i = .int .i64 k ∧ Row wr w.heap.size wr.heap.size 5 b (bvs (decT q zs k)) ∧ Below w.heap.size w wr) (fun _ i _ => n - (intOf i).toNat)
  case atStart => exact ⟨0, Nat.zero_le _, rfl, hrow0.wide (Nat.le_refl _) (by simp), hb0⟩
  case round =>
    obtain ⟨k, hk, rfl, hrow, hbw⟩ := hrel
    have hsz := hbw.size
    clear hrow0 hb0
    by_cases hlt : k < n
    · have hkz : k < zs.length := by rw [hl.out]; exact hlt
      have hrw := hr.below hbw
      obtain ⟨ad, rfl, hab, hc⟩ := bvs_at hrw hkz
      obtain ⟨hx0, hx1⟩ := hb zs[k] (List.getElem_mem _)
      have HT := Lib.hid (decT_succ q zs k)
      rw [getDi_at hkz] at HT
      obtain ⟨x, hx⟩ : ∃ x, x = zs[k] := ⟨_, rfl⟩
      rw [← hx] at hc hx0 hx1 HT
      obtain ⟨h0, h1⟩ := kst_range q k
      have hhv := kst_range q k
      obtain ⟨h, hh⟩ : ∃ h, h = kst q k := ⟨_, rfl⟩
      rw [← hh] at h0 h1 HT hhv
      have HH := Lib.hid hh
      obtain ⟨ys, hys⟩ : ∃ ys, ys = decT q zs k := ⟨_, rfl⟩
      have hyl : ys.length = k := by rw [hys]; exact decT_len q zs k
      rw [← hys] at hrow HT
      have HL := Lib.hid hyl
      have hlc : (ad.add k).block < w.heap.size := by rw [add_blk]; omega
      have hbl : Below wr.heap.size wr (wr.alloc (Obj.cells #[Value.int .i64 k] 3)) := (Below.refl _ _).alloc (Nat.le_refl _) _
      have L : (bvs ys).length + 1 ≤ maxLen ∧ ((bvs ys).length + 1) * 1 ≤ 140737488355328 := by rw [bvs_len]; unfold maxLen; omega
      have L1 := Lib.hid L
      clear L hx hys hb hr hrw hh hyl hhv
      go_wp2_with fail
      go_region_held3 (fun w' => w'.cell? (ad.add k) = some (.int .u8 x) ∧ Below w.heap.size w w') (first | exact hc_atd hc hbw | exact hc_at hc hbw | assumption | exact hc_drew ‹_› | exact hc_alloc hlc ‹_› _ | exact hc_drew (hc_alloc hlc ‹_› _))
        (first
          | (go_at_call 41; (refine (specKeyedHash_any (zs := [(k : Int)]) (q := q) (Lib.hid rfl) (by simp) (by exact (Rd.made wr #[Value.int .i64 k] 3).more (by simp))).mono ?_); (rintro e w1 ⟨he, hb1⟩); (rw [show hsh (q :: [(k : Int)] ++ [q]) = h from HH.out.symm] at he); subst he; (have hk1 := hc_call hlc (by first | assumption | exact hc_alloc hlc (hc_at hc hbw) _ | exact hc_drew (hc_alloc hlc (hc_at hc hbw) _)) hb1); (have hrow1 : Row w1 w.heap.size wr.heap.size 5 u5 (bvs ys) := Row.new (by first | exact hrow.new hbl.drew | exact hrow.new hbl) hb1))
          | (go_at_call 24; (refine (smod_any _ _ _).mono ?_); (rintro e w3 ⟨rfl, rfl⟩))
          | (refine step_app (news := [Value.int .u8 (IntKind.u8.wrap (md (IntKind.i64.wrap (IntKind.i64.wrap x - h.tmod 256)) 256))]) (B := w1.heap.size + 1) (A := some ⟨w1.heap.size, 0, none⟩) (m := 1) (c := 1) (v := u5) (xs := bvs ys) (lo := w.heap.size) (hi' := wr.heap.size) rfl (.tmp 14) (.tmp 28) 22 rfl 5 i0 (.int .u8 0) 1 Try.underlying22 hi hz0 hz1 hz2 rfl (by simp [Act.eval]) (by simp [Act.eval]) (by first | exact hrow1.new ((Below.refl _ _).alloc (Nat.le_refl _) _) | exact hrow1.new ((Below.refl _ _).alloc (Nat.le_refl _) _).drew) rfl (by exact Rd.made w1 #[_] _) (by simp [Value.oneCell']) L1.out.1 L1.out.2 (by have hq := hk1.2.size; simp; omega) ?_; intro v2 w2 hrow2 ho2; have hk2 := hc_out hlc ‹_ ∧ Below w.heap.size w _› ho2 (Nat.le_refl _)))
      all_goals go_wp2
      all_goals go_roundw
      case rel => exact ⟨k + 1, by omega, by go_num, by rw [HT.out, bvs_snoc_, ← dec_byte hx0 hx1 h0]; exact hrow2, hk2.2⟩
      case measure => simp [intOf]; omega
    · have e : k = n := by omega
      subst e
      have H1 := Lib.hid (show decT q zs k = decB q zs by rw [decB, hl.out])
      go_wp2
      go_ret
      exact ⟨_, rfl, by rw [← H1.out]; exact hrow, hbw⟩
end Go.Proofs.Ytmemjapmkoenmaa
