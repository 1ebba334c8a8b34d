/- The walk of FnKeyedHash. -/
import Derived.Test.YtmemjapmkoenmaaDerive
import Derived.Test.YtmemjapmkoenmaaDrawH
import Derived.Test.YtmemjapmkoenmaaStep
import Derived.Test.YtmemjapmkoenmaaOne
namespace Go.Proofs.Ytmemjapmkoenmaa
open Go.ChangeShapes Go.WideShapes Go.ChangeAt Go.RowKit
def AtB (w : World) (e : Ending) (w' : World) : Prop := ∃ x : Int, (0 ≤ x ∧ x ≤ 255) ∧ e = .returned (.int .i64 x) ∧ w = w'
theorem at_any {w : World} {A : Option Addr} {n c k : Nat} (h : Code8 w A n) (hn : n ≤ 1048576) (hk : k ≤ 1000) :
    Calls Try.prog 23 #[.slice A n c, .int .i64 k] w (AtB w) := by
  by_cases hlt : k < n
  · obtain ⟨a, rfl, ha, hc⟩ := h.code (by omega)
    obtain ⟨z, z0, z1, hz⟩ := hc k hlt
    clear h hc
    go_enter Try.func23, Try.ntmps23
    go_wp2
    go_ret
    exact ⟨z, ⟨z0, z1⟩, rfl, rfl⟩
  · clear h
    go_enter Try.func23, Try.ntmps23
    go_wp2
    go_ret
    exact ⟨_, ⟨Int.emod_nonneg _ (by omega), by have := Int.emod_lt_of_pos ((k : Int) * 31 + (n : Int) * 7) (show (0 : Int) < 256 by omega); omega⟩, rfl, rfl⟩
theorem hs_aux {d d' s : Int} (hs : (d - d') * 1000003 = 2147483647 * s) : d - d' = 2147483647 * (s * 1523789695 - 709572 * (d - d')) := by
  obtain ⟨e, he⟩ : ∃ e, e = d - d' := ⟨_, rfl⟩
  rw [← he] at hs ⊢
  omega
theorem hs_fin {d d' t : Int} (h0 : 0 ≤ d) (h1 : d ≤ 2147483646) (h0' : 0 ≤ d') (h1' : d' ≤ 2147483646) (h : d - d' = 2147483647 * t) : d = d' := by omega
theorem hs_a2 {d d' m : Int} (h : (d * 1000003 + m + 13) % 2147483647 = (d' * 1000003 + m + 13) % 2147483647) : ∃ s, (d - d') * 1000003 = 2147483647 * s := by
  refine ⟨(d * 1000003 + m + 13) / 2147483647 - (d' * 1000003 + m + 13) / 2147483647, ?_⟩
  omega
theorem hs_inj {d d' x : Int} (h0 : 0 ≤ d) (h1 : d ≤ 2147483646) (h0' : 0 ≤ d') (h1' : d' ≤ 2147483646) (h : hsStep d x = hsStep d' x) : d = d' := by
  unfold hsStep at h
  obtain ⟨s, hs⟩ := hs_a2 h
  exact hs_fin h0 h1 h0' h1' (hs_aux hs)
theorem hs_val {d x y : Int} (h : hsStep d x = hsStep d y) : md x 2147483647 = md y 2147483647 := by
  have h1 := md_M x
  have h2 := md_M y
  unfold hsStep at h
  omega
theorem hsStep_range (d x : Int) : 0 ≤ hsStep d x ∧ hsStep d x ≤ 2147483646 := by unfold hsStep; omega
theorem fold_inj (l : List Int) : ∀ (d d' : Int), (0 ≤ d ∧ d ≤ 2147483646) → (0 ≤ d' ∧ d' ≤ 2147483646) → l.foldl hsStep d = l.foldl hsStep d' → d = d' := by
  induction l with
  | nil => intro d d' _ _ h; exact h
  | cons x l ih =>
    intro d d' h1 h2 h
    exact hs_inj h1.1 h1.2 h2.1 h2.2 (ih _ _ (hsStep_range _ _) (hsStep_range _ _) h)
theorem hash_diff (q : Int) (zs : List Int) (i : Nat) (hi : i < zs.length) (y : Int) (hy : md y 2147483647 ≠ md zs[i] 2147483647) : hsh (q :: zs.set i y ++ [q]) ≠ hsh (q :: zs ++ [q]) := by
  intro h
  have e1 : zs.set i y = zs.take i ++ y :: zs.drop (i + 1) := by rw [List.set_eq_take_append_cons_drop, if_pos hi]
  have e2 : zs = zs.take i ++ zs[i] :: zs.drop (i + 1) := by rw [← List.drop_eq_getElem_cons hi, List.take_append_drop]
  unfold hsh at h
  rw [e1] at h
  have h3 : (q :: zs ++ [q]).foldl hsStep 11 = (q :: (zs.take i ++ zs[i] :: zs.drop (i + 1)) ++ [q]).foldl hsStep 11 := by rw [← e2]
  rw [h3] at h
  simp only [List.cons_append, List.foldl_cons, List.append_assoc, List.foldl_append] at h
  have hr : ∀ (l : List Int) (d : Int), 0 ≤ d ∧ d ≤ 2147483646 → 0 ≤ l.foldl hsStep d ∧ l.foldl hsStep d ≤ 2147483646 := fun l d hd => hfold_range l d hd
  have h5 := fold_inj [q] _ _ (hr _ _ (hsStep_range _ _)) (hr _ _ (hsStep_range _ _)) h
  have h6 := fold_inj _ _ _ (hsStep_range _ _) (hsStep_range _ _) h5
  exact hy (hs_val h6)
theorem md_next {x a : Int} (h0 : 0 ≤ a) (h1 : a ≤ 255) : md (md (x + 1 + a) 2147483647) 2147483647 ≠ md x 2147483647 := by
  have e : ∀ p, md p 2147483647 = p % 2147483647 := fun p => by unfold md; rw [if_pos (by decide)]
  rw [e, e, e]
  omega
theorem row_store {w : World} {lo hi g n cap : Nat} {t : TypeId} {xs : List Value} (h : Row w lo hi t (.slice (some ⟨g, 0, none⟩) n cap) xs) (hn : xs.length = n) (k : Nat) (u : Value) : Row (w.setCell ⟨g, k, none⟩ u) lo hi t (.slice (some ⟨g, 0, none⟩) n cap) (xs.set k u) :=
  ⟨by rw [List.length_set, hn]; exact ((h.own hn).stored k u).1, fun g' hg' => h.2 g' hg'⟩
theorem at_int {w : World} {A : Option Addr} {n c : Nat} {i : Int} (h : Code8 w A n) (hn : n ≤ 1048576) (h0 : 0 ≤ i) (h1 : i ≤ 1000) :
    Calls Try.prog 23 #[.slice A n c, .int .i64 i] w (AtB w) := by
  obtain ⟨k, rfl⟩ := Int.eq_ofNat_of_zero_le h0
  exact at_any h hn (by omega)
theorem Row.block {w : World} {lo hi : Nat} {t : TypeId} {v : Value} {xs : List Value} (h : Row w lo hi t v xs) (hx : 0 < xs.length) : ∃ g cap, v = .slice (some ⟨g, 0, none⟩) xs.length cap ∧ lo ≤ g ∧ g < hi := by
  rcases (h.own rfl).2 with ⟨_, h2⟩ | ⟨g, cap, cur, rfl, hlo, _⟩
  · omega
  · exact ⟨g, cap, rfl, hlo, h.2 g rfl⟩
theorem der_ok (q : Int) (s : ByteArray) : inr (der q s) 1 2147483646 = true := by
  obtain ⟨h0, h1⟩ := derH_range q s
  unfold der
  obtain ⟨h, hh⟩ : ∃ h, h = derH q s := ⟨_, rfl⟩
  rw [← hh] at h0 h1 ⊢
  exact inr_t (by unfold mx; split <;> omega) (by unfold mx; split <;> omega)
theorem ivs_set (zs : List Int) (k : Nat) (y : Int) : (ivs zs).set k (.int .i64 y) = ivs (zs.set k y) := by simp [ivs, List.map_set]
set_option maxRecDepth 100000 in
set_option maxHeartbeats 3200000 in
theorem keyedHash_core {W : World} {A : Option Addr} {n c : Nat} (h8 : Code8 W A n) (hn : n ≤ 1048576) :
    Calls Try.prog 4 #[.slice A n c] W (fun e W' => e = .returned (.bool true) ∧ Below W.heap.size W W') := by
  obtain ⟨i0, hi, hz0, hz1, hz2⟩ := info_parts IntS_info
  go_enter Try.func4, Try.ntmps4
  go_wp2_with fail
  refine (big_no hn).mono ?_
  rintro e w1 ⟨rfl, rfl⟩
  go_wp2_with fail
  refine (drawKH h8).mono ?_
  rintro e w1 ⟨q, zs, v, _, hzl, hzb, rfl, hrow, hb1⟩
  obtain ⟨Ab, cb, rfl, hrd, hcb, _⟩ := hrow.rd (n := zs.length) (ivs_len zs)
  have s1 := hb1.size
  have HB := Lib.hid hzb
  clear hzb hrow
  go_wp2_with fail
  refine (impKeyedHash_any (Lib.hid rfl) (by omega) hrd).mono ?_
  rintro e w2 ⟨he, hb2⟩
  obtain ⟨r0, r1⟩ := hsh_range (q :: zs ++ [q])
  obtain ⟨h, hh⟩ : ∃ h, h = hsh (q :: zs ++ [q]) := ⟨_, rfl⟩
  rw [← hh] at he r0 r1
  subst he
  have HH := Lib.hid hh
  clear hh
  have s2 := hb2.size
  have hrd2 := (hrd.below hb2).more s2
  have k1 : decide (h < 0) = false := decide_eq_false (by omega)
  have k2 : decide (2147483647 ≤ h) = false := decide_eq_false (by omega)
  have hl7 : (ivs zs).length = zs.length := ivs_len zs
  have hbA : Below w2.heap.size w2 (w2.alloc (Obj.cells #[Value.int .i64 q] 3)) := (Below.refl _ _).alloc (Nat.le_refl _) _
  have rowA := Row.made (w := w2) w2.heap.size #[Value.int .i64 q] 1 3 (Nat.le_refl _) rfl (by unfold maxLen; omega)
  have hrdA := hrd2.below hbA
  have HX := Lib.hid (show #[Value.int IntKind.i64 q].toList ++ ivs zs ++ #[Value.int IntKind.i64 q].toList = ivs (q :: zs ++ [q]) by simp [ivs])
  have hle : (q :: zs ++ [q]).length ≤ 6 := by simp; omega
  obtain ⟨ls, hls⟩ : ∃ ls, ls = q :: zs ++ [q] := ⟨_, rfl⟩
  rw [← hls] at HH HX hle
  have HLS := Lib.hid hls
  clear hls
  have hzl4 : zs.length ≤ 4 := hzl
  by_cases hz : 0 < zs.length
  · have hzI : (0 : Int) < (zs.length : Int) := by omega
    go_wp2_with (first
      | (at_builtin; refine wpList_app_w rfl (.tmp 29) (.tmp 30) 28 rfl 3 i0 _ 8 Try.underlying28 hi hz0 hz1 hz2 rfl rfl rfl rowA hl7 hrdA int_one (by simp <;> unfold maxLen <;> omega) (by simp <;> omega) (by simp) ?_; intro v3 w3 row3 ho3; have hbB : Below w3.heap.size w3 (w3.alloc (Obj.cells #[Value.int .i64 q] 3)) := (Below.refl _ _).alloc (Nat.le_refl _) _; have row4 := row3.new hbB; have made4 := Rd.made w3 #[Value.int .i64 q] 3; have s3 : w2.heap.size + 1 ≤ w3.heap.size := by simpa using ho3.size)
      | (at_builtin; refine wpList_app_w rfl (.tmp 31) (.tmp 33) 28 rfl 3 i0 _ 8 Try.underlying28 hi hz0 hz1 hz2 rfl rfl rfl row4 rfl made4 (by simp [Value.oneCell']) (by simp <;> unfold maxLen <;> omega) (by simp <;> omega) (by simp <;> omega) ?_; intro v5 w5 row5 ho5; rw [HX.out] at row5; obtain ⟨A5, c5, rfl, hrd5, _, _⟩ := row5.rd (ivs_len ls))
      | (go_at_call 22; refine (impHash_any (Lib.hid rfl) (by omega) hrd5).mono ?_; rintro e w6 ⟨he6, rfl⟩; rw [← HH.out] at he6; subst he6; (have hb5 : Below w2.heap.size w2 w5 := hbA.trans ((ho3.below (B := w2.heap.size) (Nat.le_refl _) (by simp)).trans ((hbB.mono (by omega)).trans (ho5.below (B := w2.heap.size) (Nat.le_refl _) (by simp <;> omega))))); (have s5 := hb5.size); (have HB5 := Lib.hid (hb1.trans ((hb2.trans (hb5.mono s2)).mono s1))); (have hrd8 := hrd2.below hb5); (have hrowM := Row.made (w := w5) w5.heap.size #[] 0 3 (Nat.le_refl _) rfl (Nat.zero_le _)); (have hbM : Below w5.heap.size w5 (w5.alloc (Obj.cells #[] 3)) := (Below.refl _ _).alloc (Nat.le_refl _) _); (have hrdM := hrd8.below (hbM.mono s5)))
      | (at_builtin; refine wpList_app rfl (.tmp 41) (.tmp 42) 28 rfl 3 i0 _ 8 Try.underlying28 hi hz0 hz1 hz2 rfl rfl rfl hrowM hl7 hrdM int_one (by simp <;> unfold maxLen <;> omega) (by simp <;> omega) (by simp) ?_; intro v8 w8 row8 ho8; have row8' : Row w8 w5.heap.size w8.heap.size 3 v8 (ivs zs) := row8; clear row8; obtain ⟨g, cap, rfl, hg0, hg1⟩ := row8'.block (by rw [hl7]; exact hz); rw [hl7] at row8' ⊢))
    clear rowA row3 row4 row5 made4 hrdA hbA hbB ho3 ho5 hrd5 hrd2 hrd hb1 hb2 hb5
    have HB8 := Lib.hid (HB5.out.trans ((hbM.trans (ho8.below (B := w5.heap.size) (Nat.le_refl _) (by simp))).mono HB5.out.size))
    have C8 := Lib.hid (h8.below HB8.out)
    have H8 := Lib.hid h8
    clear hrowM hbM hrdM hrd8 ho8 h8
    refine (at_int (i := 0) C8.out hn (by omega) (by omega)).mono ?_
    rintro e w9 ⟨x0, ⟨x00, x01⟩, rfl, rfl⟩
    have y0 := Int.emod_nonneg x0 (show (zs.length : Int) ≠ 0 by omega)
    have y1 := Int.emod_lt_of_pos x0 hzI
    obtain ⟨i, hi9⟩ := Int.eq_ofNat_of_zero_le y0
    rw [hi9] at y1
    have hiz : i < zs.length := by omega
    obtain ⟨w0, w1'⟩ := HB.out zs[i] (List.getElem_mem _)
    have hown := row8'.own (n := zs.length) hl7
    have hcx := hown.cellAt i (by omega)
    rw [ivs_get zs i hiz] at hcx
    have hfx := hown.frozenAt i
    obtain ⟨x, hx⟩ : ∃ x, x = zs[i] := ⟨_, rfl⟩
    rw [← hx] at hcx w0 w1'
    have HXI := Lib.hid hx
    clear hx hown y0
    have i1 : (0 : Int) ≤ (i : Int) := by omega
    have i2 : (i : Int) < (zs.length : Int) := by omega
    go_wp2_with fail
    go_region_law (first | (go_simp; go_at_call 23; refine (at_int (i := 1) (by exact C8.out.below ((Below.refl _ _).drew)) hn (by omega) (by omega)).mono ?_; rintro e w10 ⟨a, ⟨a0, a1⟩, rfl, rfl⟩) | (go_simp; go_at_call 24; refine (smod_any _ _ _).mono ?_; rintro e w11 ⟨rfl, rfl⟩))
    all_goals
      rw [IntWalk.i64_in (x + 1) ⟨by unfold InW at *; omega, by unfold InW at *; omega⟩, IntWalk.i64_in (x + 1 + a) ⟨by omega, by omega⟩]
      obtain ⟨y, hy⟩ : ∃ y, y = md (x + 1 + a) 2147483647 := ⟨_, rfl⟩
      have hd := hash_diff q zs i hiz y (by rw [hy, ← HXI.out]; exact md_next a0 a1)
      rw [← hy, ← HLS.out, ← HH.out] at *
      clear hy
      have row9 := row_store row8' hl7 i (.int .i64 y)
      rw [ivs_set] at row9
      have hrd9 := row9.rd'
      have HB9 := Lib.hid ((HB8.out.trans ((Out.setCell w8 (lo := g) (Nat.le_refl _) (Nat.lt_succ_self _) i (.int .i64 y)).below (by have := HB5.out.size; omega) HB8.out.size)).drew)
      obtain ⟨W9, hW9⟩ : ∃ u : World, u = (w8.setCell ⟨g, i, none⟩ (.int .i64 y)).drew := ⟨_, rfl⟩
      have hrd9' : Rd W9 W9.heap.size (some ⟨g, 0, none⟩) (ivs (zs.set i y)) := by rw [hW9]; exact hrd9.more (by simp)
      rw [← hW9] at HB9 ⊢
      obtain ⟨h', hh'⟩ : ∃ h', h' = hsh (q :: zs.set i y ++ [q]) := ⟨_, rfl⟩
      rw [← hh'] at hd
      have HH' := Lib.hid hh'
      have hdb : (h' == h) = false := by simpa using hd
      clear row9 hrd9 hW9 hh' hd hcx hfx row8'
      go_wp2_with fail
      refine (impKeyedHash_any (zs := zs.set i y) (Lib.hid (by simp)) (by omega) hrd9').mono ?_
      rintro e w12 ⟨he, hb12⟩
      rw [← HH'.out] at he
      subst he
      have HBF := Lib.hid (HB9.out.trans (hb12.mono HB9.out.size))
      clear hb12 hrd9'
      go_wp2_with fail
      refine (drawDS (H8.out.below HBF.out)).mono ?_
      rintro e w7 ⟨key, str, _, hstr, rfl, hb7⟩
      have HS := Lib.hid hstr
      clear hstr
      go_wp2_with fail
      refine (impDerive_any (by have := HS.out; omega)).mono ?_
      rintro e w8 ⟨rfl, hb8⟩
      go_wp2_with fail
      refine (impIsValidKey_any _ _).mono ?_
      rintro e w9 ⟨rfl, rfl⟩
      go_wp2
      go_ret
      exact ⟨ret_b (der_ok key str), HBF.out.trans ((hb7.trans (hb8.mono hb7.size)).mono HBF.out.size)⟩
  · have hzI : ¬ (0 : Int) < (zs.length : Int) := by omega
    go_wp2_with (first
      | (at_builtin; refine wpList_app_w rfl (.tmp 29) (.tmp 30) 28 rfl 3 i0 _ 8 Try.underlying28 hi hz0 hz1 hz2 rfl rfl rfl rowA hl7 hrdA int_one (by simp <;> unfold maxLen <;> omega) (by simp <;> omega) (by simp) ?_; intro v3 w3 row3 ho3; have hbB : Below w3.heap.size w3 (w3.alloc (Obj.cells #[Value.int .i64 q] 3)) := (Below.refl _ _).alloc (Nat.le_refl _) _; have row4 := row3.new hbB; have made4 := Rd.made w3 #[Value.int .i64 q] 3; have s3 : w2.heap.size + 1 ≤ w3.heap.size := by simpa using ho3.size)
      | (at_builtin; refine wpList_app_w rfl (.tmp 31) (.tmp 33) 28 rfl 3 i0 _ 8 Try.underlying28 hi hz0 hz1 hz2 rfl rfl rfl row4 rfl made4 (by simp [Value.oneCell']) (by simp <;> unfold maxLen <;> omega) (by simp <;> omega) (by simp <;> omega) ?_; intro v5 w5 row5 ho5; rw [HX.out] at row5; obtain ⟨A5, c5, rfl, hrd5, _, _⟩ := row5.rd (ivs_len ls))
      | (go_at_call 22; refine (impHash_any (Lib.hid rfl) (by omega) hrd5).mono ?_; rintro e w6 ⟨he6, rfl⟩; rw [← HH.out] at he6; subst he6))
    have hb5 : Below w2.heap.size w2 w5 := hbA.trans ((ho3.below (B := w2.heap.size) (Nat.le_refl _) (by simp)).trans ((hbB.mono (by omega)).trans (ho5.below (B := w2.heap.size) (Nat.le_refl _) (by simp <;> omega))))
    have s5 := hb5.size
    have HB5 := Lib.hid (hb1.trans ((hb2.trans (hb5.mono s2)).mono s1))
    have hrd8 := hrd2.below hb5
    clear rowA row3 row4 row5 made4 hrdA hbA hbB ho3 ho5 hrd5 hrd2 hrd hb1 hb2 hb5
    have HBF := HB5
    refine (drawDS (h8.below HBF.out)).mono ?_
    rintro e w7 ⟨key, str, _, hstr, rfl, hb7⟩
    have HS := Lib.hid hstr
    clear hstr
    go_wp2_with fail
    refine (impDerive_any (by have := HS.out; omega)).mono ?_
    rintro e w8 ⟨rfl, hb8⟩
    go_wp2_with fail
    refine (impIsValidKey_any _ _).mono ?_
    rintro e w9 ⟨rfl, rfl⟩
    go_wp2
    go_ret
    exact ⟨ret_b (der_ok key str), HBF.out.trans ((hb7.trans (hb8.mono hb7.size)).mono HBF.out.size)⟩
end Go.Proofs.Ytmemjapmkoenmaa
