/- Contracts of the laws' own helpers over []string: markText, eqStringS, markStringS, heldStringS. -/
import Derived.Test.YtagbdgmhlichiaaGroundM4
import Derived.Laws.BytesString
import Derived.Laws.Concat
import Derived.Deep.RegionHeld3
namespace Go.Proofs.Ytagbdgmhlichiaa
open Go.ChangeShapes Go.WideShapes Go.ChangeAt Go.RowKit
set_option maxRecDepth 100000
/-- The digits that markText lays, before what it has. -/
def mkd : Nat → Nat → List UInt8 → List UInt8
  | 0, _, out => out
  | f + 1, k, out => if k = 0 then out else mkd f (k / 10) ((48 + k % 10).toUInt8 :: out)
theorem mkd_stop (f : Nat) (out : List UInt8) : mkd f 0 out = out := by cases f <;> simp [mkd]
theorem mkd_step {f k : Nat} (h : 0 < k) (out : List UInt8) : mkd (f + 1) k out = mkd f (k / 10) ((48 + k % 10).toUInt8 :: out) := by
  have : ¬ k = 0 := by omega
  simp [mkd, this]
/-- The text of a mark. -/
def mtx (k : Nat) : ByteArray := ⟨(109 :: mkd 16 k []).toArray⟩
theorem one_text (w : World) (c : Nat) : (convert 22 9 (.slice (some ⟨w.heap.size, 0, none⟩) 1 1)).run Try.prog (w.alloc (Obj.cells #[.int .u8 (c : Nat)] 5)) = .ok (.string ⟨[c.toUInt8].toArray⟩) (w.alloc (Obj.cells #[.int .u8 (c : Nat)] 5)) := by
  rw [run_convert_bytes_string _ _ _ 5 _ _ _ Try.underlying22 Try.underlying5 Try.underlying9]
  have h := (Bx.made w 5 #[.int .u8 (c : Nat)]).load (P := Try.prog) (n := 1) rfl
  rw [run_bytesToString _ _ _ _ [(c : Int)] (by simpa [loadCells] using h)]
  simp
  rfl
theorem mkd_len (f k : Nat) (out : List UInt8) : (mkd f k out).length ≤ f + out.length := by
  induction f generalizing k out with
  | zero => simp [mkd]
  | succ f ih =>
    unfold mkd
    split
    · omega
    · have := ih (k / 10) ((48 + k % 10).toUInt8 :: out)
      simp only [List.length_cons] at this
      omega
theorem add_text {P : Program} (w : World) (x y : List UInt8) (hx : x.length ≤ 8388608) (hy : y.length ≤ 8388608) : (Op.stringOp .add ⟨x.toArray⟩ ⟨y.toArray⟩).run P w = .ok (.string ⟨(x ++ y).toArray⟩) w :=
  run_string_add_lists w x y (by omega) (by omega)
set_option maxHeartbeats 4000000 in
theorem markText_any {w : World} {k : Nat} (h0 : 0 < k) (hk : k < 10000000000000000) : Calls Try.prog 79 #[.int .i64 k] w (fun e w' => e = .returned (.string (mtx k)) ∧ Below w.heap.size w w') := by
  have hkn : ¬ ((k : Int) ≤ 0) := by omega
  have HK := Lib.hid (show k < 10 ^ 16 from Nat.lt_of_lt_of_eq hk (by decide))
  have HK2 := Lib.hid hk
  clear hk
  go_enter Try.func79, Try.ntmps79
  go_wp2_with fail
  go_loopw [0, 3] (fun i s wr => ∃ (j f : Nat) (out : List UInt8), i = .int .i64 (j : Int) ∧ s = .string ⟨out.toArray⟩ ∧ Hid (mkd f j out = mkd 16 k []) ∧ Hid (j < 10 ^ f) ∧ j ≤ k ∧ out.length + f ≤ 16 ∧ Below w.heap.size w wr) (fun i _ _ => (intOf i).toNat)
  case atStart => exact ⟨k, 16, [], rfl, rfl, Lib.hid rfl, HK, Nat.le_refl _, by simp, Below.refl _ _⟩
  case round =>
    obtain ⟨j, f, out, rfl, rfl, he, hjf, hjk, hof, hbw⟩ := hrel
    have hsz := hbw.size
    by_cases hj : 0 < j
    · obtain ⟨f', rfl⟩ : ∃ f', f = f' + 1 := by
        cases f with
        | zero => have := hjf.out; simp at this; omega
        | succ f => exact ⟨f, rfl⟩
      have HJ := Lib.hid (show j / 10 < 10 ^ f' by have := hjf.out; rw [Nat.pow_succ] at this; omega)
      have HE := Lib.hid ((mkd_step hj out).symm.trans he.out)
      have hcv := one_text wr (48 + j % 10)
      have hadd := fun w' => add_text (P := Try.prog) w' [(48 + j % 10).toUInt8] out (by simp) (by omega)
      generalize (48 + j % 10).toUInt8 = u at *
      push_cast at hcv
      have hj' : (0 : Int) < (j : Int) := by omega
      have iw : wrap64 ((j : Int) / 10) = (j : Int) / 10 := IntWalk.wrap64_in _ (by have h := HK2.out; omega)
      have IW := Lib.hid iw
      have hbl := hbw.trans (((Below.refl _ _).alloc (Nat.le_refl _) (Obj.cells #[Value.int .u8 (48 + (j : Int) % 10)] 5)).mono hsz)
      go_wp2_with fail
      go_roundw
      case rel => exact ⟨j / 10, f', u :: out, by rw [IW.out]; push_cast; rfl, rfl, HE, HJ, by omega, by simp; omega, hbl⟩
      case measure => rw [IW.out]; simp [intOf]; omega
    · have e : j = 0 := by omega
      subst e
      have HE := Lib.hid ((mkd_stop f out).symm.trans he.out)
      have hadd := add_text (P := Try.prog) wr [109] out (by simp) (by omega)
      clear he hjf
      go_wp2_with fail
      go_ret
      exact ⟨by unfold mtx; rw [← HE.out]; rfl, hbw⟩
theorem toList_ne {a b : ByteArray} (h : a ≠ b) : (a.toList == b.toList) = false := by
  rw [beq_eq_false_iff_ne, ByteArray.toList_eq, ByteArray.toList_eq]
  intro e
  apply h
  cases a
  cases b
  simpa using e
set_option maxHeartbeats 800000 in
theorem eqStringS_any {w : World} {A A' : Option Addr} {n c n' c' : Nat} {zs ys : List ByteArray} (hl : Hid (zs.length = n)) (hl' : Hid (ys.length = n')) (hn : n ≤ 17592186043904) (hn' : n' ≤ 17592186043904)
    (hr : Rd w w.heap.size A (svs zs)) (hr' : Rd w w.heap.size A' (svs ys)) :
    Calls Try.prog 45 #[.slice A n c, .slice A' n' c'] w (Tells (decide (zs = ys)) w) := by
  by_cases hne : n = n'
  · subst hne
    go_enter Try.func45, Try.ntmps45
    go_wp2
    go_loopw [5] (fun i wr => ∃ k q : Nat, k ≤ n ∧ i = .int .i64 k ∧ wr = w.drewN q ∧ zs.take k = ys.take k) (fun i _ => n - (intOf i).toNat)
    case atStart => exact ⟨0, 0, Nat.zero_le _, rfl, rfl, rfl⟩
    case round =>
      obtain ⟨k, q, hk, rfl, rfl, heq⟩ := hrel
      have HE := Lib.hid heq
      clear heq
      by_cases hlt : k < n
      · have hkz : k < zs.length := by rw [hl.out]; exact hlt
        have hky : k < ys.length := by rw [hl'.out]; exact hlt
        obtain ⟨ad, rfl, hab, hc⟩ := svs_at hr hkz
        obtain ⟨ad', rfl, hab', hc'⟩ := svs_at hr' hky
        by_cases hv : zs[k] = ys[k]
        · have HV := Lib.hid hv
          rw [hv] at hc
          clear hv
          go_wp2
          go_quiet (fail)
          go_wp2
          go_roundw
          case rel => exact ⟨k + 1, _, by omega, by go_num, rfl, by rw [List.take_succ_eq_append_getElem hkz, List.take_succ_eq_append_getElem hky, HE.out, HV.out]⟩
          case measure => simp [intOf]; omega
        · have hb := toList_ne hv
          go_wp2
          go_quiet (fail)
          go_wp2
          go_ret
          refine ⟨ret_b ?_, below_drewN (below_drewN (Below.refl _ _) _) _⟩
          symm
          simp only [decide_eq_false_iff_not]
          rintro rfl
          exact hv rfl
      · have e : k = n := by omega
        subst e
        go_wp2
        go_ret
        refine ⟨ret_b ?_, below_drewN (Below.refl _ _) _⟩
        have h1 := HE.out
        rw [List.take_of_length_le (by rw [hl.out]; omega), List.take_of_length_le (by rw [hl'.out]; omega)] at h1
        simp [h1]
  · have hne' : ¬ (n : Int) = n' := by omega
    go_enter Try.func45, Try.ntmps45
    go_wp2
    go_ret
    refine ⟨ret_b ?_, Below.refl _ _⟩
    symm
    simp only [decide_eq_false_iff_not]
    rintro rfl
    exact hne (hl.out.symm.trans hl'.out)
theorem ownsRow_new {w w' : World} {lo n : Nat} {t : TypeId} {v : Value} {xs : List Value} (h : w.ownsRow lo t 1 v n xs) (hb : Below w.heap.size w w') : w'.ownsRow lo t 1 v n xs := by
  refine ⟨h.1, ?_⟩
  rcases h.2 with hn | ⟨g, cap, cur, rfl, hlo, hgg, rest⟩
  · exact .inl hn
  · exact .inr ⟨g, cap, cur, rfl, hlo, (hb.block g (Array.getElem?_eq_some_iff.1 hgg).1).trans hgg, rest⟩
/-- What markStringS writes. -/
def smt (q : Int) (n : Nat) : List ByteArray := (List.range n).map fun (j : Nat) => mtx (q + (j : Int)).toNat
theorem smt_len (q : Int) (n : Nat) : (smt q n).length = n := by simp [smt]
theorem smt_get (q : Int) (n k : Nat) (h : k < n) : (svs (smt q n))[k]? = some (.string (mtx (q + (k : Int)).toNat)) := by
  simp [svs, smt, h]
set_option maxHeartbeats 1600000 in
theorem markStringS_any {w : World} {lo hi n : Nat} {v : Value} {q : Int} {xs : List Value} (hl : Hid (xs.length = n)) (hn : n ≤ 1000000) (h0 : 0 < q) (hq : q ≤ 1000000)
    (h : Row w lo hi 9 v xs) :
    Calls Try.prog 46 #[v, .int .i64 q] w (Marked (q + n) lo hi 9 v (svs (smt q n)) w) := by
  have hown0 := h.own hl.out
  rcases hown0.2 with ⟨rfl, rfl⟩ | ⟨g, cap, cur, rfl, hlo, _, _, _, _, _⟩
  · go_enter Try.func46, Try.ntmps46
    go_wp2
    go_loop [1, 5] (fun m i => i = .int .i64 0 ∧ m = .int .i64 q) (fun _ _ => 0)
    case atStart => exact ⟨rfl, rfl⟩
    case round =>
      obtain ⟨rfl, rfl⟩ := hrel
      go_wp2
      go_ret
      exact ⟨by simp, by simpa [smt, svs] using Row.nil, Out.refl⟩
  · have hhi : g < hi := h.2 g rfl
    have HO := Lib.hid hown0
    clear hown0 h
    go_enter Try.func46, Try.ntmps46
    go_wp2
    go_loopw [1, 5] (fun m i wr => ∃ k : Nat, k ≤ n ∧ i = .int .i64 k ∧ m = .int .i64 (q + k) ∧ wr.ownsRow lo 9 1 (.slice (some ⟨g, 0, none⟩) n cap) n ((svs (smt q n)).take k ++ xs.drop k) ∧ Out lo hi w wr) (fun _ i _ => n - (intOf i).toNat)
    case atStart => exact ⟨0, Nat.zero_le _, rfl, by simp, by simpa using HO.out, Out.refl⟩
    case round =>
      obtain ⟨k, hk, rfl, rfl, hown, hout⟩ := hrel
      have hszo := hout.size
      by_cases hlt : k < n
      · obtain ⟨p, hp⟩ : ∃ p : Nat, q + (k : Int) = p := ⟨(q + (k : Int)).toNat, by omega⟩
        have hm := set_mix (svs (smt q n)) xs k _ (by rw [svs_len, smt_len]; exact hlt) (by rw [svs_len, smt_len]; exact hl.out) (smt_get q n k hlt)
        rw [hp, Int.toNat_natCast] at hm
        have HP := Lib.hid hp
        have HW := Lib.hid hown
        have HM := Lib.hid hm
        have IW := Lib.hid (show wrap64 ((p : Int) + 1) = (p : Int) + 1 from IntWalk.wrap64_in _ (by omega))
        clear hown HO hm
        rw [hp]
        clear hp
        go_wp2_with fail
        refine (markText_any (k := p) (by have := HP.out; omega) (by have := HP.out; omega)).mono ?_
        rintro e w5 ⟨rfl, hb5⟩
        have hown := ownsRow_new HW.out hb5
        obtain ⟨hst, hgs⟩ := hown.stored k (.string (mtx p))
        rw [HM.out] at hst
        have hcA := hown.cellAt k (by omega)
        obtain ⟨u0, hu0⟩ : ∃ u0, ((svs (smt q n)).take k ++ xs.drop k)[k]? = some u0 := by
          have : k < ((svs (smt q n)).take k ++ xs.drop k).length := by have := hown.1; omega
          exact ⟨_, List.getElem?_eq_getElem this⟩
        rw [hu0] at hcA
        have hfA := hown.frozenAt k
        have hout2 : Out lo hi w5 (w5.setCell ⟨g, k, none⟩ (.string (mtx p))) :=
          ⟨hgs.os, hgs.tape, hgs.output, hgs.size, fun b hb hne => hgs.block b hb (fun e => by injection e; omega)⟩
        have H1 := Lib.hid hst
        have H3 := Lib.hid hu0
        have H4 := Lib.hid ((hout.trans (Out.of_below hb5)).trans hout2)
        clear hst hu0 hown hgs hout hout2
        generalize mtx p = s at *
        go_wp2_with fail
        go_roundw
        case rel => exact ⟨k + 1, by omega, by go_num, by rw [IW.out, ← HP.out]; push_cast; rw [Int.add_assoc], H1.out, H4.out⟩
        case measure => simp [intOf]; omega
      · have e : k = n := by omega
        subst e
        have H4 := Lib.hid hown
        have H5 := Lib.hid hout
        clear hown hout HO
        go_wp2
        go_ret
        have ho := H4.out
        rw [List.take_of_length_le (by rw [svs_len, smt_len]; omega), List.drop_eq_nil_of_le (by rw [hl.out]; omega), List.append_nil] at ho
        refine ⟨rfl, ⟨?_, fun g' hg' => ?_⟩, H5.out⟩
        · rw [svs_len, smt_len]; exact ho
        · simp [Value.ownBlock] at hg'; omega
set_option maxHeartbeats 1600000 in
theorem heldStringS_any {w : World} {n c : Nat} {A : Option Addr} {q : Int} (hn : n ≤ 1000000) (h0 : 0 < q) (hq : q ≤ 1000000) (hr : Rd w w.heap.size A (svs (smt q n))) :
    Calls Try.prog 47 #[.slice A n c, .int .i64 q] w (fun e w' => e = .returned (.int .i64 (q + n)) ∧ Below w.heap.size w w') := by
  go_enter Try.func47, Try.ntmps47
  go_wp2
  go_loopw [1, 5] (fun m i wr => ∃ k : Nat, k ≤ n ∧ i = .int .i64 k ∧ m = .int .i64 (q + k) ∧ Below w.heap.size w wr) (fun _ i _ => n - (intOf i).toNat)
  case atStart => exact ⟨0, Nat.zero_le _, rfl, by simp, Below.refl _ _⟩
  case round =>
    obtain ⟨k, hk, rfl, rfl, hbw⟩ := hrel
    have hsz := hbw.size
    by_cases hlt : k < n
    · obtain ⟨ad, rfl, hab, hc⟩ := (hr.below hbw) k _ (smt_get q n k hlt)
      obtain ⟨p, hp⟩ : ∃ p : Nat, q + (k : Int) = p := ⟨(q + (k : Int)).toNat, by omega⟩
      rw [hp, Int.toNat_natCast] at hc
      have HP := Lib.hid hp
      have IW := Lib.hid (show wrap64 ((p : Int) + 1) = (p : Int) + 1 from IntWalk.wrap64_in _ (by omega))
      have i0 : (0 : Int) ≤ (k : Int) := by omega
      have hp0 : 0 < p := by omega
      have hp1 : p < 10000000000000000 := by omega
      have HP0 := Lib.hid hp0
      have HP1 := Lib.hid hp1
      rw [hp]
      clear hp hp0 hp1
      have hcB : ∀ w', Below wr.heap.size wr w' → w'.cell? (ad.add k) = some (.string (mtx p)) := fun w' h => (h.cell (p := ad.add k) (by rw [add_blk]; omega)).trans hc
      have HCB := Lib.hid hcB
      clear hcB
      obtain ⟨s, hs⟩ : ∃ s, s = mtx p := ⟨_, rfl⟩
      rw [← hs] at hc HCB
      have HMT := Lib.hid (fun (w' : World) => (markText_any (w := w') HP0.out HP1.out).mono (fun e w'' h => show e = .returned (.string s) ∧ Below w'.heap.size w' w'' from by rw [hs]; exact h))
      clear hs
      go_wp2_with fail
      go_region_held3 (fun w' => Below wr.heap.size wr w' ∧ w'.cell? (ad.add k) = some (.string s)) (first | exact ⟨Below.refl _ _, hc⟩ | exact ⟨(Below.refl _ _).drew, hc⟩ | assumption | exact ⟨k9, HCB.out _ k9⟩ | exact ⟨Below.drew k9, HCB.out _ (Below.drew k9)⟩ | exact ⟨Below.drew (‹Below wr.heap.size wr _ ∧ _›).1, HCB.out _ (Below.drew (‹Below wr.heap.size wr _ ∧ _›).1)⟩)
        (first | (go_at_call 79; refine (HMT.out _).mono ?_; rintro e u9 ⟨rfl, hb9⟩; have k9 := trans_new (‹Below wr.heap.size wr _ ∧ _›).1 hb9))
      go_wp2_with fail
      go_roundw
      case rel => exact ⟨k + 1, by omega, by go_num, by rw [IW.out, ← HP.out]; push_cast; rw [Int.add_assoc], hbw.trans (k9.mono hsz)⟩
      case measure => simp [intOf]; omega
    · have e : k = n := by omega
      subst e
      go_wp2
      go_ret
      exact ⟨rfl, hbw⟩
end Go.Proofs.Ytagbdgmhlichiaa
