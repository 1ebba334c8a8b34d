/- Contract of the model of Labels. No conditions but that the slices have at most 2^40 elements. -/
import Derived.Test.YtagbdgmhlichiaaGroundM
namespace Go.Proofs.Ytagbdgmhlichiaa
open Go.ChangeShapes Go.WideShapes Go.ChangeAt Go.RowKit
set_option maxRecDepth 100000
theorem StringS_info : (Try.prog.info? 9).map (fun i => (i.zero, i.size, i.bytes)) = some (some (.string ByteArray.empty), 1, 16) := by kernel_rfl
def svs (zs : List ByteArray) : List Value := zs.map Value.string
theorem svs_len (zs : List ByteArray) : (svs zs).length = zs.length := by simp [svs]
theorem svs_snoc (zs : List ByteArray) (x : ByteArray) : svs zs ++ [Value.string x] = svs (zs ++ [x]) := by simp [svs]
def lab (N : Int) (X : List (List Int)) (k : Nat) : ByteArray :=
  if (grd N X).contains (k : Int) then ⟨#[105, 110]⟩ else if (hit N X (grd N X)).contains (k : Int) then ⟨#[111, 117, 116]⟩ else ⟨#[111, 112, 101, 110]⟩
def labT (N : Int) (X : List (List Int)) (k : Nat) : List ByteArray := (List.range k).map (lab N X)
/-- The labels of a graph's claims. -/
def labs (N : Int) (X : List (List Int)) : List ByteArray := if gB N X then labT N X N.toNat else []
theorem labT_succ (N : Int) (X : List (List Int)) (k : Nat) : labT N X (k + 1) = labT N X k ++ [lab N X k] := by simp [labT, List.range_succ]
theorem labT_len (N : Int) (X : List (List Int)) (k : Nat) : (labT N X k).length = k := by simp [labT]
theorem grd_len (N : Int) (X : List (List Int)) : (grd N X).length ≤ 10 := it_len10 N X 10
/-- One element is appended: which block alone may turn, and which block the row then has. -/
theorem wpList_app2 {P : Program} {w : World} {ops : Array Oper} {rest : List Oper} {o : Oper} {a : Act} {Q : Exit → Act → World → Prop} (hgd : o.guard = none) (s x : Operand) (t : TypeId)
    (ho : o.op = .call { callee := .builtin .append, args := #[s, x], argTypes := #[t, t] })
    (e : TypeId) (i : TypeInfo) (z : Value) (bytes : Nat) (ht : P.underlying t = some (.slice e)) (hi : P.info? e = some i) (hz : i.zero = some z) (hsize : i.size = 1) (hby : i.bytes = bytes) (hzs : z.cells.size = 1)
    {lo hi' B m c : Nat} {v : Value} {xs news : List Value} {ad : Addr} (hs : a.eval s = v) (hx : a.eval x = .slice (some ad) m c) (hrow : Row w lo hi' e v xs) (hm : news.length = m) (hr : Rd w B (some ad) news) (h1 : ∀ u ∈ news, u.oneCell' = true)
    (h63 : xs.length + m ≤ maxLen) (hbytes : (xs.length + m) * bytes ≤ 140737488355328) (hlo : lo ≤ w.heap.size)
    (K : ∀ v' w', Row w' lo w'.heap.size e v' (xs ++ news) → w.heap.size ≤ w'.heap.size → Below lo w w' → (∀ b, b < w.heap.size → v.ownBlock ≠ some b → w'.heap[b]? = w.heap[b]?) → (∀ b, v'.ownBlock = some b → v.ownBlock = some b ∨ b = w.heap.size) → wpList P ops Q rest (a.put o.dst v') w') : wpList P ops Q (o :: rest) a w := by
  obtain ⟨v', w', hrun, h2, h3⟩ := run_app (P := P) t o.type e i z bytes ht hi hz hsize hby hzs (c := c) hrow hm hr h1 h63 hbytes hlo
  obtain ⟨v2, w2, hrun2, _, b2, _, b4⟩ := run_append_own_at (P := P) w lo t o.type e i z 1 bytes ht hi hz hsize hby hzs (by omega) v xs.length xs hrow.1 ad m c news (by omega) (fun j u hu => by
    obtain ⟨ad', e1, _, hc⟩ := hr j u hu
    injection e1 with e1
    subst e1
    exact hc) h1 h63 hbytes hlo
  rw [hrun] at hrun2
  injection hrun2 with e1 e2
  subst e1
  subst e2
  refine wpList_plain hgd fun K' hK' => ?_
  unfold Oper.wp
  simp [execOp, ho, resolve, invoke, builtin, hs, hx, hrun, Result.andThen]
  refine hK' _ _ (K v' w' h2 b2.size ?_ (fun b hb hv => b2.block b hb (fun e => hv e.symm)) (fun b hb => ?_))
  · exact (Below.refl lo w).grown b2 hlo (fun k hk => by
      rcases hrow.1.2 with ⟨rfl, _⟩ | ⟨g, cap, cur, rfl, hg, _⟩
      · simp [Value.ownBlock] at hk
      · have : g = k := by simpa [Value.ownBlock] using hk
        omega)
  · rcases b4 with b4 | b4
    · exact .inl (b4 ▸ hb)
    · rw [b4] at hb
      injection hb with hb
      exact .inr hb.symm
set_option maxHeartbeats 8000000 in
theorem specLabels_any {w : World} {A : Option Addr} {n c : Nat} {N : Int} {X : List (List Int)} (hl : Hid (X.length = n)) (hn : n ≤ 1099511627776) (hr : RdSS w w.heap.size A X) :
    Calls Try.prog 44 #[.agg #[.int .i64 N, .slice A n c]] w (Fresh 9 (svs (labs N X)) w) := by
  obtain ⟨ti, hti, hz0, hz1, hz2⟩ := info_parts StringS_info
  obtain ⟨Wa, hWa, bx0, hb1⟩ := one_graph w #[Value.int IntKind.i64 N, Value.slice A n c] 26
  have hsa : Wa.heap.size = w.heap.size + 1 := by rw [hWa]; simp
  have hb2 : Below w.heap.size w (Wa.alloc (Obj.cells #[] 9)) := hb1.alloc hb1.size _
  have hrow0 := (Row.made (w := Wa) (w.heap.size + 1) #[] 0 9 (by omega) rfl (Nat.zero_le _)).wide (hi' := (Wa.alloc (Obj.cells #[] 9)).heap.size) (Nat.le_refl _) (by simp)
  have bx1 := bx0.new ((Below.refl Wa.heap.size Wa).alloc (Nat.le_refl _) (Obj.cells #[] 9))
  obtain ⟨W1, hW⟩ : ∃ u : World, u = Wa.alloc (Obj.cells #[] 9) := ⟨_, rfl⟩
  rw [← hW] at hb2 hrow0 bx1
  rw [hsa] at hrow0
  have hWf : (w.alloc (Obj.cells #[Value.int IntKind.i64 N, Value.slice A n c] 26)).alloc (Obj.cells #[] 9) = W1 := by rw [hW, hWa]
  have hR1 := hr.below hb2
  obtain ⟨C0, C1⟩ := bx1.two
  have HGL := Lib.hid (grd_len N X)
  have HZ1 := Lib.hid (show W1.heap.size = w.heap.size + 2 by rw [← hWf]; simp)
  have HHL := Lib.hid (hit_len N X (grd N X))
  clear hW hWa hr bx0 hb1 hsa
  go_enter Try.func44, Try.ntmps44
  go_wp2_with fail
  try rw [hWf]
  clear hWf
  refine (specGrounded_any (N := N) (X := X) hl hn (hR1.more hb2.size)).mono ?_
  rintro e w2 ⟨v, rfl, hrowg, hb3⟩
  obtain ⟨Ag, cg, rfl, hrdg, _, _⟩ := hrowg.rd (n := (grd N X).length) (ivs_len _)
  have hb4 := hb2.trans (hb3.mono hb2.size)
  have bx2 := bx1.new hb3
  have hR2 := hR1.below (hb3.mono hb2.size)
  have hrow2 := (hrow0.new hb3).wide (Nat.le_refl _) hb3.size
  obtain ⟨D0, D1⟩ := bx2.two
  clear C0 C1 bx1 hR1 hrow0
  go_wp2_with fail
  refine (specHitBy_any (N := N) (X := X) (S := grd N X) hl hn (hR2.more hb4.size) (Lib.hid rfl) (by have := HGL.out; omega) hrdg).mono ?_
  rintro e w3 ⟨v, rfl, hrowh, hb5⟩
  obtain ⟨Ah, ch, rfl, hrdh, _, _⟩ := hrowh.rd (n := (hit N X (grd N X)).length) (ivs_len _)
  have hb6 := hb4.trans (hb5.mono hb4.size)
  have bx3 := bx2.new hb5
  have hR3 := hR2.below (hb5.mono hb4.size)
  have hrow3 := (hrow2.new hb5).wide (Nat.le_refl _) hb5.size
  have hG3 : Row w3 W1.heap.size w3.heap.size 3 _ _ := (hrowg.new hb5).wide (Nat.le_refl _) hb5.size
  have hH3 : Row w3 W1.heap.size w3.heap.size 3 _ _ := hrowh.wide hb3.size (Nat.le_refl _)
  have hM : W1.heap.size ≤ w3.heap.size := Nat.le_trans hb3.size hb5.size
  have hW1 := HZ1.out
  clear D0 D1 hrowg hrowh bx2 hR2 hrow2 hrdg hrdh
  go_wp2_with fail
  go_loopw [3, 6] (fun b i wr => ∃ k : Nat, k ≤ 10 ∧ i = .int .i64 k ∧ Row wr (w.heap.size + 1) wr.heap.size 9 b (svs (labT N X k)) ∧ Hid (∀ q, W1.heap.size ≤ q → q < w3.heap.size → b.ownBlock ≠ some q) ∧ Below w.heap.size w wr ∧ Bx wr w.heap.size 26 #[Value.int IntKind.i64 N, Value.slice A n c] ∧ RdSS wr w.heap.size A X ∧ Row wr W1.heap.size w3.heap.size 3 (.slice Ag (grd N X).length cg) (ivs (grd N X)) ∧ Row wr W1.heap.size w3.heap.size 3 (.slice Ah (hit N X (grd N X)).length ch) (ivs (hit N X (grd N X))) ∧ w3.heap.size ≤ wr.heap.size ∧ Hid (k = 0 ∨ ((k : Int) ≤ N ∧ gB N X = true))) (fun _ i _ => 10 - (intOf i).toNat)
  case atStart => exact ⟨0, by omega, rfl, hrow3, Lib.hid (fun q hq _ e => by simp [Value.ownBlock] at e; omega), hb6, bx3, hR3, hG3, hH3, Nat.le_refl _, Lib.hid (.inl rfl)⟩
  case round =>
    obtain ⟨k, hk, rfl, hrow, hub, hbw, bxk, hrk, hgk, hhk, hzk, hkN⟩ := hrel
    obtain ⟨C0, C1⟩ := bxk.two
    have hsz := hbw.size
    clear hG3 hH3 hrow3 bx3 hR3
    by_cases hkM : (k : Int) < N
    · go_wp2_with fail
      refine (specIsGraph_any (N := N) (X := X) (c := c) hl hn (hrk.more hsz)).mono ?_
      rintro e w5 ⟨rfl, r5⟩
      have hb7 := hbw.trans (r5.mono hsz)
      have bx5 := bxk.new r5
      have hr5 := hrk.below (r5.mono hsz)
      have hg5 := hgk.new r5
      have hh5 := hhk.new r5
      have hrow5 := (hrow.new r5).wide (Nat.le_refl _) r5.size
      have hz5 := r5.size
      obtain ⟨E0, E1⟩ := bx5.two
      clear C0 C1 hrow hgk hhk
      by_cases hgB : gB N X = true
      · have HK := Lib.hid (show k + 1 = 0 ∨ (((k + 1 : Nat) : Int) ≤ N ∧ gB N X = true) from .inr ⟨by omega, hgB⟩)
        have hk10 : k < 10 := by obtain ⟨m, rfl, _, _, _⟩ := gB_ok hgB; omega
        have HT := Lib.hid (labT_succ N X k)
        obtain ⟨ys, hys⟩ : ∃ ys, ys = labT N X k := ⟨_, rfl⟩
        have hyl : ys.length = k := by rw [hys]; exact labT_len N X k
        rw [← hys] at hrow5 HT
        rw [hgB]
        clear hgB hys
        have hS5 := hg5.rd'.more (show w3.heap.size ≤ w5.heap.size by omega)
        have hT5 := hh5.rd'.more (show w3.heap.size ≤ w5.heap.size by omega)
        by_cases h1 : (grd N X).contains (k : Int) = true
        · have HLB := Lib.hid (show lab N X k = ⟨#[105, 110]⟩ by unfold lab; rw [if_pos h1])
          have H1 := Lib.hid h1
          clear h1
          go_wp2_with fail
          refine (l4Has_any (S := grd N X) (a := k) (Lib.hid rfl) (by have := HGL.out; omega) hS5).mono ?_
          rintro e w8 ⟨rfl, rfl⟩
          rw [H1.out]
          have hbl : Below w5.heap.size w5 (w5.alloc (Obj.cells #[Value.string ⟨#[105, 110]⟩] 9)) := (Below.refl _ _).alloc (Nat.le_refl _) _
          have hrow6 := hrow5.new hbl
          have hmade := Rd.made w5 #[Value.string ⟨#[105, 110]⟩] 9
          have L : (svs ys).length + 1 ≤ maxLen ∧ ((svs ys).length + 1) * 16 ≤ 140737488355328 := by rw [svs_len]; unfold maxLen; omega
          have L1 := Lib.hid L
          have HBL := Lib.hid hbl
          clear L hbl
          go_wp2_with (at_builtin; refine wpList_app2 rfl (.tmp 30) (.tmp 31) 30 rfl 9 ti _ 16 Try.underlying30 hti hz0 hz1 hz2 rfl rfl rfl hrow6 rfl hmade (by simp [Value.oneCell']) L1.out.1 L1.out.2 (by simp; omega) ?_; intro v1 w1 hrow1 hsw1 hbw1 hkp1 hblk1)
          have hbl := HBL.out
          have hz51 : w5.heap.size + 1 ≤ w1.heap.size := by simpa using hsw1
          have hba : Below (w.heap.size + 1) w5 w1 := (hbl.mono (by omega)).trans hbw1
          have hnew : ∀ q, W1.heap.size ≤ q → q < w3.heap.size → w1.heap[q]? = w5.heap[q]? := fun q hq1 hq2 => (hkp1 q (by simp; omega) (hub.out q hq1 hq2)).trans (hbl.block q (by omega))
          go_roundw
          case rel => exact ⟨k + 1, by omega, by go_num, by rw [HT.out, HLB.out, ← svs_snoc]; exact hrow1, Lib.hid (fun q hq1 hq2 e => (hblk1 q e).elim (fun e => hub.out q hq1 hq2 e) (fun e => by simp at e; omega)), hb7.trans (hba.mono (Nat.le_succ _)), (hba.block _ (Nat.lt_succ_self _)).trans bx5, hr5.below (hba.mono (Nat.le_succ _)), hg5.keep (fun q h1 h2 _ => hnew q h1 h2), hh5.keep (fun q h1 h2 _ => hnew q h1 h2), by omega, HK⟩
          case measure => simp [intOf]; omega
        · have h1' : (grd N X).contains (k : Int) = false := by simpa using h1
          have H1 := Lib.hid h1'
          by_cases h2 : (hit N X (grd N X)).contains (k : Int) = true
          · have HLB := Lib.hid (show lab N X k = ⟨#[111, 117, 116]⟩ by unfold lab; rw [if_neg h1, if_pos h2])
            have H2 := Lib.hid h2
            clear h1 h1' h2
            go_wp2_with fail
            refine (l4Has_any (S := grd N X) (a := k) (Lib.hid rfl) (by have := HGL.out; omega) hS5).mono ?_
            rintro e w8 ⟨rfl, rfl⟩
            rw [H1.out]
            go_wp2_with fail
            refine (l4Has_any (S := hit N X (grd N X)) (a := k) (Lib.hid rfl) (by have := HHL.out; omega) hT5).mono ?_
            rintro e w8 ⟨rfl, rfl⟩
            rw [H2.out]
            have hbl : Below w5.heap.size w5 (w5.alloc (Obj.cells #[Value.string ⟨#[111, 117, 116]⟩] 9)) := (Below.refl _ _).alloc (Nat.le_refl _) _
            have hrow6 := hrow5.new hbl
            have hmade := Rd.made w5 #[Value.string ⟨#[111, 117, 116]⟩] 9
            have L : (svs ys).length + 1 ≤ maxLen ∧ ((svs ys).length + 1) * 16 ≤ 140737488355328 := by rw [svs_len]; unfold maxLen; omega
            have L1 := Lib.hid L
            have HBL := Lib.hid hbl
            clear L hbl
            go_wp2_with (at_builtin; refine wpList_app2 rfl (.tmp 37) (.tmp 38) 30 rfl 9 ti _ 16 Try.underlying30 hti hz0 hz1 hz2 rfl rfl rfl hrow6 rfl hmade (by simp [Value.oneCell']) L1.out.1 L1.out.2 (by simp; omega) ?_; intro v1 w1 hrow1 hsw1 hbw1 hkp1 hblk1)
            have hbl := HBL.out
            have hz51 : w5.heap.size + 1 ≤ w1.heap.size := by simpa using hsw1
            have hba : Below (w.heap.size + 1) w5 w1 := (hbl.mono (by omega)).trans hbw1
            have hnew : ∀ q, W1.heap.size ≤ q → q < w3.heap.size → w1.heap[q]? = w5.heap[q]? := fun q hq1 hq2 => (hkp1 q (by simp; omega) (hub.out q hq1 hq2)).trans (hbl.block q (by omega))
            go_roundw
            case rel => exact ⟨k + 1, by omega, by go_num, by rw [HT.out, HLB.out, ← svs_snoc]; exact hrow1, Lib.hid (fun q hq1 hq2 e => (hblk1 q e).elim (fun e => hub.out q hq1 hq2 e) (fun e => by simp at e; omega)), hb7.trans (hba.mono (Nat.le_succ _)), (hba.block _ (Nat.lt_succ_self _)).trans bx5, hr5.below (hba.mono (Nat.le_succ _)), hg5.keep (fun q h1 h2 _ => hnew q h1 h2), hh5.keep (fun q h1 h2 _ => hnew q h1 h2), by omega, HK⟩
            case measure => simp [intOf]; omega
          · have h2' : (hit N X (grd N X)).contains (k : Int) = false := by simpa using h2
            have HLB := Lib.hid (show lab N X k = ⟨#[111, 112, 101, 110]⟩ by unfold lab; rw [if_neg h1, if_neg h2])
            have H2 := Lib.hid h2'
            clear h1 h1' h2 h2'
            go_wp2_with fail
            refine (l4Has_any (S := grd N X) (a := k) (Lib.hid rfl) (by have := HGL.out; omega) hS5).mono ?_
            rintro e w8 ⟨rfl, rfl⟩
            rw [H1.out]
            go_wp2_with fail
            refine (l4Has_any (S := hit N X (grd N X)) (a := k) (Lib.hid rfl) (by have := HHL.out; omega) hT5).mono ?_
            rintro e w8 ⟨rfl, rfl⟩
            rw [H2.out]
            have hbl : Below w5.heap.size w5 (w5.alloc (Obj.cells #[Value.string ⟨#[111, 112, 101, 110]⟩] 9)) := (Below.refl _ _).alloc (Nat.le_refl _) _
            have hrow6 := hrow5.new hbl
            have hmade := Rd.made w5 #[Value.string ⟨#[111, 112, 101, 110]⟩] 9
            have L : (svs ys).length + 1 ≤ maxLen ∧ ((svs ys).length + 1) * 16 ≤ 140737488355328 := by rw [svs_len]; unfold maxLen; omega
            have L1 := Lib.hid L
            have HBL := Lib.hid hbl
            clear L hbl
            go_wp2_with (at_builtin; refine wpList_app2 rfl (.tmp 23) (.tmp 24) 30 rfl 9 ti _ 16 Try.underlying30 hti hz0 hz1 hz2 rfl rfl rfl hrow6 rfl hmade (by simp [Value.oneCell']) L1.out.1 L1.out.2 (by simp; omega) ?_; intro v1 w1 hrow1 hsw1 hbw1 hkp1 hblk1)
            have hbl := HBL.out
            have hz51 : w5.heap.size + 1 ≤ w1.heap.size := by simpa using hsw1
            have hba : Below (w.heap.size + 1) w5 w1 := (hbl.mono (by omega)).trans hbw1
            have hnew : ∀ q, W1.heap.size ≤ q → q < w3.heap.size → w1.heap[q]? = w5.heap[q]? := fun q hq1 hq2 => (hkp1 q (by simp; omega) (hub.out q hq1 hq2)).trans (hbl.block q (by omega))
            go_roundw
            case rel => exact ⟨k + 1, by omega, by go_num, by rw [HT.out, HLB.out, ← svs_snoc]; exact hrow1, Lib.hid (fun q hq1 hq2 e => (hblk1 q e).elim (fun e => hub.out q hq1 hq2 e) (fun e => by simp at e; omega)), hb7.trans (hba.mono (Nat.le_succ _)), (hba.block _ (Nat.lt_succ_self _)).trans bx5, hr5.below (hba.mono (Nat.le_succ _)), hg5.keep (fun q h1 h2 _ => hnew q h1 h2), hh5.keep (fun q h1 h2 _ => hnew q h1 h2), by omega, HK⟩
            case measure => simp [intOf]; omega
      · have hgB' : gB N X = false := by simpa using hgB
        have HD := Lib.hid (show labT N X k = labs N X by
          rcases hkN.out with rfl | ⟨_, h⟩
          · unfold labs; rw [if_neg hgB]; rfl
          · exact absurd h hgB)
        rw [hgB']
        clear hgB hgB'
        go_wp2_with fail
        go_ret
        exact ⟨_, rfl, by rw [← HD.out]; exact hrow5.wide (by omega) (Nat.le_refl _), hb7⟩
    · have HD := Lib.hid (show labT N X k = labs N X by
        unfold labs
        rcases hkN.out with rfl | ⟨h1, h2⟩
        · by_cases hg : gB N X = true
          · rw [if_pos hg, show N.toNat = 0 by omega]
          · rw [if_neg hg]; rfl
        · rw [if_pos h2, show N.toNat = k by omega])
      go_wp2_with fail
      go_ret
      exact ⟨_, rfl, by rw [← HD.out]; exact hrow.wide (by omega) (Nat.le_refl _), hbw⟩
end Go.Proofs.Ytagbdgmhlichiaa
