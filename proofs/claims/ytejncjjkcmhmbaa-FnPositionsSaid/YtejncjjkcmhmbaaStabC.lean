/- Contracts of the code's StableSets and of what it needs. Condition: the slices have at most 2^40 elements. -/
import Derived.Test.YtejncjjkcmhmbaaVisD
import Derived.Test.YtejncjjkcmhmbaaMg20
import Derived.Test.YtejncjjkcmhmbaaSets
namespace Go.Proofs.Ytejncjjkcmhmbaa
open Go.ChangeShapes Go.WideShapes Go.ChangeAt Go.RowKit
set_option maxRecDepth 100000
/-- A row of positions that grows since world W, begun in block q: of what W held, block q alone has turned. -/
structure PGr (W : World) (q : Nat) (f : Nat → Nat) (w : World) (v : Value) (hs : List Nat) : Prop where
  row : w.ownsRow q 98 2 v hs.length (psF f hs)
  own : ∀ g, v.ownBlock = some g → g = q ∨ W.heap.size ≤ g
  out : Out q (q + 1) W w
section
variable {W w w' : World} {q : Nat} {v : Value} {f : Nat → Nat} {hs : List Nat}
theorem PGr.new (h : PGr W q f w v hs) (hb : Below w.heap.size w w') : PGr W q f w' v hs := by
  refine ⟨⟨h.row.1, ?_⟩, h.own, h.out.trans (Out.of_below hb)⟩
  rcases h.row.2 with hn | ⟨g, cap, cur, e, hb', hgg, rest⟩
  · exact .inl hn
  · exact .inr ⟨g, cap, cur, e, hb', (hb.block g (Array.getElem?_eq_some_iff.1 hgg).1).trans hgg, rest⟩
theorem PGr.read (h : PGr W q f w v hs) : ∃ A c, v = .slice A hs.length c ∧ Rd w w.heap.size A (psF f hs) ∧ hs.length ≤ c := by
  rcases h.row.2 with ⟨rfl, hn⟩ | ⟨g, cap, cur, rfl, _, hgg, hnc, _, _, _⟩
  · have : hs = [] := List.eq_nil_of_length_eq_zero hn
    subst this
    exact ⟨none, 0, rfl, Rd.nil, Nat.le_refl _⟩
  · refine ⟨some ⟨g, 0, none⟩, cap, rfl, fun j u hu => ⟨_, rfl, (Array.getElem?_eq_some_iff.1 hgg).1, ?_⟩, hnc⟩
    exact h.row.cells (g := g) rfl j u hu
theorem PGr.start (f : Nat → Nat) (h : Bx W q 98 #[]) : PGr W q f W (.slice (some ⟨q, 0, none⟩) 0 0) [] :=
  ⟨⟨rfl, .inr ⟨_, 0, #[], rfl, Nat.le_refl _, h, Nat.le_refl _, Nat.zero_le _, rfl, rfl⟩⟩, fun g hg => by simp [Value.ownBlock] at hg; exact .inl hg.symm, Out.refl⟩
/-- What lies elsewhere is read on. -/
theorem PGr.rd {B : Nat} {A : Option Addr} {xs : List Value} (h : PGr W q f w v hs) (r : Rd W B A xs) (hB : B ≤ W.heap.size) (hq : xs ≠ [] → ∀ ad, A = some ad → ad.block ≠ q) : Rd w w.heap.size A xs := fun j u hu => by
  obtain ⟨ad, e, hb, hc⟩ := r j u hu
  have hne := hq (fun e2 => by rw [e2] at hu; simp at hu) ad e
  have hbl : (ad.add j).block = ad.block := add_blk _ _
  exact ⟨ad, e, Nat.lt_of_lt_of_le hb (Nat.le_trans hB h.out.size), (World.cell?_of_block (h.out.block _ (by rw [hbl]; omega) (by rw [hbl]; omega))).trans hc⟩
end
/-- Append's law for a row of positions. -/
theorem wpList_appP {w : World} {ops : Array Oper} {rest : List Oper} {o : Oper} {a : Act} {Q : Exit → Act → World → Prop} (hgd : o.guard = none) (s x : Operand)
    (ho : o.op = .call { callee := .builtin .append, args := #[s, x], argTypes := #[95, 95] })
    {W : World} {q g p : Nat} {f : Nat → Nat} {v : Value} {hs : List Nat} (h : PGr W q f w v hs) (hv : a.eval s = v) (hx : a.eval x = .slice (some ⟨g, 0, none⟩) 1 1) (hg : Bx w g 98 (psC p (hB f p 10))) (hlen : hs.length + 1 ≤ 4096) (hlo : q ≤ w.heap.size)
    (K : ∀ A' c' w', PGr W q f w' (.slice A' (hs.length + 1) c') (hs ++ [p]) → w.heap.size ≤ w'.heap.size → wpList Try.prog ops Q rest (a.put o.dst (.slice A' (hs.length + 1) c')) w') : wpList Try.prog ops Q (o :: rest) a w := by
  obtain ⟨i0, hi, hz0, hz1, hz2⟩ := info_parts PosS_info
  have hL : (psC p (hB f p 10)).toList.length = 1 * 2 := rfl
  obtain ⟨v', w', hrun, h2, h3, _, h5⟩ := run_append_own_at (P := Try.prog) w q 95 o.type 98 i0 _ 2 4 Try.underlying95 hi hz0 hz1 hz2 rfl (by omega) v hs.length _ h.row ⟨g, 0, none⟩ 1 1 (psC p (hB f p 10)).toList hL (fun j u hu => by
    have hadd : (⟨g, 0, none⟩ : Addr).add j = ⟨g, j, none⟩ := by unfold Addr.add; split <;> simp_all
    rw [hadd]
    exact hg.at_ (by simpa using hu)) (by simp [psC, Value.oneCell']) (by unfold maxLen; omega) (by omega) hlo
  have hs1 := h.out.size
  obtain ⟨A', c', rfl⟩ : ∃ A' c', v' = .slice A' (hs.length + 1) c' := by
    rcases h2.2 with ⟨e, e2⟩ | ⟨g, cap, cur, e, _⟩
    · omega
    · exact ⟨_, _, e⟩
  refine wpList_plain hgd fun K' hK' => ?_
  unfold Oper.wp
  simp [execOp, ho, resolve, invoke, builtin, hv, hx, hrun, Result.andThen]
  refine hK' _ _ (K A' c' w' ⟨?_, fun b hb => ?_, ⟨h3.os.trans h.out.os, h3.tape.trans h.out.tape, h3.output.trans h.out.output, Nat.le_trans hs1 h3.size, fun k hk hn => ?_⟩⟩ h3.size)
  · rw [psF_snoc, List.length_append]; exact h2
  · rcases h5 with h5 | h5
    · exact h.own b (h5 ▸ hb)
    · rw [h5] at hb; injection hb with hb; exact .inr (by omega)
  · refine (h3.block k (by omega) (fun e => ?_)).trans (h.out.block k hk hn)
    have := h.own k e.symm
    omega
/-- Whether a set's bits and what they attack are all claims. -/
def stB (n : Int) (f : Nat → Nat) (h : Nat) : Bool := (h ||| hB f h 10) == alB n
theorem allB_ok {N : Int} {X : List (List Int)} {x : Nat} (hx : x ∈ allB N X) : ∃ n : Nat, N = n ∧ n ≤ 10 ∧ gB n X = true ∧ x < 2 ^ n ∧ frB (rf n X) x = true ∧ compB n X (lsT x 10) = true := by
  unfold allB at hx
  split at hx
  · rename_i hg
    have hg0 := hg
    obtain ⟨n, rfl, hn, _, _⟩ := gB_ok hg
    rw [Int.toNat_natCast] at hx
    obtain ⟨h1, h2, h3⟩ := vsB_ok hx
    refine ⟨n, rfl, hn, hg0, h1, h2, ?_⟩
    rw [lsT_ten hn h1, comp_bits hg0 hn h1, h2, h3]; rfl
  · cases hx
theorem stab_bits {N : Int} {X : List (List Int)} {x : Nat} (hx : x ∈ allB N X) : stabB N X (lsT x 10) = stB (rn N X) (rf N X) x := by
  obtain ⟨n, rfl, hn, hg, hlt, hfr, hc⟩ := allB_ok hx
  have hfree : freeB n X (lsT x 10) = true := by unfold compB at hc; rw [Bool.and_eq_true] at hc; exact hc.1
  have h1 := stab_code hfree
  rw [bS_lsT (Nat.lt_of_lt_of_le hlt (show 2 ^ n ≤ 2 ^ 10 from Nat.pow_le_pow_right (by decide) hn))] at h1
  exact h1.symm
theorem stab_ls (N : Int) (X : List (List Int)) : lsB ((allB N X).filter (stB (rn N X) (rf N X))) = stabL N X := by
  unfold stabL
  rw [← allB_ls N X]
  unfold lsB
  rw [List.filter_map]
  congr 1
  exact List.filter_congr fun x hx => (stab_bits hx).symm
set_option maxHeartbeats 4000000 in
theorem impStableSets_any {w : World} {A : Option Addr} {n c : Nat} {N : Int} {X : List (List Int)} (hl : Hid (X.length = n)) (hn : n ≤ 1099511627776) (hr : RdSS w w.heap.size A X) :
    Calls Try.prog 31 #[.agg #[.int .i64 N, .slice A n c]] w (FreshSS (stabL N X) w) := by
  obtain ⟨W1, hW, bx1, hb1⟩ := one_graph w #[Value.int IntKind.i64 N, Value.slice A n c] 27
  have hs1 : W1.heap.size = w.heap.size + 1 := by rw [hW]; simp
  have HR := Lib.hid ((hr.below hb1).more hb1.size)
  have hW' := hW.symm
  obtain ⟨C0, C1⟩ := bx1.two
  clear hW hr
  go_enter Try.func31, Try.ntmps31
  go_wp2_with fail
  refine (rowsOf_any hl hn HR.out).mono ?_
  rintro e w2 ⟨rfl, hb2⟩
  have hb20 := hb1.trans (hb2.mono hb1.size)
  have bx2 := bx1.new hb2
  have HR2 := Lib.hid ((HR.out.below hb2).more hb2.size)
  obtain ⟨r0, r1⟩ := rn_le N X
  have HSL := Lib.hid (stab_ls N X)
  have HAL := Lib.hid (allB_len N X)
  have HLT := Lib.hid (allB_lt N X)
  clear C0 C1 hW'
  go_wp2_with fail
  refine (all_any (n := rn N X) (f := rf N X) r0 r1).mono ?_
  rintro e w3 ⟨rfl, hb3⟩
  have hb30 := hb20.trans (hb3.mono hb20.size)
  have bx3 := bx2.new hb3
  have HR3 := Lib.hid ((HR2.out.below hb3).more hb3.size)
  have hm4 := alloc_new w3 (Obj.cells #[] 98)
  have br4 := Bx.made w3 98 #[]
  have bx4 := bx3.new hm4
  have HR4 := Lib.hid ((HR3.out.below hm4).more hm4.size)
  have hb40 := hb30.trans (hm4.mono hb30.size)
  obtain ⟨W4, hW4⟩ : ∃ u, u = w3.alloc (Obj.cells #[] 98) := ⟨_, rfl⟩
  have hs4 : W4.heap.size = w3.heap.size + 1 := by rw [hW4]; simp
  rw [← hW4] at br4 bx4 HR4 hb40 hm4
  have hW4' := hW4.symm
  obtain ⟨C0, C1⟩ := bx4.two
  have hal := alB_lt r1
  clear hW4
  go_wp2_with fail
  refine (completePos_any hl hn HR4.out).mono ?_
  rintro e w5 ⟨A5, c5, rfl, hrd5, hlc5, hlo5, hb5⟩
  have hb50 := hb40.trans (hb5.mono hb40.size)
  have pr5 := PGr.start (rf N X) (br4.new hb5)
  have HLO := Lib.hid (show ∀ ad, A5 = some ad → ad.block ≠ w3.heap.size from fun ad e => by have := hlo5 ad e; omega)
  have hs5 := hb5.size
  have hfl := Lib.hid (rf_lt N X)
  obtain ⟨hs, hhs⟩ : ∃ hs, hs = allB N X := ⟨_, rfl⟩
  rw [← hhs] at hrd5 hlc5 HSL HAL HLT ⊢
  obtain ⟨f, hf⟩ : ∃ f, f = rf N X := ⟨_, rfl⟩
  obtain ⟨M, hM⟩ : ∃ M, M = rn N X := ⟨_, rfl⟩
  rw [← hf, ← hM] at HSL
  rw [← hf] at hrd5 pr5 hfl
  rw [← hM] at hal ⊢
  obtain ⟨L, hL⟩ : ∃ L, L = hs.length := ⟨_, rfl⟩
  rw [← hL] at hlc5 HAL ⊢
  have hL1 := HAL.out
  have HLL := Lib.hid hL
  clear hhs hf hM hL C0 C1 hW4' bx1 bx2 bx3 hb2 hb3 hb1 br4 hlo5
  go_wp2_with fail
  go_loopw [4, 14] (fun s i wr => ∃ k : Nat, k ≤ L ∧ i = .int .i64 k ∧ PGr w5 w3.heap.size f wr s ((hs.take k).filter (stB M f))) (fun _ i _ => L - (intOf i).toNat)
  case atStart => exact ⟨0, Nat.zero_le _, rfl, pr5⟩
  case round =>
    obtain ⟨k, hk, rfl, hpr⟩ := hrel
    have hsz := hpr.out.size
    by_cases hlt : k < L
    · have hkz : k < hs.length := by rw [← HLL.out]; exact hlt
      obtain ⟨ad, rfl, hab, ha, hb⟩ := ps_rd (hpr.rd hrd5 (Nat.le_refl _) (fun _ => HLO.out)) hkz
      have hxl := HLT.out hs[k] (List.getElem_mem _)
      have HT := Lib.hid (List.take_succ_eq_append_getElem hkz)
      obtain ⟨x, hx⟩ : ∃ x, x = hs[k] := ⟨_, rfl⟩
      rw [← hx] at ha hb hxl HT
      obtain ⟨Y, hY⟩ : ∃ Y, Y = (hs.take k).filter (stB M f) := ⟨_, rfl⟩
      have hYl : Y.length ≤ k := by rw [hY]; exact Nat.le_trans (List.length_filter_le _ _) (by simp; omega)
      rw [← hY] at hpr
      have k0 : (0 : Int) ≤ (k : Int) := by omega
      have hgl := hB_lt hfl.out x 10
      have HO := Lib.hid (show (bits .or .u16 (x : Int) (hB f x 10 : Int) == ((alB M : Nat) : Int)) = stB M f x by rw [u16_or_nat _ _ hxl hgl, u16_beq]; rfl)
      have hba := alloc_new wr (Obj.cells (psC x (hB f x 10)) 98)
      have bp := Bx.made wr 98 (psC x (hB f x 10))
      have hpr2 := hpr.new hba
      obtain ⟨W6, hW6⟩ : ∃ u, u = wr.alloc (Obj.cells (psC x (hB f x 10)) 98) := ⟨_, rfl⟩
      have hs6 : W6.heap.size = wr.heap.size + 1 := by rw [hW6]; simp
      rw [← hW6] at hba bp hpr2
      have hW6' := hW6.symm
      unfold psC at hW6'
      obtain ⟨D0, D1⟩ := bp.two
      obtain ⟨bo, hbo⟩ : ∃ b, b = stB M f x := ⟨_, rfl⟩
      have HFI := Lib.hid (show (hs.take (k + 1)).filter (stB M f) = Y ++ if bo then [x] else [] by rw [HT.out, List.filter_append, ← hY, hbo]; simp [List.filter_cons])
      have HOO := Lib.hid (HO.out.trans hbo.symm)
      clear hW6 hx hY hbo HO
      cases bo with
      | false =>
        have hoo := HOO.out
        go_wp2_with fail
        go_roundw
        case rel => exact ⟨k + 1, by omega, by go_num, by rw [HFI.out]; simp only [Bool.false_eq_true, if_false, List.append_nil]; exact hpr2⟩
        case measure => simp [intOf]; omega
      | true =>
        have hoo := HOO.out
        have hm7 := alloc_new W6 (Obj.cells (psC x (hB f x 10)) 98)
        have bm7 := Bx.made W6 98 (psC x (hB f x 10))
        have hpr7 := hpr2.new hm7
        rw [hs6] at bm7
        unfold psC at bm7 hpr7 hm7 bp
        go_wp2_with (first | (refine ldPS rfl (.tmp 6) rfl bp rfl rfl ?_) | (at_builtin; refine wpList_appP (p := x) rfl (.tmp 25) (.tmp 27) rfl hpr7 rfl rfl bm7 (by omega) (by simp; omega) ?_; intro A9 c9 w9 hpr9 hz9))
        go_roundw
        case rel => exact ⟨k + 1, by omega, by go_num, by rw [HFI.out]; exact hpr9⟩
        case measure => simp [intOf]; omega
    · have e : k = L := by omega
      subst e
      have HFE := Lib.hid (show (hs.take k).filter (stB M f) = hs.filter (stB M f) by rw [List.take_of_length_le (by rw [← HLL.out]; exact Nat.le_refl _)])
      rw [HFE.out] at hpr
      obtain ⟨A9, c9, rfl, hrd9, _⟩ := hpr.read
      have hb9 : Below w.heap.size w wr := hb50.trans (hpr.out.below (by have := hb30.size; omega) (by have := hb50.size; omega))
      go_wp2_with fail
      refine (heldIn_any (hs := hs.filter (stB M f)) (Lib.hid rfl) (by have := List.length_filter_le (stB M f) hs; have := HLL.out; omega) (Lib.hid (fun h hh => HLT.out h (List.mem_filter.1 hh).1)) hrd9).mono ?_
      rintro e w10 ⟨v, rfl, hov, hb10⟩
      rw [HSL.out] at hov
      have hs9 := hb9.size
      go_wp2_with fail
      go_ret
      exact ⟨v, rfl, hov.wide hs9 (Nat.le_refl _), hb9.trans (hb10.mono hs9)⟩
end Go.Proofs.Ytejncjjkcmhmbaa
