/- Contract of the model Raise (chapter 13). Condition: the points have at most 10^12 elements. -/
import Derived.Test.YtignchefkihdaaaRaiMath
import Derived.Test.YtignchefkihdaaaPntM
import Derived.Test.YtignchefkihdaaaPointB
import Derived.Test.YtignchefkihdaaaDraw3
import Derived.Deep.RegionLaw
namespace Go.Proofs.Ytignchefkihdaaa
open Go.ChangeShapes Go.WideShapes Go.ChangeAt Go.RowKit
set_option maxRecDepth 100000
theorem stp_app3 {P : Program} {w : World} {ops : Array Oper} {o : Oper} {a : Act} {Q : Exit → Act → World → Prop} {K : Act → World → Prop} {E : Prop} (hgd : o.guard = none) (s x : Operand) (t : TypeId)
    (ho : o.op = .call { callee := .builtin .append, args := #[s, x], argTypes := #[t, t] })
    (e : TypeId) (i : TypeInfo) (z : Value) (bytes : Nat) (ht : P.underlying t = some (.slice e)) (hi : P.info? e = some i) (hz : i.zero = some z) (hsize : i.size = 3) (hby : i.bytes = bytes) (hzs : z.cells.size = 3)
    {lo hi' B m c : Nat} {v : Value} {X Y : List T3} {A : Option Addr} (hs : a.eval s = v) (hx : a.eval x = .slice A m c) (hrow : Row3 w lo hi' e v X) (hm : Y.length = m) (hr : Rd w B A (t3s Y))
    (h63 : X.length + m ≤ maxLen) (hbytes : (X.length + m) * bytes ≤ 140737488355328) (hlo : lo ≤ w.heap.size)
    (hK : ∀ v' w', Row3 w' lo w'.heap.size e v' (X ++ Y) → Out lo hi' w w' → K (a.put o.dst v') w') : if Region.wanted o (yielded ops a.tmps) = true then Oper.wp P o a w K Q else E := by
  obtain ⟨v', w', hrun, h2, h3⟩ := run_app3 (P := P) t o.type e i z bytes ht hi hz hsize hby hzs (c := c) hrow hm hr h63 hbytes hlo
  have hw : Region.wanted o (yielded ops a.tmps) = true := by simp [Region.wanted, hgd]
  rw [if_pos hw]
  unfold Oper.wp
  simp [execOp, ho, resolve, invoke, builtin, hs, hx, hrun, Result.andThen]
  exact hK v' w' h2 h3
theorem Rd.keep' {w w' : World} {lo hi g : Nat} {xs : List Value} (h : Rd w (g + 1) (some ⟨g, 0, none⟩) xs) (o : Out lo hi w w') (hg : hi ≤ g ∧ g < w.heap.size) : Rd w' (g + 1) (some ⟨g, 0, none⟩) xs := fun j u hu => by
  obtain ⟨ad, e, hb, hc⟩ := h j u hu
  injection e with e
  subst e
  exact ⟨_, rfl, hb, (World.cell?_of_block (o.block _ (by rw [add_blk]; exact hg.2) (.inr (by rw [add_blk]; exact hg.1)))).trans hc⟩
/-- A list and whether it was taken. -/
def GivesL (w : World) (X : List T3) (b : Bool) (e : Ending) (w' : World) : Prop := ∃ v, e = .returned (.tuple #[v, .bool b]) ∧ Row3 w' w.heap.size w'.heap.size 48 v X ∧ Below w.heap.size w w'
theorem raiL_no {X : List T3} {k s : Int} (h : ptB (raiX X k s) = false) : raiL X k s = X := by unfold raiL; rw [h]; rfl
theorem raiL_yes {X : List T3} {k s : Int} (h : ptB (raiX X k s) = true) : raiL X k s = raiX X k s := by unfold raiL; rw [if_pos h]
theorem raiK_at {X : List T3} {k : Int} {p : Nat} (h1 : ∀ i, i < p → (X.getD i (0, 0, 0)).1 < k) (hp : p ≤ X.length) (h2 : p < X.length → ¬ (X.getD p (0, 0, 0)).1 < k) : raiK X k = p := by
  unfold raiK
  refine tw_len _ X p hp (fun i h hi => ?_) (fun h => ?_)
  · have := h1 i hi
    rw [getT h] at this
    exact decide_eq_true this
  · have := h2 h
    rw [getT h] at this
    exact decide_eq_false this
set_option maxHeartbeats 8000000 in
theorem specRaise_any {w : World} {A : Option Addr} {n c : Nat} {k s : Int} {X : List T3} (hl : Hid (X.length = n)) (hn : n ≤ 1000000000000) (hc : n ≤ c) (hr : Rd w w.heap.size A (t3s X)) :
    Calls Try.prog 55 #[.slice A n c, .int .i64 k, .int .i64 s] w (GivesL w (raiL X k s) (ptB (raiX X k s))) := by
  obtain ⟨i0, hi, hz0, hz1, hz2⟩ := info_parts PointS_info
  have zz : ∀ w, (Go.sizeOf 48).run Try.prog w = .ok 3 w := fun w => by simp [sizeOf, typeInfo, hi, hz1]
  have HR := Lib.hid hr
  have HLC := Lib.hid (show X.length ≤ c by rw [hl.out]; exact hc)
  clear hr
  go_enter Try.func55, Try.ntmps55
  go_wp2_with fail
  go_loopw [8] (fun i wr => ∃ p : Nat, p ≤ n ∧ i = .int .i64 p ∧ wr = w ∧ Hid (∀ i, i < p → (X.getD i (0, 0, 0)).1 < k)) (fun i _ => n - (intOf i).toNat)
  case atStart => exact ⟨0, Nat.zero_le _, rfl, rfl, Lib.hid (fun i h => absurd h (by omega))⟩
  case round =>
    obtain ⟨p, hp, rfl, rfl, hlo⟩ := hrel
    have i0' : (0 : Int) ≤ (p : Int) := by omega
    by_cases hgo : p < n ∧ (X.getD p (0, 0, 0)).1 < k
    · obtain ⟨hlt, hx1⟩ := hgo
      have hkz : p < X.length := by rw [hl.out]; exact hlt
      rw [getT hkz] at hx1
      have HS := Lib.hid (show ∀ i, i < p + 1 → (X.getD i (0, 0, 0)).1 < k from fun i hi => by
        by_cases e : i = p
        · subst e; rw [getT hkz]; exact hx1
        · exact hlo.out i (by omega))
      have HRR := HR.out
      obtain ⟨ad, q, rfl, hq, hab, c0, c1, c2⟩ := t3_cells HRR hkz
      obtain ⟨x, hx⟩ : ∃ x, x = X[p] := ⟨_, rfl⟩
      rw [← hx] at c0 c1 c2 hx1
      have i1 : (p : Int) < (n : Int) := by omega
      clear hx HRR
      go_wp2_with fail
      go_roundw
      case rel => exact ⟨p + 1, by omega, by go_num, by first | rfl | trivial, HS⟩
      case measure => simp [intOf]; omega
    · have HK := Lib.hid (show raiK X k = p from raiK_at hlo.out (by rw [hl.out]; exact hp) (fun h1 h2 => hgo ⟨by rw [← hl.out]; exact h1, h2⟩))
      -- the ways into what follows the loop
      have HGO := Lib.hid hgo
      clear hgo hlo
      by_cases hlt : p < n
      · have hkz : p < X.length := by rw [hl.out]; exact hlt
        have hx1 : ¬ X[p].1 < k := by have := HGO.out; rw [getT hkz] at this; exact fun h => this ⟨hlt, h⟩
        have HRR := HR.out
        obtain ⟨ad, q, rfl, hq, hab, c0, c1, c2⟩ := t3_cells HRR hkz
        obtain ⟨x, hx⟩ : ∃ x, x = X[p] := ⟨_, rfl⟩
        rw [← hx] at c0 c1 c2 hx1
        have i1 : (p : Int) < (n : Int) := by omega
        have hsl1 := fun W => run_to3 (P := Try.prog) W 35 48 Try.underlying35 zz (some ad) (n := n) (c := c) (k := p) (by omega)
        have hsl2 := fun W => run_from3 (P := Try.prog) W 35 48 Try.underlying35 zz (some ad) (n := n) (c := c) (k := p) hp hc
        clear hx HRR
        -- BEHIND
        go_wp2_with fail
        have HX1 := Lib.hid (show raiX X k s = X.take p ++ [(k, s, 0)] ++ X.drop p by unfold raiX; rw [HK.out])
        have HTT := Lib.hid (show Rd wr wr.heap.size (some ad) (t3s (X.take p)) from HR.out.hd3)
        have HDD := Lib.hid (show Rd wr wr.heap.size (tlA3 (some ad) p c) (t3s (X.drop p)) from HR.out.tl3 HLC.out)
        obtain ⟨TA, hTA⟩ : ∃ a, tlA3 (some ad) p c = a := ⟨_, rfl⟩
        rw [hTA] at HDD hsl2
        have HTl := Lib.hid (show (X.take p).length = p by rw [List.length_take, hl.out]; exact Nat.min_eq_left hp)
        have HDl := Lib.hid (show (X.drop p).length = n - p by (rw [List.length_drop, hl.out]))
        obtain ⟨T, hT⟩ : ∃ a, X.take p = a := ⟨_, rfl⟩
        obtain ⟨D, hD⟩ : ∃ a, X.drop p = a := ⟨_, rfl⟩
        rw [hT] at HTT HTl HX1
        rw [hD] at HDD HDl HX1
        obtain ⟨N1, hN1⟩ : ∃ a, (raiX X k s).length = a := ⟨_, rfl⟩
        have hN1b : N1 ≤ 1000000000001 := by rw [← hN1, rai_len, hl.out]; omega
        have HN1 := Lib.hid hN1
        clear hN1
        have L1 := Lib.hid (show ([] : List T3).length + p ≤ maxLen ∧ (([] : List T3).length + p) * 24 ≤ 140737488355328 by unfold maxLen; simp; omega)
        have L2 := Lib.hid (show ([] ++ T).length + 1 ≤ maxLen ∧ (([] ++ T).length + 1) * 24 ≤ 140737488355328 by rw [List.nil_append, HTl.out]; unfold maxLen; omega)
        have L3 := Lib.hid (show ([] ++ T ++ [(k, s, 0)]).length + (n - p) ≤ maxLen ∧ (([] ++ T ++ [(k, s, 0)]).length + (n - p)) * 24 ≤ 140737488355328 by rw [List.nil_append, List.length_append, HTl.out]; unfold maxLen; simp; omega)
        have L4 := Lib.hid (show ([] : List T3).length + n ≤ maxLen ∧ (([] : List T3).length + n) * 24 ≤ 140737488355328 by unfold maxLen; simp; omega)
        -- the worlds ahead of the first append
        have ba : Below wr.heap.size wr (wr.alloc (Obj.cells #[] 48)).drew := (alloc_new' wr _).drew
        have ra : Row3 (wr.alloc (Obj.cells #[] 48)).drew wr.heap.size (wr.heap.size + 1) 48 (.slice (some ⟨wr.heap.size, 0, none⟩) 0 0) [] := Row3.made (w := wr) wr.heap.size #[] 0 (Nat.le_refl _) rfl rfl (Nat.zero_le _)
        obtain ⟨Wa, hWa⟩ : ∃ W : World, (wr.alloc (Obj.cells #[] 48)).drew = W := ⟨_, rfl⟩
        rw [hWa] at ba ra
        have bb : Below wr.heap.size wr ((wr.alloc (Obj.cells #[] 48)).alloc (Obj.cells #[.int .i64 k, .int .i64 s, .int .i64 0] 48)).drew := ((alloc_new' wr _).alloc (by simp) _).drew
        have rb : Row3 ((wr.alloc (Obj.cells #[] 48)).alloc (Obj.cells #[.int .i64 k, .int .i64 s, .int .i64 0] 48)).drew wr.heap.size (wr.heap.size + 1) 48 (.slice (some ⟨wr.heap.size, 0, none⟩) 0 0) [] := (Row3.made (w := wr) wr.heap.size #[] 0 (Nat.le_refl _) rfl rfl (Nat.zero_le _)).new ((alloc_new' _ _).drew)
        have vb : Rd ((wr.alloc (Obj.cells #[] 48)).alloc (Obj.cells #[.int .i64 k, .int .i64 s, .int .i64 0] 48)).drew (wr.heap.size + 1 + 1) (some ⟨wr.heap.size + 1, 0, none⟩) (t3s [(k, s, 0)]) := by
          have q := Rd.made (wr.alloc (Obj.cells #[] 48)) #[.int .i64 k, .int .i64 s, .int .i64 0] 48
          rw [World.size_alloc] at q
          exact q
        obtain ⟨Wb, hWb⟩ : ∃ W : World, ((wr.alloc (Obj.cells #[] 48)).alloc (Obj.cells #[.int .i64 k, .int .i64 s, .int .i64 0] 48)).drew = W := ⟨_, rfl⟩
        rw [hWb] at bb rb vb
        have sb : Wb.heap.size = wr.heap.size + 1 + 1 := by rw [← hWb]; simp [World.drew]
        have bc : Below wr.heap.size wr ((wr.alloc (Obj.cells #[.int .i64 k, .int .i64 s, .int .i64 0] 48)).alloc (Obj.cells #[] 48)).drew := ((alloc_new' wr _).alloc (by simp) _).drew
        have rc : Row3 ((wr.alloc (Obj.cells #[.int .i64 k, .int .i64 s, .int .i64 0] 48)).alloc (Obj.cells #[] 48)).drew (wr.heap.size + 1) (wr.heap.size + 1 + 1) 48 (.slice (some ⟨wr.heap.size + 1, 0, none⟩) 0 0) [] := by
          have q := Row3.made (w := wr.alloc (Obj.cells #[.int .i64 k, .int .i64 s, .int .i64 0] 48)) (t := 48) (wr.heap.size + 1) #[] 0 (X := []) (by simp) rfl rfl (Nat.zero_le _)
          rw [World.size_alloc] at q
          exact q
        have vc : Rd ((wr.alloc (Obj.cells #[.int .i64 k, .int .i64 s, .int .i64 0] 48)).alloc (Obj.cells #[] 48)).drew (wr.heap.size + 1) (some ⟨wr.heap.size, 0, none⟩) (t3s [(k, s, 0)]) := (Rd.made wr #[.int .i64 k, .int .i64 s, .int .i64 0] 48).keep (fun j hj => ((alloc_new' (wr.alloc (Obj.cells #[.int .i64 k, .int .i64 s, .int .i64 0] 48)) (Obj.cells #[] 48)).drew).block j (by simpa using hj))
        obtain ⟨Wc, hWc⟩ : ∃ W : World, ((wr.alloc (Obj.cells #[.int .i64 k, .int .i64 s, .int .i64 0] 48)).alloc (Obj.cells #[] 48)).drew = W := ⟨_, rfl⟩
        rw [hWc] at bc rc vc
        have sc : Wc.heap.size = wr.heap.size + 1 + 1 := by rw [← hWc]; simp [World.drew]
        have sa : Wa.heap.size = wr.heap.size + 1 := by rw [← hWa]; simp [World.drew]
        have HA := Lib.hid (And.intro ra (And.intro ba sa))
        have HB := Lib.hid (And.intro rb (And.intro bb (And.intro vb sb)))
        have HC := Lib.hid (And.intro rc (And.intro bc (And.intro vc sc)))
        have HWa := Lib.hid hWa
        have HWb := Lib.hid hWb
        have HWc := Lib.hid hWc
        clear hWa hWb hWc ra ba sa rb bb vb sb rc bc vc sc hTA hT hD
        go_region_law (first
          | (rw [HWa.out]; refine stp_app3 (m := p) rfl (.tmp 25) (.tmp 28) 35 rfl 48 i0 _ 24 Try.underlying35 hi hz0 hz1 hz2 rfl rfl rfl HA.out.1 HTl.out (HTT.out.below HA.out.2.1) L1.out.1 L1.out.2 (by have := HA.out.2.2; omega) ?_; intro v1 w1 hrow1 ho1; have b1 := HA.out.2.1.trans (ho1.below (Nat.le_refl _) (by have := HA.out.2.2; omega)); have RV1 := Lib.hid ((hrow1.new (alloc_new' w1 (Obj.cells #[.int .i64 k, .int .i64 s, .int .i64 0] 48))).wide (Nat.le_refl _) (alloc_new' w1 (Obj.cells #[.int .i64 k, .int .i64 s, .int .i64 0] 48)).size); have MV1 := Lib.hid (show Rd _ _ _ (t3s [(k, s, 0)]) from Rd.made w1 #[.int .i64 k, .int .i64 s, .int .i64 0] 48); have sz1 := b1.size)
          | (rw [HWb.out]; refine stp_app3 (m := p) rfl (.tmp 25) (.tmp 28) 35 rfl 48 i0 _ 24 Try.underlying35 hi hz0 hz1 hz2 rfl rfl rfl HB.out.1 HTl.out (HTT.out.below HB.out.2.1) L1.out.1 L1.out.2 (by have := HB.out.2.2.2; omega) ?_; intro v1 w1 hrow1 ho1; have b1 := HB.out.2.1.trans (ho1.below (Nat.le_refl _) (by have := HB.out.2.2.2; omega)); have RW1 := Lib.hid hrow1; have MW1 := Lib.hid (HB.out.2.2.1.keep' ho1 (by have := HB.out.2.2.2; omega)); have sz1 := b1.size)
          | (rw [HWc.out]; refine stp_app3 (m := p) rfl (.tmp 25) (.tmp 28) 35 rfl 48 i0 _ 24 Try.underlying35 hi hz0 hz1 hz2 rfl rfl rfl HC.out.1 HTl.out (HTT.out.below HC.out.2.1) L1.out.1 L1.out.2 (by have := HC.out.2.2.2; omega) ?_; intro v1 w1 hrow1 ho1; have b1 := HC.out.2.1.trans (ho1.below (by omega) (by have := HC.out.2.2.2; omega)); have RW1 := Lib.hid (hrow1.wide (Nat.le_succ _) (Nat.le_refl _)); have MW1 := Lib.hid (HC.out.2.2.1.out ho1 (Nat.le_refl _) (by have := HC.out.2.2.2; omega)); have sz1 := b1.size)
          | (refine stp_app3 (m := 1) rfl (.tmp 29) (.tmp 33) 35 rfl 48 i0 _ 24 Try.underlying35 hi hz0 hz1 hz2 rfl rfl rfl RV1.out rfl MV1.out L2.out.1 L2.out.2 (by simp; omega) ?_; intro v2 w2 hrow2 ho2; have b2 := b1.trans (((alloc_new' w1 (Obj.cells #[.int .i64 k, .int .i64 s, .int .i64 0] 48)).mono sz1).trans (ho2.below (Nat.le_refl _) (by simp; omega))); have sz2 := b2.size)
          | (refine stp_app3 (m := 1) rfl (.tmp 29) (.tmp 33) 35 rfl 48 i0 _ 24 Try.underlying35 hi hz0 hz1 hz2 rfl rfl rfl RW1.out rfl MW1.out L2.out.1 L2.out.2 sz1 ?_; intro v2 w2 hrow2 ho2; have b2 := b1.trans (ho2.below (Nat.le_refl _) sz1); have sz2 := b2.size)
          | (refine stp_app3 (m := n - p) rfl (.tmp 34) (.tmp 37) 35 rfl 48 i0 _ 24 Try.underlying35 hi hz0 hz1 hz2 rfl rfl rfl hrow2 HDl.out (HDD.out.below b2) L3.out.1 L3.out.2 sz2 ?_; intro v3 w3 hrow3 ho3; have b3 := b2.trans (ho3.below (Nat.le_refl _) sz2)))
        all_goals
          have hXX : ([] : List T3) ++ T ++ [(k, s, 0)] ++ D = raiX X k s := by rw [HX1.out]; rfl
          rw [hXX] at hrow3
          obtain ⟨A3, c3, rfl, hrd3, _, _⟩ := hrow3.rd (n := N1) HN1.out
          have HROW3 := Lib.hid hrow3
          have HRD3 := Lib.hid hrd3
          have HB3 := Lib.hid b3
          have sz3 := b3.size
          clear hXX hrow3 hrd3 b3
          cases hb : ptB (raiX X k s) with
          | false =>
            have HPB := Lib.hid hb
            have HV := Lib.hid (raiL_no hb)
            clear hb
            go_wp2_with fail
            refine (specArePoints_any (X := raiX X k s) HN1 (by omega) HRD3.out).mono ?_
            rintro e u ⟨rfl, r⟩
            rw [HPB.out]
            have hbu := HB3.out.trans (r.mono sz3)
            have szu := hbu.size
            have be := alloc_new' u (Obj.cells #[] 48)
            have HRE := Lib.hid (show Row3 (u.alloc (Obj.cells #[] 48)) wr.heap.size (u.heap.size + 1) 48 (.slice (some ⟨u.heap.size, 0, none⟩) 0 0) [] from Row3.made (w := u) wr.heap.size #[] 0 szu rfl rfl (Nat.zero_le _))
            have HRX := Lib.hid ((HR.out.below hbu).below (be.mono szu))
            have HBU := Lib.hid (hbu.trans (be.mono szu))
            clear be hbu r
            go_wp2_with (at_builtin; refine wpList_app3 rfl (.tmp 42) (.tmp 43) 35 rfl 48 i0 _ 24 Try.underlying35 hi hz0 hz1 hz2 rfl rfl rfl HRE.out hl.out HRX.out L4.out.1 L4.out.2 (by simp; omega) ?_; intro v9 w9 hrow9 ho9; rw [List.nil_append] at hrow9; obtain ⟨A9, c9, rfl, _, _, _⟩ := hrow9.rd (n := n) hl.out)
            refine bodyPost_ret (v := .tuple #[.slice A9 n c9, .bool false]) (by simp [results, Try.results55, go_sem]) rfl ?_
            exact ⟨_, by rw [HPB.out], by rw [HV.out]; exact hrow9, HBU.out.trans (ho9.below (Nat.le_refl _) (by simp; omega))⟩
          | true =>
            have HPB := Lib.hid hb
            have HV := Lib.hid (raiL_yes hb)
            clear hb
            go_wp2_with fail
            refine (specArePoints_any (X := raiX X k s) HN1 (by omega) HRD3.out).mono ?_
            rintro e u ⟨rfl, r⟩
            rw [HPB.out]
            have HBU := Lib.hid (HB3.out.trans (r.mono sz3))
            have HRU := Lib.hid ((HROW3.out.new r).wide (Nat.le_refl _) r.size)
            clear r
            go_wp2_with fail
            refine bodyPost_ret (v := .tuple #[.slice A3 N1 c3, .bool true]) (by simp [results, Try.results55, go_sem]) rfl ?_
            exact ⟨_, by rw [HPB.out], by rw [HV.out]; exact HRU.out, HBU.out⟩
      · have e : p = n := by omega
        subst e
        have i1 : ¬ (p : Int) < (p : Int) := by omega
        have hsl1 := fun W => run_to3 (P := Try.prog) W 35 48 Try.underlying35 zz A (n := p) (c := c) (k := p) (by omega)
        have hsl2 := fun W => run_from3 (P := Try.prog) W 35 48 Try.underlying35 zz A (n := p) (c := c) (k := p) hp hc
        go_wp2_with fail
        have HX1 := Lib.hid (show raiX X k s = X.take p ++ [(k, s, 0)] ++ X.drop p by unfold raiX; rw [HK.out])
        have HTT := Lib.hid (show Rd wr wr.heap.size (A) (t3s (X.take p)) from HR.out.hd3)
        have HDD := Lib.hid (show Rd wr wr.heap.size (tlA3 (A) p c) (t3s (X.drop p)) from HR.out.tl3 HLC.out)
        obtain ⟨TA, hTA⟩ : ∃ a, tlA3 (A) p c = a := ⟨_, rfl⟩
        rw [hTA] at HDD hsl2
        have HTl := Lib.hid (show (X.take p).length = p by rw [List.length_take, hl.out]; exact Nat.min_eq_left hp)
        have HDl := Lib.hid (show (X.drop p).length = 0 by (rw [List.length_drop, hl.out] ; omega))
        obtain ⟨T, hT⟩ : ∃ a, X.take p = a := ⟨_, rfl⟩
        obtain ⟨D, hD⟩ : ∃ a, X.drop p = a := ⟨_, rfl⟩
        rw [hT] at HTT HTl HX1
        rw [hD] at HDD HDl HX1
        obtain ⟨N1, hN1⟩ : ∃ a, (raiX X k s).length = a := ⟨_, rfl⟩
        have hN1b : N1 ≤ 1000000000001 := by rw [← hN1, rai_len, hl.out]; omega
        have HN1 := Lib.hid hN1
        clear hN1
        have L1 := Lib.hid (show ([] : List T3).length + p ≤ maxLen ∧ (([] : List T3).length + p) * 24 ≤ 140737488355328 by unfold maxLen; simp; omega)
        have L2 := Lib.hid (show ([] ++ T).length + 1 ≤ maxLen ∧ (([] ++ T).length + 1) * 24 ≤ 140737488355328 by rw [List.nil_append, HTl.out]; unfold maxLen; omega)
        have L3 := Lib.hid (show ([] ++ T ++ [(k, s, 0)]).length + (0) ≤ maxLen ∧ (([] ++ T ++ [(k, s, 0)]).length + (0)) * 24 ≤ 140737488355328 by rw [List.nil_append, List.length_append, HTl.out]; unfold maxLen; simp; omega)
        have L4 := Lib.hid (show ([] : List T3).length + p ≤ maxLen ∧ (([] : List T3).length + p) * 24 ≤ 140737488355328 by unfold maxLen; simp; omega)
        -- the worlds ahead of the first append
        have ba : Below wr.heap.size wr (wr.alloc (Obj.cells #[] 48)).drew := (alloc_new' wr _).drew
        have ra : Row3 (wr.alloc (Obj.cells #[] 48)).drew wr.heap.size (wr.heap.size + 1) 48 (.slice (some ⟨wr.heap.size, 0, none⟩) 0 0) [] := Row3.made (w := wr) wr.heap.size #[] 0 (Nat.le_refl _) rfl rfl (Nat.zero_le _)
        obtain ⟨Wa, hWa⟩ : ∃ W : World, (wr.alloc (Obj.cells #[] 48)).drew = W := ⟨_, rfl⟩
        rw [hWa] at ba ra
        have bb : Below wr.heap.size wr ((wr.alloc (Obj.cells #[] 48)).alloc (Obj.cells #[.int .i64 k, .int .i64 s, .int .i64 0] 48)).drew := ((alloc_new' wr _).alloc (by simp) _).drew
        have rb : Row3 ((wr.alloc (Obj.cells #[] 48)).alloc (Obj.cells #[.int .i64 k, .int .i64 s, .int .i64 0] 48)).drew wr.heap.size (wr.heap.size + 1) 48 (.slice (some ⟨wr.heap.size, 0, none⟩) 0 0) [] := (Row3.made (w := wr) wr.heap.size #[] 0 (Nat.le_refl _) rfl rfl (Nat.zero_le _)).new ((alloc_new' _ _).drew)
        have vb : Rd ((wr.alloc (Obj.cells #[] 48)).alloc (Obj.cells #[.int .i64 k, .int .i64 s, .int .i64 0] 48)).drew (wr.heap.size + 1 + 1) (some ⟨wr.heap.size + 1, 0, none⟩) (t3s [(k, s, 0)]) := by
          have q := Rd.made (wr.alloc (Obj.cells #[] 48)) #[.int .i64 k, .int .i64 s, .int .i64 0] 48
          rw [World.size_alloc] at q
          exact q
        obtain ⟨Wb, hWb⟩ : ∃ W : World, ((wr.alloc (Obj.cells #[] 48)).alloc (Obj.cells #[.int .i64 k, .int .i64 s, .int .i64 0] 48)).drew = W := ⟨_, rfl⟩
        rw [hWb] at bb rb vb
        have sb : Wb.heap.size = wr.heap.size + 1 + 1 := by rw [← hWb]; simp [World.drew]
        have bc : Below wr.heap.size wr ((wr.alloc (Obj.cells #[.int .i64 k, .int .i64 s, .int .i64 0] 48)).alloc (Obj.cells #[] 48)).drew := ((alloc_new' wr _).alloc (by simp) _).drew
        have rc : Row3 ((wr.alloc (Obj.cells #[.int .i64 k, .int .i64 s, .int .i64 0] 48)).alloc (Obj.cells #[] 48)).drew (wr.heap.size + 1) (wr.heap.size + 1 + 1) 48 (.slice (some ⟨wr.heap.size + 1, 0, none⟩) 0 0) [] := by
          have q := Row3.made (w := wr.alloc (Obj.cells #[.int .i64 k, .int .i64 s, .int .i64 0] 48)) (t := 48) (wr.heap.size + 1) #[] 0 (X := []) (by simp) rfl rfl (Nat.zero_le _)
          rw [World.size_alloc] at q
          exact q
        have vc : Rd ((wr.alloc (Obj.cells #[.int .i64 k, .int .i64 s, .int .i64 0] 48)).alloc (Obj.cells #[] 48)).drew (wr.heap.size + 1) (some ⟨wr.heap.size, 0, none⟩) (t3s [(k, s, 0)]) := (Rd.made wr #[.int .i64 k, .int .i64 s, .int .i64 0] 48).keep (fun j hj => ((alloc_new' (wr.alloc (Obj.cells #[.int .i64 k, .int .i64 s, .int .i64 0] 48)) (Obj.cells #[] 48)).drew).block j (by simpa using hj))
        obtain ⟨Wc, hWc⟩ : ∃ W : World, ((wr.alloc (Obj.cells #[.int .i64 k, .int .i64 s, .int .i64 0] 48)).alloc (Obj.cells #[] 48)).drew = W := ⟨_, rfl⟩
        rw [hWc] at bc rc vc
        have sc : Wc.heap.size = wr.heap.size + 1 + 1 := by rw [← hWc]; simp [World.drew]
        have sa : Wa.heap.size = wr.heap.size + 1 := by rw [← hWa]; simp [World.drew]
        have HA := Lib.hid (And.intro ra (And.intro ba sa))
        have HB := Lib.hid (And.intro rb (And.intro bb (And.intro vb sb)))
        have HC := Lib.hid (And.intro rc (And.intro bc (And.intro vc sc)))
        have HWa := Lib.hid hWa
        have HWb := Lib.hid hWb
        have HWc := Lib.hid hWc
        clear hWa hWb hWc ra ba sa rb bb vb sb rc bc vc sc hTA hT hD
        go_region_law (first
          | (rw [HWa.out]; refine stp_app3 (m := p) rfl (.tmp 25) (.tmp 28) 35 rfl 48 i0 _ 24 Try.underlying35 hi hz0 hz1 hz2 rfl rfl rfl HA.out.1 HTl.out (HTT.out.below HA.out.2.1) L1.out.1 L1.out.2 (by have := HA.out.2.2; omega) ?_; intro v1 w1 hrow1 ho1; have b1 := HA.out.2.1.trans (ho1.below (Nat.le_refl _) (by have := HA.out.2.2; omega)); have RV1 := Lib.hid ((hrow1.new (alloc_new' w1 (Obj.cells #[.int .i64 k, .int .i64 s, .int .i64 0] 48))).wide (Nat.le_refl _) (alloc_new' w1 (Obj.cells #[.int .i64 k, .int .i64 s, .int .i64 0] 48)).size); have MV1 := Lib.hid (show Rd _ _ _ (t3s [(k, s, 0)]) from Rd.made w1 #[.int .i64 k, .int .i64 s, .int .i64 0] 48); have sz1 := b1.size)
          | (rw [HWb.out]; refine stp_app3 (m := p) rfl (.tmp 25) (.tmp 28) 35 rfl 48 i0 _ 24 Try.underlying35 hi hz0 hz1 hz2 rfl rfl rfl HB.out.1 HTl.out (HTT.out.below HB.out.2.1) L1.out.1 L1.out.2 (by have := HB.out.2.2.2; omega) ?_; intro v1 w1 hrow1 ho1; have b1 := HB.out.2.1.trans (ho1.below (Nat.le_refl _) (by have := HB.out.2.2.2; omega)); have RW1 := Lib.hid hrow1; have MW1 := Lib.hid (HB.out.2.2.1.keep' ho1 (by have := HB.out.2.2.2; omega)); have sz1 := b1.size)
          | (rw [HWc.out]; refine stp_app3 (m := p) rfl (.tmp 25) (.tmp 28) 35 rfl 48 i0 _ 24 Try.underlying35 hi hz0 hz1 hz2 rfl rfl rfl HC.out.1 HTl.out (HTT.out.below HC.out.2.1) L1.out.1 L1.out.2 (by have := HC.out.2.2.2; omega) ?_; intro v1 w1 hrow1 ho1; have b1 := HC.out.2.1.trans (ho1.below (by omega) (by have := HC.out.2.2.2; omega)); have RW1 := Lib.hid (hrow1.wide (Nat.le_succ _) (Nat.le_refl _)); have MW1 := Lib.hid (HC.out.2.2.1.out ho1 (Nat.le_refl _) (by have := HC.out.2.2.2; omega)); have sz1 := b1.size)
          | (refine stp_app3 (m := 1) rfl (.tmp 29) (.tmp 33) 35 rfl 48 i0 _ 24 Try.underlying35 hi hz0 hz1 hz2 rfl rfl rfl RV1.out rfl MV1.out L2.out.1 L2.out.2 (by simp; omega) ?_; intro v2 w2 hrow2 ho2; have b2 := b1.trans (((alloc_new' w1 (Obj.cells #[.int .i64 k, .int .i64 s, .int .i64 0] 48)).mono sz1).trans (ho2.below (Nat.le_refl _) (by simp; omega))); have sz2 := b2.size)
          | (refine stp_app3 (m := 1) rfl (.tmp 29) (.tmp 33) 35 rfl 48 i0 _ 24 Try.underlying35 hi hz0 hz1 hz2 rfl rfl rfl RW1.out rfl MW1.out L2.out.1 L2.out.2 sz1 ?_; intro v2 w2 hrow2 ho2; have b2 := b1.trans (ho2.below (Nat.le_refl _) sz1); have sz2 := b2.size)
          | (refine stp_app3 (m := 0) rfl (.tmp 34) (.tmp 37) 35 rfl 48 i0 _ 24 Try.underlying35 hi hz0 hz1 hz2 rfl rfl rfl hrow2 HDl.out (HDD.out.below b2) L3.out.1 L3.out.2 sz2 ?_; intro v3 w3 hrow3 ho3; have b3 := b2.trans (ho3.below (Nat.le_refl _) sz2)))
        all_goals
          have hXX : ([] : List T3) ++ T ++ [(k, s, 0)] ++ D = raiX X k s := by rw [HX1.out]; rfl
          rw [hXX] at hrow3
          obtain ⟨A3, c3, rfl, hrd3, _, _⟩ := hrow3.rd (n := N1) HN1.out
          have HROW3 := Lib.hid hrow3
          have HRD3 := Lib.hid hrd3
          have HB3 := Lib.hid b3
          have sz3 := b3.size
          clear hXX hrow3 hrd3 b3
          cases hb : ptB (raiX X k s) with
          | false =>
            have HPB := Lib.hid hb
            have HV := Lib.hid (raiL_no hb)
            clear hb
            go_wp2_with fail
            refine (specArePoints_any (X := raiX X k s) HN1 (by omega) HRD3.out).mono ?_
            rintro e u ⟨rfl, r⟩
            rw [HPB.out]
            have hbu := HB3.out.trans (r.mono sz3)
            have szu := hbu.size
            have be := alloc_new' u (Obj.cells #[] 48)
            have HRE := Lib.hid (show Row3 (u.alloc (Obj.cells #[] 48)) wr.heap.size (u.heap.size + 1) 48 (.slice (some ⟨u.heap.size, 0, none⟩) 0 0) [] from Row3.made (w := u) wr.heap.size #[] 0 szu rfl rfl (Nat.zero_le _))
            have HRX := Lib.hid ((HR.out.below hbu).below (be.mono szu))
            have HBU := Lib.hid (hbu.trans (be.mono szu))
            clear be hbu r
            go_wp2_with (at_builtin; refine wpList_app3 rfl (.tmp 42) (.tmp 43) 35 rfl 48 i0 _ 24 Try.underlying35 hi hz0 hz1 hz2 rfl rfl rfl HRE.out hl.out HRX.out L4.out.1 L4.out.2 (by simp; omega) ?_; intro v9 w9 hrow9 ho9; rw [List.nil_append] at hrow9; obtain ⟨A9, c9, rfl, _, _, _⟩ := hrow9.rd (n := p) hl.out)
            refine bodyPost_ret (v := .tuple #[.slice A9 p c9, .bool false]) (by simp [results, Try.results55, go_sem]) rfl ?_
            exact ⟨_, by rw [HPB.out], by rw [HV.out]; exact hrow9, HBU.out.trans (ho9.below (Nat.le_refl _) (by simp; omega))⟩
          | true =>
            have HPB := Lib.hid hb
            have HV := Lib.hid (raiL_yes hb)
            clear hb
            go_wp2_with fail
            refine (specArePoints_any (X := raiX X k s) HN1 (by omega) HRD3.out).mono ?_
            rintro e u ⟨rfl, r⟩
            rw [HPB.out]
            have HBU := Lib.hid (HB3.out.trans (r.mono sz3))
            have HRU := Lib.hid ((HROW3.out.new r).wide (Nat.le_refl _) r.size)
            clear r
            go_wp2_with fail
            refine bodyPost_ret (v := .tuple #[.slice A3 N1 c3, .bool true]) (by simp [results, Try.results55, go_sem]) rfl ?_
            exact ⟨_, by rw [HPB.out], by rw [HV.out]; exact HRU.out, HBU.out⟩
end Go.Proofs.Ytignchefkihdaaa
