/- Contracts of the code's IsFree, IsAdmissible, IsStable, IsComplete. No conditions but that the slices have at most 2^40 elements. -/
import Derived.Test.YtjhknafajfpldaaDoorMg23
import Derived.Test.YtjhknafajfpldaaDoorMg19
import Derived.Test.YtjhknafajfpldaaDoorMg8
import Derived.Test.YtjhknafajfpldaaDoorMg3
import Derived.Test.YtjhknafajfpldaaDoorMg9
import Derived.Deep.RegionHeld3
import Derived.Test.YtjhknafajfpldaaDoorMg22
namespace Go.Proofs.YtjhknafajfpldaaDoor
open Go.ChangeShapes Go.WideShapes Go.ChangeAt Go.RowKit
set_option maxRecDepth 100000
theorem flt_free {N : Int} {X : List (List Int)} {S : List Int} (h : freeB N X S = true) : flt N X S = .nilIface := by
  have hs := free_set h
  unfold flt
  rw [setB_g hs, hs, if_pos rfl, if_pos rfl, quarrel_code hs]
  unfold freeB at h
  rw [Bool.and_eq_true, Bool.not_eq_true'] at h
  rw [h.1]
  rfl
theorem flt_not {N : Int} {X : List (List Int)} {S : List Int} (h : freeB N X S = false) : ∃ k : Int, flt N X S = .iface 75 (.int .i64 k) ∧ (setB N X S = true ↔ k = 2) := by
  unfold flt
  by_cases hg : gB N X = true
  · rw [if_pos hg]
    by_cases hs : setB N X S = true
    · rw [if_pos hs, quarrel_code hs]
      unfold freeB at h
      rw [hs, Bool.and_true, Bool.not_eq_false'] at h
      rw [h]
      exact ⟨2, rfl, by simp [hs]⟩
    · rw [if_neg hs]
      exact ⟨1, rfl, by simp [hs]⟩
  · rw [if_neg hg]
    have : setB N X S = false := by unfold setB; rw [show gB N X = false by simpa using hg]; rfl
    exact ⟨0, rfl, by rw [this]; simp⟩
theorem cast_beq0 (q : Nat) : ((q : Int) == 0) = (q == 0) := by rw [Bool.eq_iff_iff, beq_iff_eq, beq_iff_eq]; omega
theorem cast_beq (p q : Nat) : ((p : Int) == (q : Int)) = (p == q) := by rw [Bool.eq_iff_iff, beq_iff_eq, beq_iff_eq]; omega
theorem rdSS_new {a b : World} {A : Option Addr} {X : List (List Int)} (h : RdSS a a.heap.size A X) (hb : Below a.heap.size a b) : RdSS b b.heap.size A X := (h.below hb).more hb.size
theorem rd_new {a b : World} {A : Option Addr} {xs : List Value} (h : Rd a a.heap.size A xs) (hb : Below a.heap.size a b) : Rd b b.heap.size A xs := (h.below hb).more hb.size
theorem stab_new {w w' : World} {g gg : Nat} {t tt : TypeId} {n : Int} {f : Nat → Nat} {u v : Value} (hh : Bx w gg tt #[u, v]) (h : Bx w g t (arC n f)) (hb : Below w.heap.size w w') :
    Below w.heap.size w w' ∧ w'.cell? ⟨gg, 0, none⟩ = some u ∧ w'.cell? ⟨gg, 1, none⟩ = some v ∧ w'.cell? ⟨g, 0, none⟩ = some (.int .i64 n) ∧ w'.cell? ⟨g, 1, none⟩ = some (.int .u16 (f 0 : Nat)) ∧ w'.cell? ⟨g, 2, none⟩ = some (.int .u16 (f 1 : Nat)) ∧ w'.cell? ⟨g, 3, none⟩ = some (.int .u16 (f 2 : Nat)) ∧ w'.cell? ⟨g, 4, none⟩ = some (.int .u16 (f 3 : Nat)) ∧ w'.cell? ⟨g, 5, none⟩ = some (.int .u16 (f 4 : Nat)) ∧ w'.cell? ⟨g, 6, none⟩ = some (.int .u16 (f 5 : Nat)) ∧ w'.cell? ⟨g, 7, none⟩ = some (.int .u16 (f 6 : Nat)) ∧ w'.cell? ⟨g, 8, none⟩ = some (.int .u16 (f 7 : Nat)) ∧ w'.cell? ⟨g, 9, none⟩ = some (.int .u16 (f 8 : Nat)) ∧ w'.cell? ⟨g, 10, none⟩ = some (.int .u16 (f 9 : Nat)) :=
  ⟨hb, (hh.new hb).two.1, (hh.new hb).two.2, (h.new hb).eleven⟩
theorem comp_code {N : Int} {X : List (List Int)} {S : List Int} (hf : freeB N X S = true) : (bS S == dB (rn N X) (rf N X) (bS S)) = compB N X S := by
  have hs := free_set hf
  have h := setB_g hs
  unfold compB
  rw [hf, Bool.true_and, dB_bS hs]
  obtain ⟨n, rfl, hn, hp, _⟩ := gB_ok h
  by_cases e : defL n X S = S
  · rw [e, decide_eq_true rfl]; simp
  · rw [decide_eq_false e, beq_eq_false_iff_ne]
    intro e'
    have : lsT (bS S) 10 = lsT (bS (defL n X S)) 10 := by rw [e']
    rw [show lsT (bS S) 10 = S from lsT_bS h hn hs, show lsT (bS (defL n X S)) 10 = defL n X S from lsT_bS h hn (defL_set h hp)] at this
    exact e this.symm
section
variable {w : World} {A A' : Option Addr} {n c n' c' : Nat} {N : Int} {X : List (List Int)} {S : List Int} (hl : Hid (X.length = n)) (hn : n ≤ 1099511627776) (hr : RdSS w w.heap.size A X) (hl' : Hid (S.length = n')) (hn' : n' ≤ 1099511627776) (hr' : Rd w w.heap.size A' (ivs S))
include hl hn hr hl' hn' hr'
end
end Go.Proofs.YtjhknafajfpldaaDoor

/- Contract of the draw DrawRenamed: a graph and new names. Condition: the code's bytes lie in old memory. -/
namespace Go.Proofs.YtjhknafajfpldaaDoor
open Go.ChangeShapes Go.WideShapes Go.ChangeAt Go.RowKit
set_option maxRecDepth 100000
theorem rd_bxR {w : World} {g : Nat} {t : TypeId} {cs : Array Value} (h : Bx w g t cs) : Rd w (g + 1) (some ⟨g, 0, none⟩) cs.toList := fun j u hu => by
  refine ⟨_, rfl, Nat.lt_succ_self _, ?_⟩
  have e : (⟨g, 0, none⟩ : Addr).add j = ⟨g, j, none⟩ := by
    unfold Addr.add; split <;> simp_all
  rw [e]
  exact h.at_ (by simpa using hu)
theorem Row.baseR {w : World} {lo hi n : Nat} {t : TypeId} {v : Value} {xs : List Value} (h : Row w lo hi t v xs) (hn : xs.length = n) (hp : 0 < n) : ∃ g c, v = .slice (some ⟨g, 0, none⟩) n c ∧ lo ≤ g ∧ g < hi ∧ g < w.heap.size ∧ n ≤ c ∧ c ≤ maxLen := by
  subst hn
  rcases h.1.2 with ⟨rfl, hn⟩ | ⟨g, cap, cur, rfl, hb, hgg, hnc, hcm, _⟩
  · omega
  · exact ⟨g, cap, rfl, hb, h.2 g rfl, (Array.getElem?_eq_some_iff.1 hgg).1, hnc, hcm⟩
theorem Row.setR {w : World} {lo hi : Nat} {t : TypeId} {g n c i : Nat} {xs : List Value} {v : Value} (h : Row w lo hi t (.slice (some ⟨g, 0, none⟩) n c) xs) : Row (w.setCell ⟨g, i, none⟩ v) lo hi t (.slice (some ⟨g, 0, none⟩) n c) (xs.set i v) := by
  obtain ⟨⟨h1, h2⟩, h3⟩ := h
  rcases h2 with ⟨e, hn⟩ | ⟨g', cap, cur, e, hb, hgg, hnc, hcm, hcs, htk⟩
  · injection e with e1; cases e1
  · injection e with e1 e2 e3
    injection e1 with e1
    injection e1 with e1
    subst e1 e3
    have hst := (World.ownsRow.stored (w := w) (base := lo) (e := t) (size := 1) (g := g) (n := n) (cap := c) (xs := xs) (e2 ▸ ⟨h1, .inr ⟨g, c, cur, rfl, hb, hgg, hnc, hcm, hcs, htk⟩⟩) i v).1
    refine ⟨?_, fun g' hg' => h3 g' hg'⟩
    rw [List.length_set]
    exact e2 ▸ hst
theorem Row.frozR {w : World} {lo hi : Nat} {t : TypeId} {g n c i : Nat} {xs : List Value} (h : Row w lo hi t (.slice (some ⟨g, 0, none⟩) n c) xs) : w.frozen? ⟨g, i, none⟩ = false := by
  obtain ⟨⟨h1, h2⟩, h3⟩ := h
  rcases h2 with ⟨e, hn⟩ | ⟨g', cap, cur, e, hb, hgg, _⟩
  · injection e with e1; cases e1
  · injection e with e1 e2 e3
    injection e1 with e1
    injection e1 with e1
    subst e1
    exact frozen_of_row w g i cur t hgg
theorem ivs_setR (zs : List Int) (k : Nat) (x : Int) : (ivs zs).set k (.int .i64 x) = ivs (zs.set k x) := by simp [ivs, List.map_set]
set_option maxHeartbeats 16000000 in
theorem drawRen {w : World} {A : Option Addr} {n c : Nat} (h : Code8 w A n) :
    Calls Tryd.prog 15 #[.slice A n c] w (DrewGS2 12 w) := by
  obtain ⟨ti, hti, hz0, hz1, hz2⟩ := info_parts IntS_info
  have zz : ∀ w, (Go.sizeOf 3).run Tryd.prog w = .ok 1 w := fun w => by simp [sizeOf, typeInfo, hti, hz1]
  have bx0 := Bx.made w 26 #[Value.int .i64 0, .slice none 0 0]
  have hb0 : Below w.heap.size w (w.alloc (Obj.cells #[Value.int .i64 0, .slice none 0 0] 26)) := alloc_new _ _
  have h0 := h.below hb0
  have hs0 : (w.alloc (Obj.cells #[Value.int .i64 0, .slice none 0 0] 26)).heap.size = w.heap.size + 1 := by simp
  go_enter Tryd.func15, Tryd.ntmps15
  go_wp2_with fail
  refine (new_any h0).mono ?_
  rintro e w1 ⟨rfl, hb1, cur1⟩
  have br1 := bx0.new hb1
  have hz1' := hb1.size
  have hbw1 := hb0.trans (hb1.mono hb0.size)
  rw [hs0] at hz1' cur1 ⊢
  go_wp2_with fail
  refine (any4_any cur1).mono ?_
  rintro e w2 ⟨N, X, v, _, hok, rfl, hown2, hg2, cur2⟩
  obtain ⟨Av, cv, rfl, _, _, _⟩ := hown2.rd (n := X.length) rfl
  have hl1 := cur1.lt
  have hz2' := hg2.size
  have br2 := br1.only hg2 (by omega)
  have hbw2 := cur_below hbw1 hg2 (by omega)
  have k3 := alloc_new w2 (Obj.cells #[Value.int .i64 N, .slice Av X.length cv] 26)
  have br3 := br2.new k3
  have bg3 := Bx.made w2 26 #[Value.int .i64 N, .slice Av X.length cv]
  have ho3 := (hown2.new k3).wide (lo' := w.heap.size + 2) (hi' := w2.heap.size) (by omega) (Nat.le_refl _)
  have cur3 := cur2.below k3
  have hbw3 := hbw2.trans (k3.mono hbw2.size)
  have HOK := Lib.hid hok
  obtain ⟨w3, hw3⟩ : ∃ u : World, u = w2.alloc (Obj.cells #[Value.int .i64 N, .slice Av X.length cv] 26) := ⟨_, rfl⟩
  have hx3 : w3.heap.size = w2.heap.size + 1 := by rw [hw3]; simp
  rw [← hw3] at br3 bg3 ho3 cur3 hbw3
  obtain ⟨g, hg⟩ : ∃ g, g = w2.heap.size := ⟨_, rfl⟩
  have hHW := Lib.hid hw3.symm
  rw [← hg] at bg3 hx3 hz2' ho3
  have hHG := Lib.hid hg.symm
  have k4 := alloc_new w3 (Obj.cells #[] 3)
  have row4 := (Row.made (w := w3) w3.heap.size #[] 0 3 (Nat.le_refl _) rfl (Nat.zero_le _)).wide (hi' := (w3.alloc (Obj.cells #[] 3)).heap.size) (Nat.le_refl _) (by simp)
  have br4 := br3.new k4
  have bg4 := bg3.new k4
  have ho4 := ho3.new k4
  have cur4 := cur3.below k4
  have hbw4 := hbw3.trans (k4.mono hbw3.size)
  have hz4 := k4.size
  have hBg : w.heap.size + 1 < g := by omega
  clear bx0 hb0 h0 br1 hb1 hbw1 cur1 br2 hbw2 k3 hown2 hg2 cur2 hok hw3 hs0 hg br3 bg3 ho3 cur3 hbw3 k4 hl1 hz1' hz2'
  go_wp2_with fail
  rw [hHW.out, hHG.out]
  clear hHW hHG
  have HM := Lib.hid (mn12 N)
  go_loopw [6, 7] (fun t i wr => ∃ (k : Nat) (zs : List Int), k ≤ 12 ∧ i = .int .i64 k ∧ Hid (zs.length = k) ∧ Row wr (g + 1) wr.heap.size 3 t (ivs zs) ∧ Bx wr g 26 #[Value.int .i64 N, .slice Av X.length cv] ∧ Bx wr w.heap.size 26 #[Value.int .i64 0, .slice none 0 0] ∧ OwnSS wr (w.heap.size + 2) g (.slice Av X.length cv) X ∧ Cur wr (w.heap.size + 1) A n c ∧ Below w.heap.size w wr ∧ g + 1 ≤ wr.heap.size) (fun _ i _ => 12 - (intOf i).toNat)
  case atStart => exact ⟨0, [], by omega, rfl, Lib.hid rfl, by rw [← hx3]; exact row4, bg4, br4, ho4, cur4, hbw4, by omega⟩
  case round =>
    obtain ⟨k, zs, hk, rfl, hzl, hrow, bg, br, ho, hcur, hbw, hgz⟩ := hrel
    clear row4 bg4 br4 ho4 cur4 hbw4 hz4 hx3
    obtain ⟨C0, C1⟩ := bg.two
    obtain ⟨M, hMe⟩ : ∃ M, M = mn 12 N := ⟨_, rfl⟩
    have HMe := Lib.hid hMe.symm
    have hM := HM.out
    rw [← hMe] at hM
    clear hMe
    have HC := Lib.hid hcur
    have HROW := Lib.hid hrow
    clear hcur hrow
    by_cases hlt : (k : Int) < M
    · have hk12 : k < 12 := by omega
      go_wp2_with (go_at_call 27; refine (smin_any 12 N _).mono ?_; rintro e w1 ⟨he, rfl⟩; rw [HMe.out] at he; subst he)
      refine (below_any HC.out ((k : Int) + 1) (by omega)).mono ?_
      rintro e w5 ⟨y, ⟨y0, y1⟩, rfl, hg5, cur5⟩
      obtain ⟨q, rfl⟩ := Int.eq_ofNat_of_zero_le y0
      have hq : q ≤ k := by omega
      have row5 := (HROW.out.out (Out.of_only hg5) (.inr (by omega))).wide (Nat.le_refl _) hg5.size
      have bg5 := bg.only hg5 (by omega)
      have br5 := br.only hg5 (by omega)
      have ho5 := ho.only hg5 (by omega)
      have hbw5 := cur_below hbw hg5 (by omega)
      have hgz5 : g + 1 ≤ w5.heap.size := Nat.le_trans hgz hg5.size
      clear HROW bg br ho hbw hgz C0 C1
      obtain ⟨A', c', rfl, hrd, hkc, hcm⟩ := row5.rd (n := k) (by rw [ivs_len, hzl.out])
      have hs1 := fun (w : World) => run_to w 27 3 Tryd.underlying27 zz A' (n := k) (c := c') (k := q) (by omega)
      have hs2 := fun (w : World) => run_from w 27 3 Tryd.underlying27 zz A' (n := k) (c := c') (k := q) hq hkc
      obtain ⟨T, hT⟩ : ∃ T, T = tlA A' q c' := ⟨_, rfl⟩
      have RD1 : Hid (Rd w5 w5.heap.size A' (ivs (zs.take q))) := Lib.hid (by have := hrd.hd (k := q); rwa [show (ivs zs).take q = ivs (zs.take q) by simp [ivs, List.map_take]] at this)
      have RD3 : Hid (Rd w5 w5.heap.size T (ivs (zs.drop q))) := Lib.hid (by have := hrd.tl (k := q) (c := c') (by rw [ivs_len, hzl.out]; exact hkc); rwa [show (ivs zs).drop q = ivs (zs.drop q) by simp [ivs, List.map_drop], ← hT] at this)
      rw [← hT] at hs2
      have L1 : Hid ((ivs (zs.take q)).length = q) := Lib.hid (by rw [ivs_len, List.length_take, hzl.out]; omega)
      have L3 : Hid ((ivs (zs.drop q)).length = k - q) := Lib.hid (by rw [ivs_len, List.length_drop, hzl.out])
      have ONE1 : Hid (∀ u ∈ ivs (zs.take q), u.oneCell' = true) := Lib.hid int_one
      have ONE3 : Hid (∀ u ∈ ivs (zs.drop q), u.oneCell' = true) := Lib.hid int_one
      have ONE2 : Hid (∀ u ∈ [Value.int .i64 (k : Int)], u.oneCell' = true) := Lib.hid (by simp [Value.oneCell'])
      have SZ1 := Lib.hid (show ([] : List Value).length + q ≤ maxLen ∧ (([] : List Value).length + q) * 8 ≤ 140737488355328 by unfold maxLen; simp; omega)
      have LE1 : Hid (([] ++ ivs (zs.take q)).length = q) := Lib.hid (by rw [List.nil_append]; exact L1.out)
      have SZ2 := Lib.hid (show ([] ++ ivs (zs.take q)).length + 1 ≤ maxLen ∧ (([] ++ ivs (zs.take q)).length + 1) * 8 ≤ 140737488355328 by rw [LE1.out]; unfold maxLen; omega)
      have LE2 : Hid (([] ++ ivs (zs.take q) ++ [Value.int .i64 (k : Int)]).length = q + 1) := Lib.hid (by rw [List.length_append, LE1.out]; rfl)
      have SZ3 := Lib.hid (show ([] ++ ivs (zs.take q) ++ [Value.int .i64 (k : Int)]).length + (k - q) ≤ maxLen ∧ (([] ++ ivs (zs.take q) ++ [Value.int .i64 (k : Int)]).length + (k - q)) * 8 ≤ 140737488355328 by rw [LE2.out]; unfold maxLen; omega)
      have LE3 : Hid (([] ++ ivs (zs.take q) ++ [Value.int .i64 (k : Int)] ++ ivs (zs.drop q)).length = k + 1) := Lib.hid (by rw [List.length_append, LE2.out, L3.out]; omega)
      obtain ⟨G, hG⟩ : ∃ G, G = w5.heap.size := ⟨_, rfl⟩
      obtain ⟨wr, hwr⟩ : ∃ wr, wr = w5 := ⟨_, rfl⟩
      rw [← hwr] at hG
      have r20 := Row.made (w := wr) wr.heap.size #[] 0 3 (Nat.le_refl _) rfl (Nat.zero_le _)
      have kA := alloc_new (wr.alloc (Obj.cells #[] 3)) (Obj.cells #[.int .i64 k] 3)
      have r2027 := r20.new kA
      have x2027 := Bx.made (wr.alloc (Obj.cells #[] 3)) 3 #[.int .i64 k]
      have kB := alloc_new (wr.alloc (Obj.cells #[.int .i64 k] 3)) (Obj.cells #[] 3)
      have r27 := Row.made (w := wr.alloc (Obj.cells #[.int .i64 k] 3)) (wr.heap.size + 1) #[] 0 3 (by simp) rfl (Nat.zero_le _)
      have x27 := (Bx.made wr 3 #[.int .i64 k]).new kB
      rw [show (wr.alloc (Obj.cells #[] 3)).heap.size = wr.heap.size + 1 by simp] at x2027
      rw [show (wr.alloc (Obj.cells #[.int .i64 k] 3)).heap.size = wr.heap.size + 1 by simp] at r27
      have q20 : Below wr.heap.size wr (wr.alloc (Obj.cells #[] 3)) := alloc_new _ _
      have q2027 : Below wr.heap.size wr ((wr.alloc (Obj.cells #[] 3)).alloc (Obj.cells #[.int .i64 k] 3)) := q20.alloc q20.size _
      have q27 : Below wr.heap.size wr (wr.alloc (Obj.cells #[.int .i64 k] 3)) := alloc_new _ _
      have q2720 : Below wr.heap.size wr ((wr.alloc (Obj.cells #[.int .i64 k] 3)).alloc (Obj.cells #[] 3)) := q27.alloc q27.size _
      subst hwr
      subst hG
      have H20 := Lib.hid r20
      have H2027 := Lib.hid r2027
      have H27 := Lib.hid r27
      have HX2027 := Lib.hid x2027
      have HX27 := Lib.hid x27
      have HC5 := Lib.hid cur5
      have HB5 := Lib.hid bg5
      have HR5 := Lib.hid br5
      have KE := fun (u : World) (r : Below wr.heap.size wr u) => show Below wr.heap.size wr u ∧ True from ⟨r, trivial⟩
      clear hT r20 r2027 r27 x2027 x27 kA kB row5 hrd cur5 bg5 br5
      go_wp2_with fail
      go_region_held3 (fun u => Below wr.heap.size wr u ∧ True) (first | assumption | with_reducible exact KE _ (Below.refl _ _) | with_reducible exact KE _ (Below.refl _ _).drew | with_reducible exact KE _ k36 | with_reducible exact KE _ k32 | with_reducible exact KE _ k29 | with_reducible exact KE _ q20.drew | with_reducible exact KE _ q2027.drew | with_reducible exact KE _ q27.drew | with_reducible exact KE _ q2720.drew | exact KE _ (k29.alloc k29.size _) | exact KE _ q20.drew | exact KE _ q2027.drew | exact KE _ q27.drew | exact KE _ q2720.drew)
        (first
        | (refine step_app rfl (.tmp 25) (.tmp 28) 27 rfl 3 ti _ 8 Tryd.underlying27 hti hz0 hz1 hz2 rfl (v := .slice (some ⟨wr.heap.size, 0, none⟩) 0 0) (A := A') (m := q) (c := c') (by simp [Act.eval]) (by simp [Act.eval]) (lo := wr.heap.size) (hi' := wr.heap.size + 1) (xs := []) (by first | exact H20.out | exact H20.out.drewN 1 | exact H2027.out | exact H2027.out.drewN 1) L1.out ((RD1.out.below (‹Below wr.heap.size wr _ ∧ _›).1).more (‹Below wr.heap.size wr _ ∧ _›).1.size) ONE1.out SZ1.out.1 SZ1.out.2 (by first | exact (‹Below wr.heap.size wr _ ∧ _›).1.size) ?_; intro v29 w29 row29 o29; have k29 := (‹Below wr.heap.size wr _ ∧ _›).1.trans (o29.below (Nat.le_refl _) (‹Below wr.heap.size wr _ ∧ _›).1.size); obtain ⟨A29, c29, rfl, _, _, _⟩ := row29.rd (n := q) LE1.out)
        | (refine step_app rfl (.tmp 25) (.tmp 28) 27 rfl 3 ti _ 8 Tryd.underlying27 hti hz0 hz1 hz2 rfl (v := .slice (some ⟨wr.heap.size + 1, 0, none⟩) 0 0) (A := A') (m := q) (c := c') (by simp [Act.eval]) (by simp [Act.eval]) (lo := wr.heap.size + 1) (hi' := wr.heap.size + 2) (xs := []) (by first | exact H27.out | exact H27.out.drewN 1) L1.out ((RD1.out.below (‹Below wr.heap.size wr _ ∧ _›).1).more (‹Below wr.heap.size wr _ ∧ _›).1.size) ONE1.out SZ1.out.1 SZ1.out.2 (by first | (simp; omega) | simp) ?_; intro v29 w29 row29 o29; have k29 := (‹Below wr.heap.size wr _ ∧ _›).1.trans (o29.below (Nat.le_succ _) (‹Below wr.heap.size wr _ ∧ _›).1.size); obtain ⟨A29, c29, rfl, _, _, _⟩ := row29.rd (n := q) LE1.out)
        | (refine step_app rfl (.tmp 29) (.tmp 31) 27 rfl 3 ti _ 8 Tryd.underlying27 hti hz0 hz1 hz2 rfl (v := .slice A29 q c29) (A := some ⟨w29.heap.size, 0, none⟩) (m := 1) (c := 1) (by simp [Act.eval]) (by simp [Act.eval]) (row29.new (alloc_new w29 (Obj.cells #[.int .i64 k] 3))) rfl (Rd.made w29 #[.int .i64 k] 3) ONE2.out SZ2.out.1 SZ2.out.2 (by first | exact Nat.le_refl _ | (have := k29.size; simp; omega) | (have := k29.size; omega) | (have := o29.size; simp at this; omega) | (have := o29.size; simp at this ⊢; omega)) ?_; intro v32 w32 row32 o32; have k32 := (‹Below wr.heap.size wr _ ∧ _›).1.trans (o32.below (by omega) (‹Below wr.heap.size wr _ ∧ _›).1.size); obtain ⟨A32, c32, rfl, _, _, _⟩ := row32.rd (n := (q + 1)) LE2.out)
        | (refine step_app rfl (.tmp 29) (.tmp 31) 27 rfl 3 ti _ 8 Tryd.underlying27 hti hz0 hz1 hz2 rfl (v := .slice A29 q c29) (A := some ⟨wr.heap.size + 1, 0, none⟩) (m := 1) (c := 1) (by simp [Act.eval]) (by simp [Act.eval]) row29 rfl (by first | exact rd_bxR (HX2027.out.drew_.out o29 (.inr (Nat.le_refl _))) | exact rd_bxR (HX2027.out.out o29 (.inr (Nat.le_refl _)))) ONE2.out SZ2.out.1 SZ2.out.2 (by first | exact Nat.le_refl _ | (have := k29.size; simp; omega) | (have := k29.size; omega) | (have := o29.size; simp at this; omega) | (have := o29.size; simp at this ⊢; omega)) ?_; intro v32 w32 row32 o32; have k32 := (‹Below wr.heap.size wr _ ∧ _›).1.trans (o32.below (by omega) (‹Below wr.heap.size wr _ ∧ _›).1.size); obtain ⟨A32, c32, rfl, _, _, _⟩ := row32.rd (n := (q + 1)) LE2.out)
        | (refine step_app rfl (.tmp 29) (.tmp 31) 27 rfl 3 ti _ 8 Tryd.underlying27 hti hz0 hz1 hz2 rfl (v := .slice A29 q c29) (A := some ⟨wr.heap.size, 0, none⟩) (m := 1) (c := 1) (by simp [Act.eval]) (by simp [Act.eval]) row29 rfl (by first | exact rd_bxR (HX27.out.drew_.out o29 (.inl (Nat.lt_succ_self _))) | exact rd_bxR (HX27.out.out o29 (.inl (Nat.lt_succ_self _)))) ONE2.out SZ2.out.1 SZ2.out.2 (by first | exact Nat.le_refl _ | (have := k29.size; simp; omega) | (have := k29.size; omega) | (have := o29.size; simp at this; omega) | (have := o29.size; simp at this ⊢; omega)) ?_; intro v32 w32 row32 o32; have k32 := (‹Below wr.heap.size wr _ ∧ _›).1.trans (o32.below (by omega) (‹Below wr.heap.size wr _ ∧ _›).1.size); obtain ⟨A32, c32, rfl, _, _, _⟩ := row32.rd (n := (q + 1)) LE2.out)
        | (refine step_app rfl (.tmp 32) (.tmp 35) 27 rfl 3 ti _ 8 Tryd.underlying27 hti hz0 hz1 hz2 rfl (v := .slice A32 (q + 1) c32) (A := T) (m := (k - q)) (c := (c' - q)) (by simp [Act.eval]) (by simp [Act.eval]) row32 L3.out ((RD3.out.below (‹Below wr.heap.size wr _ ∧ _›).1).more (‹Below wr.heap.size wr _ ∧ _›).1.size) ONE3.out SZ3.out.1 SZ3.out.2 (by first | exact Nat.le_refl _ | (have := k32.size; simp; omega) | (have := k32.size; omega) | (have := o32.size; simp at this; omega) | (have := o32.size; simp at this ⊢; omega) | (have h1 := o29.size; have h2 := o32.size; simp at h1 h2 ⊢; omega) | (have h1 := o29.size; have h2 := o32.size; simp at h1 h2; omega)) ?_; intro v36 w36 row36 o36; have k36 := (‹Below wr.heap.size wr _ ∧ _›).1.trans (o36.below (by omega) (‹Below wr.heap.size wr _ ∧ _›).1.size); obtain ⟨A36, c36, rfl, _, _, _⟩ := row36.rd (n := (k + 1)) LE3.out))
      all_goals
        have hs36 := k36.size
        go_wp2_with fail
        go_roundw
        case rel => exact ⟨k + 1, zs.take q ++ [(k : Int)] ++ zs.drop q, by omega, by go_num, Lib.hid (by have := LE3.out; simpa [ivs] using this), by rw [show ivs (zs.take q ++ [(k : Int)] ++ zs.drop q) = [] ++ ivs (zs.take q) ++ [Value.int .i64 (k : Int)] ++ ivs (zs.drop q) by simp [ivs]]; exact row36.wide (by omega) (Nat.le_refl _), HB5.out.new k36, HR5.out.new k36, ho5.new k36, HC5.out.below k36, hbw5.trans (k36.mono hbw5.size), by omega⟩
        case measure => simp [intOf] <;> omega
    · have row := HROW.out
      clear HROW
      by_cases hk0 : k = 0
      · subst hk0
        obtain ⟨A', c', rfl, _, _, _⟩ := row.rd (n := 0) (by rw [ivs_len, hzl.out])
        obtain ⟨R0, R1⟩ := br.two
        have r0 := br.free 0
        have r1 := br.free 1
        have hHB := Lib.hid br
        have hHR := Lib.hid row
        clear br row
        go_wp2_with (go_at_call 27; refine (smin_any 12 N _).mono ?_; rintro e w1 ⟨he, rfl⟩; rw [HMe.out] at he; subst he)
        have br := hHB.out
        refine bodyPost_ret (resGB rfl ((br.set 0 _).set 1 _) rfl rfl rfl) rfl ⟨N, X, .slice Av X.length cv, zs, _, g + 1, HOK.out, by rw [hzl.out]; omega, rfl, by omega, by simp; try omega, ?_, ?_, (hbw.setCell (p := ⟨w.heap.size, 0, none⟩) (Nat.le_refl _) _).setCell (p := ⟨w.heap.size, 1, none⟩) (Nat.le_refl _) _⟩
        · exact ((ho.setFar (p := ⟨w.heap.size, 0, none⟩) (.inl (by simp)) _).setFar (p := ⟨w.heap.size, 1, none⟩) (.inl (by simp)) _).wide (by omega) (by omega)
        · exact ((hHR.out.out (Out.setCell wr (lo := w.heap.size) (hi := w.heap.size + 1) (Nat.le_refl _) (Nat.lt_succ_self _) 0 _) (.inr (by omega))).out (Out.setCell _ (lo := w.heap.size) (hi := w.heap.size + 1) (Nat.le_refl _) (Nat.lt_succ_self _) 1 _) (.inr (by omega))).wide (Nat.le_refl _) (by simp)
      · obtain ⟨ag, c', rfl, hga, hgb, hgc, hkc, hcm⟩ := row.baseR (n := k) (by rw [ivs_len, hzl.out]) (by omega)
        have hRo := Lib.hid row
        have kp : (0 : Int) < (k : Int) := by omega
        clear row
        go_wp2_with (go_at_call 27; refine (smin_any 12 N _).mono ?_; rintro e w1 ⟨he, rfl⟩; rw [HMe.out] at he; subst he)
        refine (once_any HC.out 8 (by omega)).mono ?_
        rintro e w4 ⟨b, rfl, hg4, cur4⟩
        have bg4 := bg.only hg4 (by omega)
        have br4 := br.only hg4 (by omega)
        have ho4 := ho.only hg4 (by omega)
        have row4 := (hRo.out.out (Out.of_only hg4) (.inr (by omega))).wide (Nat.le_refl _) hg4.size
        have hbw4 := cur_below hbw hg4 (by omega)
        have hgz4 : g + 1 ≤ w4.heap.size := Nat.le_trans hgz hg4.size
        have hgc4 : ag < w4.heap.size := Nat.lt_of_lt_of_le hgc hg4.size
        clear bg br ho hbw hgz C0 C1 hRo
        cases b with
        | false =>
          obtain ⟨D0, D1⟩ := bg4.two
          obtain ⟨R0, R1⟩ := br4.two
          have r0 := br4.free 0
          have r1 := br4.free 1
          have hHB := Lib.hid br4
          have hHR := Lib.hid row4
          clear br4 row4
          go_wp2_with fail
          have br4 := hHB.out
          refine bodyPost_ret (resGB rfl ((br4.set 0 _).set 1 _) rfl rfl rfl) rfl ⟨N, X, .slice Av X.length cv, zs, _, g + 1, HOK.out, by rw [hzl.out]; omega, rfl, by omega, by simp; try omega, ?_, ?_, (hbw4.setCell (p := ⟨w.heap.size, 0, none⟩) (Nat.le_refl _) _).setCell (p := ⟨w.heap.size, 1, none⟩) (Nat.le_refl _) _⟩
          · exact ((ho4.setFar (p := ⟨w.heap.size, 0, none⟩) (.inl (by simp)) _).setFar (p := ⟨w.heap.size, 1, none⟩) (.inl (by simp)) _).wide (by omega) (by omega)
          · exact ((hHR.out.out (Out.setCell w4 (lo := w.heap.size) (hi := w.heap.size + 1) (Nat.le_refl _) (Nat.lt_succ_self _) 0 _) (.inr (by omega))).out (Out.setCell _ (lo := w.heap.size) (hi := w.heap.size + 1) (Nat.le_refl _) (Nat.lt_succ_self _) 1 _) (.inr (by omega))).wide (Nat.le_refl _) (by simp)
        | true =>
          go_wp2_with fail
          refine (below_any cur4 7 (by omega)).mono ?_
          rintro e w5 ⟨y, _, rfl, hg5, cur5⟩
          have bg5 := bg4.only hg5 (by omega)
          have br5 := br4.only hg5 (by omega)
          have ho5 := ho4.only hg5 (by omega)
          have row5 := (row4.out (Out.of_only hg5) (.inr (by omega))).wide (Nat.le_refl _) hg5.size
          have hbw5 := cur_below hbw4 hg5 (by omega)
          have hgz5 : g + 1 ≤ w5.heap.size := Nat.le_trans hgz4 hg5.size
          have fz := row5.frozR (i := 0)
          have hcell : ∃ u0, w5.cell? ⟨ag, 0, none⟩ = some u0 := by
            obtain ⟨ad, e, _, hc⟩ := row5.rd' 0 _ (ivs_get zs 0 (by rw [hzl.out]; omega))
            injection e with e
            subst e
            exact ⟨_, hc⟩
          obtain ⟨u0, hu0⟩ := hcell
          have row6 := row5.setR (i := 0) (v := .int .i64 y)
          rw [ivs_setR] at row6
          have bg6 := bg5.far (p := ⟨ag, 0, none⟩) (by show g ≠ ag; omega) (.int .i64 y)
          have br6 := br5.far (p := ⟨ag, 0, none⟩) (by show w.heap.size ≠ ag; omega) (.int .i64 y)
          have ho6 := ho5.setFar (p := ⟨ag, 0, none⟩) (.inr (by show g ≤ ag; omega)) (.int .i64 y)
          have hbw6 := hbw5.setCell (p := ⟨ag, 0, none⟩) (by show w.heap.size ≤ ag; omega) (.int .i64 y)
          have hgz6 : g + 1 ≤ (w5.setCell ⟨ag, 0, none⟩ (.int .i64 y)).heap.size := by simpa using hgz5
          clear bg4 br4 ho4 row4 hbw4 hgz4 bg5 br5 ho5 row5 hbw5 cur4 cur5
          obtain ⟨D0, D1⟩ := bg6.two
          obtain ⟨R0, R1⟩ := br6.two
          have r0 := br6.free 0
          have r1 := br6.free 1
          have hHB := Lib.hid br6
          have hHR := Lib.hid row6
          clear br6 row6
          go_wp2_with fail
          have br6 := hHB.out
          refine bodyPost_ret (resGB rfl ((br6.set 0 _).set 1 _) rfl rfl rfl) rfl ⟨N, X, .slice Av X.length cv, zs.set 0 y, _, g + 1, HOK.out, by rw [List.length_set, hzl.out]; omega, rfl, by omega, by simp; try omega, ?_, ?_, (hbw6.setCell (p := ⟨w.heap.size, 0, none⟩) (Nat.le_refl _) _).setCell (p := ⟨w.heap.size, 1, none⟩) (Nat.le_refl _) _⟩
          · exact ((ho6.setFar (p := ⟨w.heap.size, 0, none⟩) (.inl (by simp)) _).setFar (p := ⟨w.heap.size, 1, none⟩) (.inl (by simp)) _).wide (by omega) (by omega)
          · exact ((hHR.out.out (Out.setCell _ (lo := w.heap.size) (hi := w.heap.size + 1) (Nat.le_refl _) (Nat.lt_succ_self _) 0 _) (.inr (by omega))).out (Out.setCell _ (lo := w.heap.size) (hi := w.heap.size + 1) (Nat.le_refl _) (Nat.lt_succ_self _) 1 _) (.inr (by omega))).wide (Nat.le_refl _) (by simp)
end Go.Proofs.YtjhknafajfpldaaDoor

/- What the law of chapter 5 says of the sums: without code. -/
namespace Go.Proofs.YtjhknafajfpldaaDoor
theorem free_iff {n : Nat} {X : List (List Int)} {S : List Int} : freeB n X S = true ↔ setB n X S = true ∧ ∀ z ∈ S, z ∉ hit n X S := by
  unfold freeB
  rw [Bool.and_eq_true, Bool.not_eq_true', List.any_eq_false]
  constructor
  · rintro ⟨h1, h2⟩
    exact ⟨h2, fun z hz h => h1 z hz (List.contains_iff_mem.2 h)⟩
  · rintro ⟨h1, h2⟩
    exact ⟨fun z hz h => h2 z hz (List.contains_iff_mem.1 h), h1⟩
theorem adm_iff {N : Int} {X : List (List Int)} {S : List Int} : admB N X S = true ↔ freeB N X S = true ∧ ∀ z ∈ S, defB N X S z = true := by
  unfold admB
  rw [Bool.and_eq_true, Bool.not_eq_true', List.any_eq_false]
  constructor
  · rintro ⟨h1, h2⟩
    exact ⟨h2, fun z hz => by simpa using h1 z hz⟩
  · rintro ⟨h1, h2⟩
    exact ⟨fun z hz => by simp [h2 z hz], h1⟩
theorem adm_free {N : Int} {X : List (List Int)} {S : List Int} (h : admB N X S = true) : freeB N X S = true := (adm_iff.1 h).1
theorem stab_adm {N : Int} {X : List (List Int)} {S : List Int} (h : stabB N X S = true) : admB N X S = true := by
  unfold stabB at h
  rw [Bool.and_eq_true, Bool.not_eq_true'] at h
  obtain ⟨h1, hf⟩ := h
  have hs := free_set hf
  have hg := setB_g hs
  obtain ⟨n, rfl, _, hp, _⟩ := gB_ok hg
  rw [hs, Bool.true_and, List.any_eq_false] at h1
  obtain ⟨_, hq⟩ := free_iff.1 hf
  refine adm_iff.2 ⟨hf, fun z hz => (defB_iff hg hp z).2 ⟨hs, ((setB_iff hg).1 hs).2 z hz, fun y hy => ?_⟩⟩
  obtain ⟨p, q, e, hpn, hqn⟩ := hp _ hy
  injection e with e1 e2
  subst e1
  have h3 := h1 p (List.mem_range.2 (by simpa using hpn))
  unfold outP at h3
  by_cases hS : (p : Int) ∈ S
  · exact absurd ((hit_mem hg hp z).2 ⟨p, hS, hy⟩) (hq z hz)
  · rw [Bool.and_eq_true, Bool.not_eq_true', Bool.not_eq_true'] at h3
    by_cases hH : (p : Int) ∈ hit n X S
    · exact hH
    · exact absurd ⟨by simpa using hS, by simpa using hH⟩ h3
theorem adm_within {N : Int} {X : List (List Int)} {S : List Int} (h : admB N X S = true) : ∀ z ∈ S, z ∈ defL N X S := fun z hz => by
  obtain ⟨hf, hd⟩ := adm_iff.1 h
  have hg := setB_g (free_set hf)
  obtain ⟨n, rfl, _, hp, _⟩ := gB_ok hg
  exact (defL_mem hg hp z).2 (hd z hz)
theorem all_within {S T : List Int} (h : ∀ z ∈ S, z ∈ T) : (S.all fun z => T.contains z) = true := List.all_eq_true.2 fun z hz => List.contains_iff_mem.2 (h z hz)
theorem defL_contains (N : Int) (X : List (List Int)) {S : List Int} (hs : setB N X S = true) (c : Int) : (defL N X S).contains c = defB N X S c := by
  have hg := setB_g hs
  obtain ⟨n, rfl, _, hp, _⟩ := gB_ok hg
  rw [Bool.eq_iff_iff, List.contains_iff_mem]
  exact defL_mem hg hp c
theorem defL_less {N : Int} {X : List (List Int)} {S S' : List Int} (h' : setB N X S' = true) (h : ∀ z ∈ S, z ∈ S') : ((defL N X S).all fun z => (defL N X S').contains z) = true := by
  have hg := setB_g h'
  obtain ⟨n, rfl, _, hp, _⟩ := gB_ok hg
  exact all_within (defL_mono hg hp h h')
/-- What a set defends that defends itself is free of quarrels too. -/
theorem adm_next {N : Int} {X : List (List Int)} {S : List Int} (h : admB N X S = true) : freeB N X (defL N X S) = true := by
  obtain ⟨hf, hd⟩ := adm_iff.1 h
  have hg := setB_g (free_set hf)
  obtain ⟨n, rfl, _, hp, _⟩ := gB_ok hg
  obtain ⟨_, hq⟩ := free_iff.1 hf
  refine free_iff.2 ⟨defL_set hg hp, fun z hz hh => ?_⟩
  obtain ⟨c, hc, hx⟩ := (hit_mem hg hp z).1 hh
  have h1 := ((defB_iff hg hp z).1 ((defL_mem hg hp z).1 hz)).2.2 c hx
  obtain ⟨s, hs, hx1⟩ := (hit_mem hg hp c).1 h1
  have h2 := ((defB_iff hg hp c).1 ((defL_mem hg hp c).1 hc)).2.2 s hx1
  exact hq s hs h2
theorem adm_step {N : Int} {X : List (List Int)} {S : List Int} (h : admB N X S = true) : admB N X (defL N X S) = true := by
  have hw := adm_within h
  have hg := setB_g (free_set (adm_free h))
  obtain ⟨n, rfl, _, hp, _⟩ := gB_ok hg
  exact adm_iff.2 ⟨adm_next h, fun z hz => (defL_mem hg hp z).1 (defL_mono hg hp hw (defL_set hg hp) z hz)⟩
end Go.Proofs.YtjhknafajfpldaaDoor
