/- Contracts of the models l9Less and Without. Condition: the slices have at most 2^40 elements. -/
import Derived.Test.YtjhknafajfpldaaDoorMg28
import Derived.Test.YtjhknafajfpldaaDoorCopyM
import Derived.Test.YtjhknafajfpldaaDoorMg20
import Derived.Test.YtjhknafajfpldaaDoorMg27
import Derived.Test.YtjhknafajfpldaaDoorMg11
import Derived.Test.YtjhknafajfpldaaDoorMg9
import Derived.Test.YtjhknafajfpldaaDoorMg3
import Derived.BigQuiet
import Derived.Deep.Quiet
namespace Go.Proofs.YtjhknafajfpldaaDoor
open Go.ChangeShapes Go.WideShapes Go.ChangeAt Go.RowKit
set_option maxRecDepth 100000
theorem woX_yes {X : List (List Int)} {c : Int} {k : Nat} (hk : k < X.length) {p q : Int} (hx : X[k] = [p, q]) (h1 : p ≠ c) (h2 : q ≠ c) : woX (X.take (k + 1)) c = woX (X.take k) c ++ [[lesI p c, lesI q c]] := by
  unfold woX
  rw [filt_yes hk (by rw [hx]; simp [h1, h2]), List.map_append, hx]
  rfl
theorem woX_no {X : List (List Int)} {c : Int} {k : Nat} (hk : k < X.length) {p q : Int} (hx : X[k] = [p, q]) (h : p = c ∨ q = c) : woX (X.take (k + 1)) c = woX (X.take k) c := by
  unfold woX
  rw [filt_no hk (by rw [hx]; rcases h with h | h <;> simp [h])]
theorem woX_len (X : List (List Int)) (c : Int) (k : Nat) : (woX (X.take k) c).length ≤ k := by
  unfold woX
  rw [List.length_map]
  exact filt_len _ _ _
end Go.Proofs.YtjhknafajfpldaaDoor

/- Sizes of the graph without a claim. -/
namespace Go.Proofs.YtjhknafajfpldaaDoor
theorem sum_two : ∀ (Y : List (List Int)), (∀ y ∈ Y, y.length = 2) → (Y.map List.length).sum = 2 * Y.length
  | [], _ => rfl
  | y :: Y, h => by
    rw [List.map_cons, List.sum_cons, sum_two Y fun z hz => h z (List.mem_cons_of_mem _ hz), h y (by simp), List.length_cons]
    omega
theorem psum_two {Y : List (List Int)} (h : ∀ y ∈ Y, y.length = 2) : psum Y Y.length = 2 * Y.length := by
  unfold psum
  rw [List.take_length]
  exact sum_two Y h
theorem woY_sizes {N : Int} {X : List (List Int)} {a : Int} (h1 : X.length ≤ 1048576) (h2 : psum X X.length ≤ 1048576) : (woY N X a).length ≤ 140000000 ∧ (∀ x ∈ woY N X a, x.length ≤ 1099511627776) ∧ psum (woY N X a) (woY N X a).length ≤ 140000000 := by
  unfold woY
  split
  · have hl : (woX X a).length ≤ X.length := by unfold woX; rw [List.length_map]; exact List.length_filter_le _ _
    have h3 : ∀ y ∈ woX X a, y.length = 2 := fun y hy => by
      unfold woX at hy
      obtain ⟨x, _, rfl⟩ := List.mem_map.1 hy
      rfl
    exact ⟨by omega, fun y hy => by rw [h3 y hy]; decide, by rw [psum_two h3]; omega⟩
  · exact ⟨by omega, fun x hx => Nat.le_trans (psum_mem X x hx) (by omega), by omega⟩
end Go.Proofs.YtjhknafajfpldaaDoor

/- Contract of the model of WithClaim. Condition: the slices have at most 2^39 elements. -/
namespace Go.Proofs.YtjhknafajfpldaaDoor
open Go.ChangeShapes Go.WideShapes Go.ChangeAt Go.RowKit
set_option maxRecDepth 100000
theorem own_tyW {w : World} {lo n b : Nat} {t : TypeId} {v : Value} {xs : List Value} (h : w.ownsRow lo t 1 v n xs) (hb : v.ownBlock = some b) : ∃ cs, w.heap[b]? = some (.cells cs t (0, 0)) := by
  rcases h.2 with ⟨rfl, _⟩ | ⟨g, cap, cur, rfl, _, hg, _⟩
  · simp [Value.ownBlock] at hb
  · have : g = b := by simpa [Value.ownBlock] using hb
    subst this
    exact ⟨cur, hg⟩
/-- The blocks of a list of lists are none of a graph's own. -/
theorem OwnSS.setW {w : World} {lo hi g : Nat} {v : Value} {X : List (List Int)} {cs : Array Value} (h : OwnSS w lo hi v X) (hb : Bx w g 26 cs) (k : Nat) (u : Value) : OwnSS (w.setCell ⟨g, k, none⟩ u) lo hi v X := by
  obtain ⟨F, hrow, hnd, hF⟩ := h
  refine ⟨F, SSR_frames.keep hrow (fun b hbF => heap_setCell_other w ⟨g, k, none⟩ b u (fun e => ?_)), hnd, hF⟩
  have hbg : b = g := e
  subst hbg
  obtain ⟨v0, es, a1, a2, a3, a4, a5, a6, a7⟩ := hrow
  rw [a4, List.mem_append] at hbF
  rcases hbF with hbF | hbF
  · have hv : v0.ownBlock = some b := by
      cases ho : v0.ownBlock with
      | none => rw [ho] at hbF; simp at hbF
      | some z => rw [ho] at hbF; simp at hbF; rw [hbF]
    obtain ⟨cur, hc⟩ := own_tyW a3 hv
    rw [hb] at hc
    injection hc with hc
    injection hc with _ ht _
    exact absurd ht (by decide)
  · rw [List.mem_flatMap] at hbF
    obtain ⟨p, hp, hbp⟩ := hbF
    obtain ⟨i, hi, rfl⟩ := List.getElem_of_mem hp
    obtain ⟨u', h1, h2, h3⟩ := a7 i es[i] (X[i]'(by omega)) (List.getElem?_eq_getElem hi) (List.getElem?_eq_getElem (by omega))
    have hv : u'.ownBlock = some b := by
      rw [h3] at hbp
      cases ho : u'.ownBlock with
      | none => rw [ho] at hbp; simp at hbp
      | some z => rw [ho] at hbp; simp at hbp; rw [hbp]
    obtain ⟨cur, hc⟩ := own_tyW h2 hv
    rw [hb] at hc
    injection hc with hc
    injection hc with _ ht _
    exact absurd ht (by decide)
theorem OwnSS.notW {w : World} {lo hi g : Nat} {v : Value} {X : List (List Int)} {cs : Array Value} (h : OwnSS w lo hi v X) (hb : Bx w g 26 cs) : v.ownBlock ≠ some g := by
  intro hv
  obtain ⟨F, ⟨v0, es, a1, a2, a3, _⟩, _, _⟩ := h
  have hvv : v = v0 := by simpa using a1
  subst hvv
  obtain ⟨cur, hc⟩ := own_tyW a3 hv
  rw [hb] at hc
  injection hc with hc
  injection hc with _ ht _
  exact absurd ht (by decide)
theorem step_appW {w : World} {ops : Array Oper} {o : Oper} {a : Act} {Q : Exit → Act → World → Prop} {K : Act → World → Prop} {E : Prop} (hgd : o.guard = none) (s y : Operand) (ho : o.op = .call { callee := .builtin .append, args := #[s, y], argTypes := #[24, 24] })
    {L M lo hi B c : Nat} {v u : Value} {X : List (List Int)} {x : List Int} {ad : Addr} (hs : a.eval s = v) (hy : a.eval y = .slice (some ad) 1 c) (h : OwnSS w L M v X) (hx : Row w lo hi 3 u (ivs x)) (hr : Rd w B (some ad) [u]) (hd : M ≤ lo) (hLM : L ≤ M) (hn : X.length + 1 ≤ 1099511627777) (hL : L ≤ w.heap.size)
    (hK : ∀ v' w', OwnSS w' L w'.heap.size v' (X ++ [x]) → Below L w w' → (∀ b, b < w.heap.size → v.ownBlock ≠ some b → w'.heap[b]? = w.heap[b]?) → K (a.put o.dst v') w') : if Region.wanted o (yielded ops a.tmps) = true then Oper.wp Tryd.prog o a w K Q else E := by
  obtain ⟨v', w', hrun, h2, h3, h4, _⟩ := run_appSS2 o.type (c := c) h hx hr hd hLM hn hL
  have hw : Region.wanted o (yielded ops a.tmps) = true := by simp [Region.wanted, hgd]
  rw [if_pos hw]
  unfold Oper.wp
  simp [execOp, ho, resolve, invoke, builtin, hs, hy, hrun, Result.andThen]
  exact hK v' w' h2 h3 h4
theorem wthB_bad {N : Int} {X : List (List Int)} {S : List Int} {k : Nat} (hk : k < S.length) (h : inr S[k] 0 (IntKind.i64.wrap (N - 1)) = false) : wthB N X S = false := by
  rw [← Bool.not_eq_true]
  intro hw
  obtain ⟨n, rfl, hn, hg, _, _, _, _, hS⟩ := wth_parts hw
  rw [IntWalk.i64_in _ (by omega), inr_t (hS _ (List.getElem_mem hk)).1 (by have := (hS _ (List.getElem_mem hk)).2; omega)] at h
  cases h
theorem wthB_g {N : Int} {X : List (List Int)} {S : List Int} (h : gB N X = false) : wthB N X S = false := by
  unfold wthB
  rw [h]
  simp
theorem wthB_all {m : Nat} {X : List (List Int)} {S : List Int} (hm : m ≤ 10) (hg : gB m X = true) (h : ∀ k (hk : k < S.length), inr S[k] 0 (IntKind.i64.wrap ((m : Int) - 1)) = true) : wthB m X S = gB ((m : Int) + 1) (wthX m X S) := by
  unfold wthB
  rw [hg, List.all_eq_true.2, Bool.and_true, Bool.true_and]
  intro a ha
  obtain ⟨k, hk, rfl⟩ := List.getElem_of_mem ha
  have := h k hk
  rwa [IntWalk.i64_in _ (by omega)] at this
/-- The pairs so far. -/
def wthT (N : Int) (X : List (List Int)) (S : List Int) (k : Nat) : List (List Int) := wthX N X (S.take k)
theorem wthT_succ {N : Int} {X : List (List Int)} {S : List Int} {k : Nat} (hk : k < S.length) : wthT N X S (k + 1) = wthT N X S k ++ [[N, S[k]]] := by
  unfold wthT wthX
  rw [List.take_succ_eq_append_getElem hk, List.map_append, ← List.append_assoc]
  rfl
theorem wthT_len (N : Int) (X : List (List Int)) (S : List Int) (k : Nat) : (wthT N X S k).length ≤ X.length + k := by
  unfold wthT wthX
  rw [List.length_append, List.length_map, List.length_take]
  omega
theorem mn_le (a b : Int) : mn a b ≤ a := by unfold mn; split <;> omega
section
variable {w : World} {A A' : Option Addr} {n c n' c' : Nat} {N : Int} {X : List (List Int)} {S : List Int}
set_option maxHeartbeats 16000000 in
theorem specWithClaim_any (hl : Hid (X.length = n)) (hn : n ≤ 549755813888) (hs : Hid (∀ x ∈ X, x.length ≤ 1099511627776)) (hr : RdSS w w.heap.size A X) (hl' : Hid (S.length = n')) (hn' : n' ≤ 549755813888) (hr' : Rd w w.heap.size A' (ivs S)) :
    Calls Tryd.prog 7 #[.agg #[.int .i64 N, .slice A n c], .slice A' n' c'] w (FreshGB (wtM N X S) (wtY N X S) (wthB N X S) w) := by
  obtain ⟨W2, hW2, bx1, bx2, hb2, hs2⟩ := two_graphs w #[Value.int IntKind.i64 N, Value.slice A n c] #[Value.int IntKind.i64 0, Value.slice none 0 0] 26
  have HR := Lib.hid (hr.below hb2)
  have HR' := Lib.hid (hr'.below hb2)
  obtain ⟨C0, C1⟩ := bx1.two
  have hW2' := hW2.symm
  have HS2 := Lib.hid hs2
  have HM := Lib.hid (show w.heap.size + 2 ≤ W2.heap.size by rw [HS2.out]; exact Nat.le_refl _)
  clear hW2 hr hr' hs2
  go_enter Tryd.func7, Tryd.ntmps7
  go_wp2_with fail
  refine (specL4Copy_any (N := N) (c := c) hl (by omega) hs (HR.out.more hb2.size)).mono ?_
  rintro e w3 ⟨v, rfl, hown, hb3⟩
  have hb4 := hb2.trans (hb3.mono hb2.size)
  have bx13 := bx1.new hb3
  have bx23 := bx2.new hb3
  have hv1 := hown.one
  have k4 := alloc_new w3 (Obj.cells #[Value.int .i64 0, .slice none 0 0] 26)
  have bx4 := Bx.made w3 26 #[Value.int .i64 0, .slice none 0 0]
  have z4 : (w3.alloc (Obj.cells #[Value.int .i64 0, .slice none 0 0] 26)).heap.size = w3.heap.size + 1 := by simp
  obtain ⟨W4, hW4⟩ : ∃ u : World, u = w3.alloc (Obj.cells #[Value.int .i64 0, .slice none 0 0] 26) := ⟨_, rfl⟩
  rw [← hW4] at k4 bx4 z4
  have hW4' := hW4.symm
  clear hW4 hW2' C0 C1
  have k5 : Below w3.heap.size w3 (W4.setRow w3.heap.size #[Value.int .i64 N, v]) := k4.trans ((setRow_out W4 w3.heap.size #[Value.int .i64 N, v] (Nat.le_refl _) (Nat.lt_succ_self _)).below (Nat.le_refl _) k4.size)
  have bx5 := bx4.setRow #[Value.int .i64 N, v]
  have z5 : (W4.setRow w3.heap.size #[Value.int .i64 N, v]).heap.size = w3.heap.size + 1 := by simp [World.setRow, z4]
  obtain ⟨W5, hW5⟩ : ∃ u : World, u = W4.setRow w3.heap.size #[Value.int .i64 N, v] := ⟨_, rfl⟩
  rw [← hW5] at k5 bx5 z5
  have HX5 := Lib.hid hW5.symm
  have b1 := bx13.new k5
  have b2 := bx23.new k5
  have hov5 := hown.new k5
  have hb6 := hb4.trans (k5.mono hb4.size)
  have HR5 := Lib.hid ((HR.out.below (hb3.mono hb2.size)).below (k5.mono hb4.size))
  have HR5' := Lib.hid ((HR'.out.below (hb3.mono hb2.size)).below (k5.mono hb4.size))
  obtain ⟨C0, C1⟩ := b1.two
  obtain ⟨D0, D1⟩ := bx5.two
  have F0 := bx5.free 0
  have hM3 : w.heap.size + 2 ≤ w3.heap.size := Nat.le_trans HM.out hb3.size
  obtain ⟨M1, hM1⟩ : ∃ z, z = wrap64 (mn 100 N + 1) := ⟨_, rfl⟩
  have hM1' : wrap64 (mn 100 N + 1) = M1 := hM1.symm
  have HM1 := Lib.hid hM1
  have bx6 := bx5.set 0 (.int .i64 M1)
  have hov6 := hov5.setW bx5 0 (.int .i64 M1)
  have b16 := b1.far (p := ⟨w3.heap.size, 0, none⟩) (by show w.heap.size ≠ w3.heap.size; omega) (.int .i64 M1)
  have b26 := b2.far (p := ⟨w3.heap.size, 0, none⟩) (by show w.heap.size + 1 ≠ w3.heap.size; omega) (.int .i64 M1)
  have k6 : Below w3.heap.size W5 (W5.setCell ⟨w3.heap.size, 0, none⟩ (.int .i64 M1)) := (Below.refl w3.heap.size W5).setCell (Nat.le_refl _) _
  clear hW5 hM1 k4 z4 k5 hov5 hown
  go_wp2_with (first | (refine stGR rfl (.tmp 6) (.tmp 9) rfl bx4 rfl hv1 rfl rfl ?_; rw [HX5.out]) | (go_at_call 27; refine (smin_any 100 N _).mono ?_; rintro e w1 ⟨rfl, rfl⟩))
  clear C0 C1 D0 D1 F0 b1 b2 bx5 bx4 hM1' HX5 hW4'
  obtain ⟨W6, hW6⟩ : ∃ u : World, u = W5.setCell ⟨w3.heap.size, 0, none⟩ (.int .i64 M1) := ⟨_, rfl⟩
  rw [← hW6] at bx6 hov6 b16 b26 k6 ⊢
  have hb7 := hb6.trans (k6.mono (by omega))
  have HR6 := Lib.hid (HR5.out.below (k6.mono (by omega)))
  have HR6' := Lib.hid (HR5'.out.below (k6.mono (by omega)))
  have z6 := k6.size
  rw [z5] at z6
  have HM2 := Lib.hid (show w.heap.size + 2 ≤ W2.heap.size from HM.out)
  have HW3 := Lib.hid hb3.size
  obtain ⟨Q, hQ⟩ : ∃ z, z = W2.heap.size := ⟨_, rfl⟩
  rw [← hQ] at hov6 HM2 HW3
  have HN1 := Lib.hid (show M1 = wrap64 (mn 100 N + 1) from HM1.out)
  obtain ⟨R, hR⟩ : ∃ z, z = IntKind.i64.wrap (N - 1) := ⟨_, rfl⟩
  have HRR := Lib.hid hR
  have hR1 : IntKind.i64.wrap (N - 1) = R := hR.symm
  clear hW6 k6 hb6 HR5 HR5' HM1 hR hQ
  generalize hG : w3.heap.size = G at *
  have hGQ : Q ≤ G := HW3.out
  go_loopw [7] (fun i wr => ∃ (k : Nat) (v : Value), k ≤ n' ∧ i = .int .i64 k ∧ Bx wr G 26 #[Value.int .i64 M1, v] ∧ OwnSS wr Q wr.heap.size v (wthT N X S k) ∧ Below Q W6 wr ∧ G + 1 ≤ wr.heap.size ∧ Hid (∀ j (hj : j < S.length), j < k → inr S[j] 0 R = true)) (fun i _ => n' - (intOf i).toNat)
  case atStart => exact ⟨0, v, Nat.zero_le _, rfl, bx6, by simpa [wthT, wthX] using hov6.wide (Nat.le_refl _) (by omega), Below.refl _ _, by omega, Lib.hid (fun j _ hj => absurd hj (Nat.not_lt_zero _))⟩
  case round =>
    obtain ⟨k, v, hk, rfl, bxv, hov, hbw, hGs, hgood⟩ := hrel
    clear bx6 hov6
    have hm2 := HM2.out
    have bxa : Bx wr w.heap.size 26 #[Value.int IntKind.i64 N, Value.slice A n c] := (hbw.block _ (by omega)).trans b16
    have bxb : Bx wr (w.heap.size + 1) 26 #[Value.int IntKind.i64 0, Value.slice none 0 0] := (hbw.block _ (by omega)).trans b26
    obtain ⟨C0, C1⟩ := bxa.two
    have hrk := HR6.out.below (hbw.mono (by omega))
    have hrk' := HR6'.out.below (hbw.mono (by omega))
    have hbz := hb7.trans (hbw.mono (by omega))
    by_cases hlt : k < n'
    · have hkz : k < S.length := by rw [hl'.out]; exact hlt
      obtain ⟨ad, rfl, hab, hc⟩ := ivs_at hrk' hkz
      have HBADk := Lib.hid (fun h : inr S[k] 0 R = false => wthB_bad (N := N) (X := X) hkz (by rw [← HRR.out]; exact h))
      have HSU := Lib.hid (wthT_succ (N := N) (X := X) hkz)
      have HGD := Lib.hid (fun h : inr S[k] 0 R = true => show ∀ j (hj : j < S.length), j < k + 1 → inr S[j] 0 R = true from fun j hj hjk => by
        rcases Nat.lt_or_ge j k with h' | h'
        · exact hgood.out j hj h'
        · obtain rfl : j = k := by omega
          exact h)
      obtain ⟨x, hx⟩ : ∃ x, x = S[k] := ⟨_, rfl⟩
      rw [← hx] at hc HBADk HSU HGD
      have i0 : (0 : Int) ≤ (k : Int) := by omega
      have i1 : (k : Int) < (n' : Int) := by omega
      have KE := fun (u : World) (q : Below wr.heap.size wr u) => show Below wr.heap.size wr u ∧ u.cell? ⟨w.heap.size, 0, none⟩ = some (.int .i64 N) ∧ u.cell? ⟨w.heap.size, 1, none⟩ = some (.slice A n c) ∧ u.cell? (ad.add k) = some (.int .i64 x) from ⟨q, (bxa.new q).two.1, (bxa.new q).two.2, (q.cell (p := ad.add k) (by rw [add_blk]; have := hbz.size; omega)).trans hc⟩
      clear hx hgood
      by_cases h1 : inr x 0 R = true
      · have HI := Lib.hid h1
        have HGK := Lib.hid (HGD.out h1)
        clear h1
        go_wp2_with fail
        refine wp_region_quiet (C := fun u => Below wr.heap.size wr u ∧ u.cell? ⟨w.heap.size, 0, none⟩ = some (.int .i64 N) ∧ u.cell? ⟨w.heap.size, 1, none⟩ = some (.slice A n c) ∧ u.cell? (ad.add k) = some (.int .i64 x)) (by kernel_rfl) (by kernel_rfl) (KE _ (Below.refl _ _).drew) ?_
        rw [List.toList_toArray]
        go_big_quiet_want
        go_big_quiet_op
        go_big_quiet_on
        go_big_quiet_want
        go_big_quiet_op
        go_big_quiet_on
        go_big_quiet_want
        apply Exists.intro
        refine ⟨fun u hu => ?_, ?_⟩
        · obtain ⟨hu0, hu1, hu2, hu3⟩ := hu
          unfold Oper.quietAt
          go_simp
          try rfl
        simp only [Act.put, List.setIfInBounds_toArray, List.set_cons_zero, List.set_cons_succ]
        go_big_quiet_on
        go_big_quiet_want
        apply Exists.intro
        refine ⟨fun u hu => ?_, ?_⟩
        · obtain ⟨hu0, hu1, hu2, hu3⟩ := hu
          unfold Oper.quietAt
          go_simp
          try rfl
        simp only [Act.put, List.setIfInBounds_toArray, List.set_cons_zero, List.set_cons_succ]
        go_big_quiet_on
        go_big_quiet_want
        apply Exists.intro
        refine ⟨fun u hu => ?_, ?_⟩
        · obtain ⟨hu0, hu1, hu2, hu3⟩ := hu
          unfold Oper.quietAt
          go_simp
          try rfl
        simp only [Act.put, List.setIfInBounds_toArray, List.set_cons_zero, List.set_cons_succ]
        go_big_quiet_on
        go_big_quiet_want
        apply Exists.intro
        refine ⟨fun u hu => ?_, ?_⟩
        · obtain ⟨hu0, hu1, hu2, hu3⟩ := hu
          unfold Oper.quietAt
          go_simp
          try rfl
        simp only [Act.put, List.setIfInBounds_toArray, List.set_cons_zero, List.set_cons_succ]
        go_big_quiet_on
        go_big_quiet_want
        apply Exists.intro
        refine ⟨fun u hu => ?_, ?_⟩
        · obtain ⟨hu0, hu1, hu2, hu3⟩ := hu
          unfold Oper.quietAt
          go_simp
          try rfl
        simp only [Act.put, List.setIfInBounds_toArray, List.set_cons_zero, List.set_cons_succ]
        go_big_quiet_on
        go_big_quiet_want
        refine ⟨.bool true, fun u hu => ?_, ?_⟩
        · obtain ⟨hu0, hu1, hu2, hu3⟩ := hu
          unfold Oper.quietAt
          go_simp
          refine (l1In_any _ _ _ _).mono ?_
          rintro e u9 ⟨he, rfl⟩
          rw [HI.out] at he
          exact ⟨he, KE _ hu0⟩
        simp only [Act.put, List.setIfInBounds_toArray, List.set_cons_zero, List.set_cons_succ]
        go_big_quiet_on
        go_big_quiet_want
        apply Exists.intro
        refine ⟨fun u hu => ?_, ?_⟩
        · obtain ⟨hu0, hu1, hu2, hu3⟩ := hu
          unfold Oper.quietAt
          go_simp
          try rfl
        simp only [Act.put, List.setIfInBounds_toArray, List.set_cons_zero, List.set_cons_succ]
        go_big_quiet_on
        refine wpQuiet_nil ?_
        rintro u ⟨k9, E0, E1, hcu⟩
        have hLn := wthT_len N X S k
        have bxu := bxv.new k9
        have hou := hov.new k9
        have hbu := hbw.trans (k9.mono (by omega))
        have hzu := k9.size
        obtain ⟨Y, hY⟩ : ∃ Y, Y = wthT N X S k := ⟨_, rfl⟩
        rw [← hY] at hou HSU hLn
        have hYl : Hid (Y.length + 1 ≤ 1099511627777) := Lib.hid (by have := hl.out; omega)
        have k1 := alloc_new u (Obj.cells #[Value.int .i64 N, .int .i64 x] 3)
        obtain ⟨Wa, hWa⟩ : ∃ z : World, z = u.alloc (Obj.cells #[Value.int .i64 N, .int .i64 x] 3) := ⟨_, rfl⟩
        have hsa : Wa.heap.size = u.heap.size + 1 := by rw [hWa]; simp
        have hra := Row.made (w := u) u.heap.size #[Value.int .i64 N, .int .i64 x] 2 3 (Nat.le_refl _) rfl (by decide)
        rw [← hWa] at k1 hra
        have k2 := alloc_new Wa (Obj.cells #[Value.slice (some ⟨u.heap.size, 0, none⟩) 2 2] 27)
        have hrb := Rd.made Wa #[Value.slice (some ⟨u.heap.size, 0, none⟩) 2 2] 27
        obtain ⟨Wb, hWb⟩ : ∃ z : World, z = Wa.alloc (Obj.cells #[Value.slice (some ⟨u.heap.size, 0, none⟩) 2 2] 27) := ⟨_, rfl⟩
        have hsb : Wb.heap.size = u.heap.size + 2 := by rw [hWb]; simp [hsa]
        rw [← hWb] at k2 hrb
        rw [hsa] at hrb
        have k3 := trans_new k1 k2
        have HOW := Lib.hid ((hou.new k3).wide (Nat.le_refl _) hzu)
        have HRW := Lib.hid (hra.new k2)
        have HRD := Lib.hid hrb
        have D1 := bxu.two.2
        have D1a := (bxu.new k1).two.2
        have D1b := (bxu.new k3).two.2
        have HBB := Lib.hid (bxu.new k3)
        have HNW := Lib.hid (HOW.out.notW HBB.out)
        have HK3 := Lib.hid k3
        have hWa' := hWa.symm
        have hWb' := hWb.symm
        have HSB := Lib.hid hsb
        have hQu : Q ≤ u.heap.size := by omega
        have hGu : G < u.heap.size := by omega
        clear hWa hWb k1 k2 k3 hra hrb hov bxv hou hY hrk hrk' KE C0 C1 hc
        go_wp2_with fail
        go_region_law (first
          | (refine step_appW (X := Y) (x := [N, x]) (u := .slice (some ⟨u.heap.size, 0, none⟩) 2 2) (v := v) (L := Q) (M := u.heap.size) (lo := u.heap.size) (hi := u.heap.size + 1) (c := 1) (ad := ⟨u.heap.size + 1, 0, none⟩) rfl (.tmp 33) (.tmp 41) rfl (by simp [Act.eval]) (by simp [Act.eval]) (by first | exact HOW.out | exact HOW.out.new (Below.refl _ _).drew) (by first | exact HRW.out | exact HRW.out.drewN 1) (by first | exact HRD.out | exact HRD.out.drewN 1) (Nat.le_refl _) hQu hYl.out (by have := HSB.out; simp; omega) ?_; intro v2 w2 hown2 hbw2 hkp2; obtain ⟨A8, c8, rfl, _, _, _⟩ := hown2.rd (n := Y.length + 1) (by simp); have hb9 : Below Q u w2 := (by first | exact (HK3.out.mono hQu).trans hbw2 | exact (HK3.out.mono hQu).drew.trans hbw2); have bx9 : Bx w2 G 26 #[Value.int .i64 M1, v] := (by first | exact (hkp2 G (by have := HSB.out; omega) HNW.out).trans HBB.out | exact (hkp2 G (by have := HSB.out; show G < Wb.heap.size; omega) HNW.out).trans HBB.out.drew_); have c2 := bx9.two.2; have f2 := bx9.free 1))
        all_goals
          have hz9 := hb9.size
          go_wp2_with fail
          go_roundw
          case rel => exact ⟨k + 1, .slice A8 (Y.length + 1) c8, by omega, by go_num, bx9.set 1 _, by rw [HSU.out]; exact (hown2.setW bx9 1 _).wide (Nat.le_refl _) (by simp), hbu.trans (hb9.setCell (p := ⟨G, 1, none⟩) hGQ _), by simp; omega, HGK⟩
          case measure => simp [intOf]; omega
      · have HI : Hid (inr x 0 R = false) := Lib.hid (by simpa using h1)
        have HCf := Lib.hid (HBADk.out HI.out)
        have HLx := Lib.hid (show wtY N X S = X by unfold wtY; rw [HCf.out]; rfl)
        have HLm := Lib.hid (show wtM N X S = N by unfold wtM; rw [HCf.out]; rfl)
        clear h1
        go_wp2_with fail
        refine wp_region_quiet (C := fun u => Below wr.heap.size wr u ∧ u.cell? ⟨w.heap.size, 0, none⟩ = some (.int .i64 N) ∧ u.cell? ⟨w.heap.size, 1, none⟩ = some (.slice A n c) ∧ u.cell? (ad.add k) = some (.int .i64 x)) (by kernel_rfl) (by kernel_rfl) (KE _ (Below.refl _ _).drew) ?_
        rw [List.toList_toArray]
        go_big_quiet_want
        go_big_quiet_op
        go_big_quiet_on
        go_big_quiet_want
        go_big_quiet_op
        go_big_quiet_on
        go_big_quiet_want
        apply Exists.intro
        refine ⟨fun u hu => ?_, ?_⟩
        · obtain ⟨hu0, hu1, hu2, hu3⟩ := hu
          unfold Oper.quietAt
          go_simp
          try rfl
        simp only [Act.put, List.setIfInBounds_toArray, List.set_cons_zero, List.set_cons_succ]
        go_big_quiet_on
        go_big_quiet_want
        apply Exists.intro
        refine ⟨fun u hu => ?_, ?_⟩
        · obtain ⟨hu0, hu1, hu2, hu3⟩ := hu
          unfold Oper.quietAt
          go_simp
          try rfl
        simp only [Act.put, List.setIfInBounds_toArray, List.set_cons_zero, List.set_cons_succ]
        go_big_quiet_on
        go_big_quiet_want
        apply Exists.intro
        refine ⟨fun u hu => ?_, ?_⟩
        · obtain ⟨hu0, hu1, hu2, hu3⟩ := hu
          unfold Oper.quietAt
          go_simp
          try rfl
        simp only [Act.put, List.setIfInBounds_toArray, List.set_cons_zero, List.set_cons_succ]
        go_big_quiet_on
        go_big_quiet_want
        apply Exists.intro
        refine ⟨fun u hu => ?_, ?_⟩
        · obtain ⟨hu0, hu1, hu2, hu3⟩ := hu
          unfold Oper.quietAt
          go_simp
          try rfl
        simp only [Act.put, List.setIfInBounds_toArray, List.set_cons_zero, List.set_cons_succ]
        go_big_quiet_on
        go_big_quiet_want
        apply Exists.intro
        refine ⟨fun u hu => ?_, ?_⟩
        · obtain ⟨hu0, hu1, hu2, hu3⟩ := hu
          unfold Oper.quietAt
          go_simp
          try rfl
        simp only [Act.put, List.setIfInBounds_toArray, List.set_cons_zero, List.set_cons_succ]
        go_big_quiet_on
        go_big_quiet_want
        refine ⟨.bool false, fun u hu => ?_, ?_⟩
        · obtain ⟨hu0, hu1, hu2, hu3⟩ := hu
          unfold Oper.quietAt
          go_simp
          refine (l1In_any _ _ _ _).mono ?_
          rintro e u9 ⟨he, rfl⟩
          rw [HI.out] at he
          exact ⟨he, KE _ hu0⟩
        simp only [Act.put, List.setIfInBounds_toArray, List.set_cons_zero, List.set_cons_succ]
        go_big_quiet_on
        go_big_quiet_want
        apply Exists.intro
        refine ⟨fun u hu => ?_, ?_⟩
        · obtain ⟨hu0, hu1, hu2, hu3⟩ := hu
          unfold Oper.quietAt
          go_simp
          try rfl
        simp only [Act.put, List.setIfInBounds_toArray, List.set_cons_zero, List.set_cons_succ]
        go_big_quiet_on
        refine wpQuiet_nil ?_
        rintro u ⟨k9, E0, E1, hcu⟩
        have hby := hbz.trans (k9.mono hbz.size)
        clear C0 C1
        go_wp2_with fail
        refine (specL4Copy_any (N := N) (c := c) hl (by omega) hs ((hrk.below (k9.mono hbz.size)).more hby.size)).mono ?_
        rintro e w8 ⟨v8, rfl, hown8, hb8⟩
        have bx28 := bxb.new (trans_new k9 hb8)
        have hv8 := hown8.one
        have hku := k9.size
        have hk8 := keep_result #[.int .i64 N, v8] hown8 (hby.trans (hb8.mono hby.size)) (by omega) (by have := hb8.size; omega)
        go_wp2_with (first | (refine stGR rfl (.tmp 4) (.tmp 31) rfl bx28 rfl hv8 rfl rfl ?_))
        refine bodyPost_ret (resGB rfl (bx28.setRow _) rfl rfl rfl) rfl ⟨v8, by rw [HCf.out, HLm.out]; rfl, by rw [HLx.out]; exact hk8.1, hk8.2⟩
    · have e : k = n' := by omega
      subst e
      have HY : Hid (wthT N X S k = wthX N X S) := Lib.hid (by unfold wthT; rw [List.take_of_length_le (by rw [hl'.out]; exact Nat.le_refl _)])
      have HAL := Lib.hid (fun (j : Nat) (hj : j < S.length) => hgood.out j hj (by rw [← hl'.out]; exact hj))
      rw [HY.out] at hov
      clear hgood
      by_cases hg : gB N X = true
      case neg =>
        have HG : Hid (gB N X = false) := Lib.hid (by simpa using hg)
        have HCf := Lib.hid (wthB_g (S := S) HG.out)
        have HLx := Lib.hid (show wtY N X S = X by unfold wtY; rw [HCf.out]; rfl)
        have HLm := Lib.hid (show wtM N X S = N by unfold wtM; rw [HCf.out]; rfl)
        clear hg hov
        go_wp2_with fail
        refine (specIsGraph_any (N := N) (X := X) (c := c) hl (by omega) (hrk.more hbz.size)).mono ?_
        rintro e w7 ⟨rfl, hb8⟩
        rw [HG.out]
        have bxa7 := bxa.new hb8
        have hby := hbz.trans (hb8.mono hbz.size)
        have hz8 := hb8.size
        obtain ⟨E0, E1⟩ := bxa7.two
        clear C0 C1
        go_wp2_with fail
        refine (specL4Copy_any (N := N) (c := c) hl (by omega) hs ((hrk.below (hb8.mono hbz.size)).more hby.size)).mono ?_
        rintro e w8 ⟨v8, rfl, hown8, hb9⟩
        have bx28 := bxb.new (trans_new hb8 hb9)
        have hv8 := hown8.one
        have hk8 := keep_result #[.int .i64 N, v8] hown8 (hby.trans (hb9.mono hby.size)) (by omega) (by have := hb9.size; omega)
        go_wp2_with (first | (refine stGR rfl (.tmp 4) (.tmp 53) rfl bx28 rfl hv8 rfl rfl ?_))
        refine bodyPost_ret (resGB rfl (bx28.setRow _) rfl rfl rfl) rfl ⟨v8, by rw [HCf.out, HLm.out]; rfl, by rw [HLx.out]; exact hk8.1, hk8.2⟩
      case pos =>
        have HG := Lib.hid hg
        obtain ⟨m, rfl, hm, _⟩ := gB_ok hg
        have HW := Lib.hid (wthB_all (S := S) hm hg (fun j hj => by rw [← HRR.out]; exact HAL.out j hj))
        have hM : M1 = ((m + 1 : Nat) : Int) := by
          rw [HN1.out]
          have e1 : mn 100 (m : Int) = m := by unfold mn; rw [if_pos (by omega)]
          rw [e1, IntWalk.wrap64_in _ (by omega)]
          omega
        subst hM
        have HYL : Hid ((wthX m X S).length ≤ 1099511627776) := Lib.hid (by have := wthT_len (m : Int) X S k; rw [HY.out] at this; have := hl.out; omega)
        obtain ⟨Av, cv, rfl, hrv, _, _⟩ := hov.rd (n := (wthX m X S).length) rfl
        have HOV := Lib.hid hov
        clear hg hov
        by_cases hg2 : gB ((m + 1 : Nat) : Int) (wthX m X S) = true
        case neg =>
          have HG2 : Hid (gB ((m + 1 : Nat) : Int) (wthX m X S) = false) := Lib.hid (by simpa using hg2)
          have HCf := Lib.hid (show wthB m X S = false by rw [HW.out]; exact HG2.out)
          have HLx := Lib.hid (show wtY m X S = X by unfold wtY; rw [HCf.out]; rfl)
          have HLm := Lib.hid (show wtM m X S = m by unfold wtM; rw [HCf.out]; rfl)
          clear hg2
          go_wp2_with fail
          refine (specIsGraph_any (N := m) (X := X) (c := c) hl (by omega) (hrk.more hbz.size)).mono ?_
          rintro e w7 ⟨rfl, hb8⟩
          rw [HG.out]
          have bxa7 := bxa.new hb8
          have bxv7 := bxv.new hb8
          have hrv7 := HOV.out.new hb8
          have hby := hbz.trans (hb8.mono hbz.size)
          have hz8 := hb8.size
          obtain ⟨E0, E1⟩ := bxa7.two
          obtain ⟨G0, G1⟩ := bxv7.two
          clear C0 C1
          go_wp2_with fail
          refine (specIsGraph_any (N := ((m + 1 : Nat) : Int)) (X := wthX m X S) (c := cv) (Lib.hid rfl) HYL.out (hrv7.rd'.more hz8)).mono ?_
          rintro e w9 ⟨rfl, hb9⟩
          rw [HG2.out]
          have bxa9 := bxa7.new hb9
          have hb10 := trans_new hb8 hb9
          have hbx := hby.trans (hb9.mono hby.size)
          have hz9 := hb9.size
          clear E0 E1 G0 G1
          obtain ⟨E0, E1⟩ := bxa9.two
          go_wp2_with fail
          refine (specL4Copy_any (N := m) (c := c) hl (by omega) hs ((hrk.below (hb10.mono hbz.size)).more hbx.size)).mono ?_
          rintro e w8 ⟨v8, rfl, hown8, hb11⟩
          have bx28 := bxb.new (trans_new hb10 hb11)
          have hv8 := hown8.one
          have hk8 := keep_result #[.int .i64 m, v8] hown8 (hbx.trans (hb11.mono hbx.size)) (by omega) (by have := hb11.size; omega)
          go_wp2_with (first | (refine stGR rfl (.tmp 4) (.tmp 53) rfl bx28 rfl hv8 rfl rfl ?_))
          refine bodyPost_ret (resGB rfl (bx28.setRow _) rfl rfl rfl) rfl ⟨v8, by rw [HCf.out, HLm.out]; rfl, by rw [HLx.out]; exact hk8.1, hk8.2⟩
        case pos =>
          have HG2 := Lib.hid hg2
          have HCf := Lib.hid (show wthB m X S = true by rw [HW.out]; exact HG2.out)
          have HLx := Lib.hid (show wtY m X S = wthX m X S by unfold wtY; rw [HCf.out]; rfl)
          have HLm := Lib.hid (show wtM m X S = ((m + 1 : Nat) : Int) by unfold wtM; rw [HCf.out]; simp)
          clear hg2
          go_wp2_with fail
          refine (specIsGraph_any (N := m) (X := X) (c := c) hl (by omega) (hrk.more hbz.size)).mono ?_
          rintro e w7 ⟨rfl, hb8⟩
          rw [HG.out]
          have bxv7 := bxv.new hb8
          have hrv7 := HOV.out.new hb8
          have hby := hbz.trans (hb8.mono hbz.size)
          have hz8 := hb8.size
          obtain ⟨G0, G1⟩ := bxv7.two
          clear C0 C1
          go_wp2_with fail
          refine (specIsGraph_any (N := ((m + 1 : Nat) : Int)) (X := wthX m X S) (c := cv) (Lib.hid rfl) HYL.out (hrv7.rd'.more hz8)).mono ?_
          rintro e w9 ⟨rfl, hb9⟩
          rw [HG2.out]
          have bxv9 := bxv7.new hb9
          have hov9 := hrv7.new hb9
          have hb10 := trans_new hb8 hb9
          have bxb9 := bxb.new hb10
          have hbx := hby.trans (hb9.mono hby.size)
          have hz9 := hb9.size
          have hv9 := hov9.one
          clear G0 G1
          go_wp2_with (first | (refine ldGR rfl (.tmp 6) rfl bxv9 rfl rfl ?_) | (refine stGR rfl (.tmp 4) (.tmp 54) rfl bxb9 rfl hv9 rfl rfl ?_))
          have hk9 := keep_result #[.int .i64 ((m + 1 : Nat) : Int), .slice Av (wthX m X S).length cv] (hov9.wide (Nat.le_refl _) (by omega)) hbx (by omega) (by omega)
          refine bodyPost_ret (resGB rfl (bxb9.setRow _) rfl rfl rfl) rfl ⟨_, by rw [HCf.out, HLm.out]; rfl, by rw [HLx.out]; exact hk9.1, hk9.2⟩
theorem wtY_sizes (h1 : X.length ≤ 1048576) (h2 : psum X X.length ≤ 1048576) (h3 : S.length ≤ 1048576) : (wtY N X S).length ≤ 140000000 ∧ (∀ x ∈ wtY N X S, x.length ≤ 1099511627776) ∧ psum (wtY N X S) (wtY N X S).length ≤ 140000000 := by
  unfold wtY
  split
  · next h =>
    obtain ⟨m, rfl, hm, _, _, _, hp, _, _⟩ := wth_parts h
    have h4 : ∀ y ∈ wthX m X S, y.length = 2 := fun y hy => by
      obtain ⟨p, q, rfl, _, _⟩ := hp y hy
      rfl
    have h5 : (wthX (m : Int) X S).length ≤ 2097152 := by unfold wthX; rw [List.length_append, List.length_map]; omega
    exact ⟨by omega, fun y hy => by rw [h4 y hy]; decide, by rw [psum_two h4]; omega⟩
  · exact ⟨by omega, fun x hx => Nat.le_trans (psum_mem X x hx) (by omega), by omega⟩
end
end Go.Proofs.YtjhknafajfpldaaDoor
