/- Contract of the code's RightOfReply. Conditions: ints of 64 bits; the slices have at most 2^40 elements. -/
import Derived.Test.YtignchefkihdaaaBckC
import Derived.Test.YtignchefkihdaaaOrdC
import Derived.Test.YtignchefkihdaaaGrow
import Derived.Test.YtignchefkihdaaaRigMath
import Derived.RangeFuncBox
import Derived.Maps.AppendAt
import Derived.Maps.OwnIn
namespace Go.Proofs.Ytignchefkihdaaa
open Go.ChangeShapes Go.WideShapes Go.ChangeAt Go.RowKit Go.Shelf
attribute [local go_sem] Oper.semAt_some
set_option maxRecDepth 100000
theorem ivs_snc (L : List Int) (x : Int) : ivs (L ++ [x]) = ivs L ++ [.int .i64 x] := by simp [ivs]
/-- The marks that the loops over functions have left. -/
abbrev rmk (Ds : List Nat) : List Deferred := Ds.map fun D => { target := .collected D, args := #[] }
/-- What lies in the cells between two rounds of the outer loop. -/
structure RgSt (w : World) (G Bm : Nat) (om : Obj) (V : List Value) (Ds : List Nat) (W : World) : Prop where
  b : Below w.heap.size w W
  side : Boxed W G 127 (.map (some Bm))
  map : W.heap[Bm]? = some om
  lit : W.heap[G + 3]? = some (.cells #[.bool false, .bool true] 4 (0, 0))
  row : ∃ v, Boxed W (G + 2) 25 v ∧ W.ownsRow w.heap.size 3 1 v V.length V
  marks : Ds.Nodup ∧ ∀ D ∈ Ds, W.heap[D]? = some (.deferred (some [])) ∧ G + 4 ≤ D
section
variable {w : World} {G Bm : Nat} {om : Obj} {V : List Value} {Ds : List Nat} {W W' : World}
theorem lt_some {W : World} {k : Nat} {o : Obj} (h : W.heap[k]? = some o) : k < W.heap.size := (Array.getElem?_eq_some_iff.1 h).1
/-- A turn of a block that holds none of it. -/
theorem RgSt.turn (h : RgSt w G Bm om V Ds W) {row : Option Nat} (hg : W.grownBy W' row) (hr : ∀ r, row = some r → W.heap.size ≤ r ∨ ∃ o, W.heap[r]? = some o ∧ o.isCells = false ∧ r ≠ Bm ∧ r ∉ Ds) (hb : Below w.heap.size w W') : RgSt w G Bm om V Ds W' := by
  have ne : ∀ {k : Nat} {o : Obj}, W.heap[k]? = some o → (o.isCells = true ∨ k = Bm ∨ k ∈ Ds) → some k ≠ row := by
    rintro k o hk hc rfl
    rcases hr k rfl with h1 | ⟨o', ho', h2, h3, h4⟩
    · have := lt_some hk; omega
    · rw [hk] at ho'
      cases ho'
      rcases hc with e | e | e
      · rw [h2] at e; cases e
      · exact h3 e
      · exact h4 e
  have kp : ∀ {k : Nat} {o : Obj}, W.heap[k]? = some o → (o.isCells = true ∨ k = Bm ∨ k ∈ Ds) → W'.heap[k]? = some o := fun hk hc => (hg.block _ (lt_some hk) (ne hk hc)).trans hk
  obtain ⟨v, hv, hrow⟩ := h.row
  refine ⟨hb, kp h.side (.inl rfl), kp h.map (.inr (.inl rfl)), kp h.lit (.inl rfl), ⟨v, kp hv (.inl rfl), hrow.kept hg ?_⟩, h.marks.1, fun D hD => ⟨kp (h.marks.2 D hD).1 (.inr (.inr hD)), (h.marks.2 D hD).2⟩⟩
  rcases hrow.2 with ⟨rfl, _⟩ | ⟨g, cap, cur, rfl, _, hgb, _⟩
  · exact .inl rfl
  · exact .inr (fun e => ne hgb (.inl rfl) (by simpa [Value.ownBlock] using e))
theorem RgSt.new (h : RgSt w G Bm om V Ds W) (hb : Below W.heap.size W W') : RgSt w G Bm om V Ds W' :=
  h.turn (row := none) ⟨hb.os, hb.tape, hb.output, hb.size, fun i hi _ => hb.block i hi⟩ (fun r e => by cases e) (h.b.trans (hb.mono h.b.size))
theorem RgSt.own {β : Type} {V : β → List Value} {n₁ : Nat} (h1 : w.heap.size ≤ n₁) (h2 : Bm < n₁) (h3 : ∀ D ∈ Ds, D < n₁) : OwnFrom n₁ (fun (s : β) W => RgSt w G Bm om (V s) Ds W) := by
  intro s A B row hs hg hr
  refine hs.turn hg (fun r e => ?_) ?_
  · obtain ⟨h4, o, ho, hc⟩ := hr r e
    exact .inr ⟨o, ho, hc, by omega, fun hm => by have := h3 r hm; omega⟩
  · exact hs.b.grown hg hs.b.size (fun k e => by have := (hr k e).1; omega)
/-- What an append to the row leaves. -/
theorem app_keeps {W w1 : World} {n₀ k B size m : Nat} {e : TypeId} {xs : List Value} {o tmp : Obj} {v v' : Value} (hk : W.heap[k]? = some o) (hrow : W.ownsRow n₀ e size v m xs) (ho : ∀ cs cur, o ≠ .cells cs e cur) (hg : (W.alloc tmp).grownBy w1 v.ownBlock) (hB : k ≠ B) : (w1.setCell ⟨B, 0, none⟩ v').heap[k]? = some o := by
  rw [Below.heap_setCell _ _ _ _ hB]
  have hl := lt_some hk
  refine (hg.block k (by simp; omega) (fun e' => ?_)).trans (((Below.refl _ W).alloc (Nat.le_refl _) tmp).block k hl |>.trans hk)
  rcases hrow.2 with ⟨rfl, _⟩ | ⟨g, cap, cur, rfl, _, hgb, _⟩
  · simp [Value.ownBlock] at e'
  · obtain rfl : k = g := by simpa [Value.ownBlock] using e'
    rw [hk] at hgb
    cases hgb
    exact ho _ _ rfl
theorem RgSt.app (h : RgSt w G Bm om V Ds W) (hom : om.isCells = false) {w1 : World} {tmp : Obj} {v v' : Value} {V' : List Value} (hrow : W.ownsRow w.heap.size 3 1 v V.length V) (hg : (W.alloc tmp).grownBy w1 v.ownBlock) (hBm : Bm < G)
    (hv2 : Boxed (w1.setCell ⟨G + 2, 0, none⟩ v') (G + 2) 25 v') (hr2 : (w1.setCell ⟨G + 2, 0, none⟩ v').ownsRow w.heap.size 3 1 v' V'.length V') (hb : Below w.heap.size W (w1.setCell ⟨G + 2, 0, none⟩ v')) : RgSt w G Bm om V' Ds (w1.setCell ⟨G + 2, 0, none⟩ v') := by
  have nc : ∀ {o : Obj}, o.isCells = false → ∀ cs cur, o ≠ .cells cs 3 cur := by rintro o h cs cur rfl; cases h
  have nt : ∀ {t : TypeId} {cs : Array Value} {cur : Nat × Nat}, t ≠ 3 → ∀ cs' cur', Obj.cells cs t cur ≠ .cells cs' 3 cur' := by
    intro t cs cur h cs' cur' e; cases e; exact h rfl
  refine ⟨h.b.trans hb, app_keeps h.side hrow (nt (by decide)) hg (by omega), app_keeps h.map hrow (nc hom) hg (by omega), app_keeps h.lit hrow (nt (by decide)) hg (by omega), ⟨v', hv2, hr2⟩, h.marks.1, fun D hD => ⟨app_keeps (h.marks.2 D hD).1 hrow (nc rfl) hg (by have := (h.marks.2 D hD).2; omega), (h.marks.2 D hD).2⟩⟩
theorem RgSt.mark (h : RgSt w G Bm om V Ds W) {D : Nat} (hD : W.heap[D]? = some (.deferred (some []))) (hG : G + 4 ≤ D) (hn : D ∉ Ds) : RgSt w G Bm om V (D :: Ds) W :=
  ⟨h.b, h.side, h.map, h.lit, h.row, List.nodup_cons.2 ⟨hn, h.marks.1⟩, fun d hd => by
    rcases List.mem_cons.1 hd with rfl | hd
    · exact ⟨hD, hG⟩
    · exact h.marks.2 d hd⟩
end
theorem lst_snc (p : List Nat) (j : Nat) : (p ++ [j]).getLast?.getD 0 = j := by simp
set_option maxHeartbeats 4000000 in
theorem impRightOfReply_any {w : World} {A A' : Option Addr} {n c c' : Nat} {S Z : List Int} (hl : Hid (S.length = n)) (hn : n ≤ 1099511627776) (hn' : Z.length ≤ 1099511627776) (hr : Rd w w.heap.size A (ivs S)) (hr' : Rd w w.heap.size A' (ivs Z)) (hI : Hid (∀ a ∈ S, InI a)) (hJ : Hid (∀ a ∈ Z, InI a)) (hc : Z.length ≤ c') (hm : c' ≤ maxLen) :
    Calls Try.prog 51 #[.slice A n c, .slice A' Z.length c'] w (Fresh 3 (ivs (rigL S Z)) w) := by
  have hb1 : Below w.heap.size w (w.alloc (Obj.cells #[.slice A' Z.length c'] 25)) := (Below.refl _ _).alloc (Nat.le_refl _) _
  have hr2 := rdSS_one hr' hc hm
  obtain ⟨W1, hW⟩ : ∃ v : World, v = w.alloc (Obj.cells #[.slice A' Z.length c'] 25) := ⟨_, rfl⟩
  have hsz : W1.heap.size = w.heap.size + 1 := by rw [hW]; simp
  rw [← hW] at hb1 hr2
  rw [← hsz] at hr2
  have HW := Lib.hid hW.symm
  have HR2 := Lib.hid hr2
  have HSZ := Lib.hid hsz
  have HR := Lib.hid hr
  clear hW hr2 hsz hr' hc hm hr
  refine (callsIn_wide (n := 3)).1 ?_
  have h1 : 1 ≤ 3 := by omega
  obtain ⟨i0, hi, hz0, hz1, hz2⟩ := info_parts IntS_info
  refine callsIn_of_wp_marks Try.func51 rfl trivial ?_ rfl
  simp only [Try.ntmps51, List.size_toArray, List.length_cons, List.length_nil, Nat.reduceAdd, Nat.reduceSub, Array.replicate_succ, Array.replicate_zero, List.push_toArray, List.append_toArray, List.nil_append, List.cons_append]
  gi_wp2_with fail
  refine ⟨trivial, ?_⟩
  rw [HW.out]
  refine (callsIn_wide.2 (speakersOf_any (X := [Z]) (n := 1) (Lib.hid rfl) (by omega) (Lib.hid (by intro x hx; rw [List.mem_singleton] at hx; subst hx; exact hJ.out)) (Lib.hid (by simpa using hn')) HR2.out)).mono ?_
  rintro e w2 ⟨rfl, hmm, r⟩
  rw [List.flatten_singleton] at hmm
  have hb2 := hb1.trans (r.mono hb1.size)
  obtain ⟨G, hG⟩ : ∃ G, w2.heap.size = G := ⟨_, rfl⟩
  obtain ⟨Bm, hBm⟩ : ∃ Bm, W1.heap.size = Bm := ⟨_, rfl⟩
  obtain ⟨om, hom, homc⟩ : ∃ om : Obj, w2.heap[Bm]? = some om ∧ om.isCells = false := by
    obtain ⟨D, ⟨es, clock, hb, _⟩, _⟩ := hmm
    exact ⟨_, by rw [← hBm]; exact hb, rfl⟩
  have hBG : Bm < G := by rw [← hG]; exact lt_some hom
  have hwB : w.heap.size < Bm := by rw [← hBm, HSZ.out]; omega
  rw [hBm] at hmm
  obtain ⟨W4, hW4⟩ : ∃ u, (((w2.alloc (Obj.cells #[Value.map (some Bm)] 127)).alloc (Obj.cells #[] 3)).alloc (Obj.cells #[Value.slice (some { block := G + 1, off := 0 }) 0 0] 25)).alloc (Obj.cells #[Value.bool false, Value.bool true] 4) = u := ⟨_, rfl⟩
  have hsz4 : W4.heap.size = G + 4 := by rw [← hW4]; simp [hG]
  have hst0 : RgSt w G Bm om (ivs (rgP S Z 0)) [] W4 := by
    subst hG
    obtain ⟨a1, ha1⟩ : ∃ u, w2.alloc (Obj.cells #[Value.map (some Bm)] 127) = u := ⟨_, rfl⟩
    have x1 : Boxed a1 w2.heap.size 127 (Value.map (some Bm)) := by rw [← ha1]; exact Boxed.new _ _ _
    have m1 : a1.heap[Bm]? = some om := by rw [← ha1]; exact (((Below.refl _ w2).alloc (Nat.le_refl _) _).block Bm hBG).trans hom
    have n1 : a1.heap.size = w2.heap.size + 1 := by rw [← ha1]; simp
    have b1 : Below w.heap.size w a1 := by rw [← ha1]; exact hb2.alloc hb2.size _
    rw [ha1] at hW4
    obtain ⟨a2, ha2⟩ : ∃ u, a1.alloc (Obj.cells #[] 3) = u := ⟨_, rfl⟩
    have k2 : Below a1.heap.size a1 a2 := by rw [← ha2]; exact (Below.refl _ _).alloc (Nat.le_refl _) _
    have r2 : a2.ownsRow w.heap.size 3 1 (.slice (some ⟨w2.heap.size + 1, 0, none⟩) 0 0) 0 [] := by
      have := (Row.made (w := a1) w.heap.size #[] 0 3 b1.size rfl (Nat.zero_le _)).own (n := 0) rfl
      rw [ha2, n1] at this
      exact this
    have n2 : a2.heap.size = w2.heap.size + 2 := by rw [← ha2]; simp [n1]
    rw [ha2] at hW4
    obtain ⟨a3, ha3⟩ : ∃ u, a2.alloc (Obj.cells #[Value.slice (some { block := w2.heap.size + 1, off := 0 }) 0 0] 25) = u := ⟨_, rfl⟩
    have k3 : Below a2.heap.size a2 a3 := by rw [← ha3]; exact (Below.refl _ _).alloc (Nat.le_refl _) _
    have x3 : Boxed a3 (w2.heap.size + 2) 25 (.slice (some ⟨w2.heap.size + 1, 0, none⟩) 0 0) := by rw [← ha3, ← n2]; exact Boxed.new _ _ _
    have r3 := r2.kept (w' := a3) (by rw [← ha3]; exact World.grownBy_alloc _ _ none) (.inr (by simp [Value.ownBlock]))
    have n3 : a3.heap.size = w2.heap.size + 3 := by rw [← ha3]; simp [n2]
    rw [ha3] at hW4
    have k4 : Below a3.heap.size a3 W4 := by rw [← hW4]; exact (Below.refl _ _).alloc (Nat.le_refl _) _
    have k14 : Below a1.heap.size a1 W4 := (k2.trans (k3.mono k2.size)).trans (k4.mono (by omega))
    refine ⟨b1.trans (k14.mono b1.size), (k14.block _ x1.lt).trans x1, (k14.block Bm (lt_some m1)).trans m1, ?_, ⟨_, (k4.block _ x3.lt).trans x3, ?_⟩, by simp, by simp⟩
    · have := World.alloc_heap_new a3 (Obj.cells #[Value.bool false, Value.bool true] 4)
      rw [hW4, n3] at this
      exact this
    · exact r3.kept (by rw [← hW4]; exact World.grownBy_alloc _ _ none) (.inr (by simp [Value.ownBlock]))
  have HW4 := Lib.hid hW4
  have HM := Lib.hid hmm
  have HOM := Lib.hid hom
  have HBM := Lib.hid hBm
  have HG := Lib.hid hG
  clear hW4 hmm hom hG hBm
  rw [HBM.out]
  gi_wp2_with fail
  rw [HG.out, HW4.out]
  refine wpIn_loop (fun a' w' => ∃ (q : Nat) (Ds : List Nat) (u8 u10 u18 u19 u20 u21 u22 u23 u24 u25 u26 u27 u28 u29 u30 u31 u32 u33 u34 : Value) (i : Int), (q ≤ 2 ∧ Ds.length = q ∧ i = (q : Int) ∧ RgSt w G Bm om (ivs (rgP S Z q)) Ds w') ∧
    a' = { tmps := #[.slice A n c, .slice A' Z.length c', undef, undef, .slice none 0 0, .pointer (some ⟨G, 0, none⟩), .pointer (some ⟨G + 1 + 1, 0, none⟩), undef, u8, undef, u10, .slice A' Z.length c', .slice (some ⟨w.heap.size, 0, none⟩) 1 1, .map (some Bm), .slice (some ⟨G + 1, 0, none⟩) 0 0, .slice (some ⟨G + 1 + 1 + 1, 0, none⟩) 2 2, .int .i64 2, .int .i64 i, u18, u19, u20, u21, u22, u23, u24, u25, u26, u27, u28, u29, u30, u31, u32, u33, u34, undef], defers := rmk Ds })
    (fun a' _ => 2 - a'.defers.length) ⟨0, [], _, _, _, _, _, _, _, _, _, _, _, _, _, _, _, _, _, _, _, _, ⟨by omega, rfl, rfl, hst0⟩, rfl⟩ ?_
  clear hst0 hsz4 h1 hb2 r hb1
  rintro a' wr ⟨q, Ds, u8, u10, u18, u19, u20, u21, u22, u23, u24, u25, u26, u27, u28, u29, u30, u31, u32, u33, u34, i, ⟨hq, hDs, rfl, hst⟩, rfl⟩
  by_cases hq2 : q < 2
  · have j1 : (q : Int) < 2 := by omega
    have j0 : (0 : Int) ≤ (q : Int) := by omega
    obtain ⟨b, hb⟩ : ∃ b, (q == 1) = b := ⟨_, rfl⟩
    have hlit : wr.cell? ⟨G + 1 + 1 + 1, q, none⟩ = some (.bool b) := by
      have h3 := hst.lit
      rw [← hb]
      unfold World.cell?
      rw [show G + 1 + 1 + 1 = G + 3 from rfl, h3]
      rcases (by omega : q = 0 ∨ q = 1) with e | e <;> subst e <;> rfl
    have wwq := IntWalk.i64_in ((q : Int) + 1) (by omega)
    obtain ⟨H, hH⟩ : ∃ H, wr.heap.size = H := ⟨_, rfl⟩
    obtain ⟨W5, hW5⟩ : ∃ u, wr.alloc (Obj.cells #[.bool b] 4) = u := ⟨_, rfl⟩
    have hs5 : W5.heap.size = H + 1 := by rw [← hW5]; simp [hH]
    have HH := Lib.hid hH
    have HW5 := Lib.hid hW5
    have HST := Lib.hid hst
    have hbq := Lib.hid hb
    clear hH hW5 hst hb
    gi_wp2_with fail
    refine ⟨trivial, ?_⟩
    rw [HW5.out]
    refine (callsIn_wide.2 back_any).mono ?_
    rintro e w6 ⟨rfl, rfl⟩
    rw [hs5, HH.out]
    obtain ⟨W6, hW6⟩ : ∃ u, W5.alloc (Obj.cells #[.slice A n c] 25) = u := ⟨_, rfl⟩
    rw [hW6]
    have x6 : Boxed W6 (H + 1) 25 (.slice A n c) := by rw [← hW6, ← hs5]; exact Boxed.new _ _ _
    have x5 : Boxed W6 H 4 (.bool b) := by
      rw [← hW6, ← HW5.out, ← HH.out]
      exact (Boxed.new _ _ _).alloc _
    have hs6 : W6.heap.size = H + 2 := by rw [← hW6]; simp [hs5]
    have k6 : Below H wr W6 := by
      rw [← hW6, ← HW5.out, ← HH.out]
      exact ((Below.refl _ _).alloc (Nat.le_refl _) _).alloc (by simp) _
    have hwH : w.heap.size ≤ H := by rw [← HH.out]; exact HST.out.b.size
    have hBH : Bm < H := by rw [← HH.out]; exact lt_some HST.out.map
    have hGH : G + 4 ≤ H := by rw [← HH.out]; have := lt_some HST.out.lit; omega
    have hDH : ∀ D ∈ Ds, D < H := fun D hD => by rw [← HH.out]; exact lt_some (HST.out.marks.2 D hD).1
    have HRR := Lib.hid ((HR.out.below (HST.out.b.trans (k6.mono hwH))).more (show w.heap.size ≤ H + 2 by omega))
    have st6 := HST.out.new (by rw [HH.out]; exact k6)
    clear hW6
    have h13 : 1 ≤ 3 := by omega
    gi_wp2_with fail
    refine wpIn_rangeFunc_ownG rfl h13 (gf := 147) (lb := #[.pointer (some ⟨H + 1, 0, none⟩)]) rfl trivial (enters_of Try.func147 (by kernel_rfl) rfl)
      (back_stops 2 (by omega) (H + 1) (H + 2) hl hn x6.cell (by omega) HRR.out (by omega)) belowK_t (belowK_b (by omega)) (Below.refl _ _) (fun _ => rfl)
      (fun pre W => (∀ j ∈ pre, Z.contains (S.getD j 0) ≠ b) ∧ Below (H + 2) W6 W)
      (fun c pre W => (c = .exit 2 ∧ ∃ p j, pre = p ++ [j] ∧ (∀ i ∈ p, Z.contains (S.getD i 0) ≠ b) ∧ Z.contains (S.getD j 0) = b) ∧ RgSt w G Bm om (ivs (rgP S Z q ++ [S.getD (pre.getLast?.getD 0) 0])) Ds W)
      (OwnFrom.and (ownFrom_pure _ _) (ownFrom_below (by omega) (by omega)))
      (fun c => OwnFrom.and (ownFrom_pure _ _) (RgSt.own (by omega) (by omega) (fun D hD => by have := hDH D hD; omega)))
      ⟨(fun j hj => absurd hj (by simp)), Below.refl _ _⟩
      (fun x => { tmps := #[.slice A n c, .slice A' Z.length c', undef, undef, .slice none 0 0, .pointer (some ⟨G, 0, none⟩), .pointer (some ⟨G + 1 + 1, 0, none⟩), undef, .pointer (some ⟨H, 0, none⟩), undef, .int .i64 (S.getD x 0), .slice A' Z.length c', .slice (some ⟨w.heap.size, 0, none⟩) 1 1, .map (some Bm), .slice (some ⟨G + 1, 0, none⟩) 0 0, .slice (some ⟨G + 1 + 1 + 1, 0, none⟩) 2 2, .int .i64 2, .int .i64 q, .bool true, .pointer (some ⟨G + 1 + 1 + 1, q, none⟩), .bool b, .slice A n c, .func (.func 147) #[] #[.pointer (some ⟨H + 1, 0, none⟩)], .int .i64 (x : Int), .int .i64 (S.getD x 0), u25, u26, u27, u28, u29, u30, u31, u32, u33, u34, undef], defers := [] }) ?assign ?body ?done ?stop
    case assign =>
      intro l x W K hK
      gi_wp2
      simpa [encB] using hK
    case body =>
      rintro l pre x W ⟨hmiss, hB⟩ hlt
      have stW : RgSt w G Bm om (ivs (rgP S Z q)) Ds W := st6.new (by rw [hs6]; exact hB)
      have hsp : Spk Z Bm Z.length W := HM.out.kept (stW.map.trans HOM.out.symm)
      have hbx := (hB.cell (p := ⟨H, 0, none⟩) (show H < H + 2 by omega)).trans x5.cell
      have hsd := stW.side.cell
      have hszW := hB.size
      have hInI : InI (S.getD x 0) := by
        by_cases hx : x < S.length
        · rw [show S.getD x 0 = S[x] by simp [List.getD, hx]]
          exact hI.out _ (List.getElem_mem _)
        · rw [show S.getD x 0 = 0 by simp [List.getD, hx]]
          exact ⟨by decide, by decide⟩
      have hlook := hsp.look hInI
      have HMISS := Lib.hid hmiss
      have HRGL := rgP_len S Z q
      have HLS := lst_snc pre x
      obtain ⟨y, hy⟩ : ∃ y, S.getD x 0 = y := ⟨_, rfl⟩
      have HY := Lib.hid hy
      obtain ⟨z, hz⟩ : ∃ z, Z.contains y = z := ⟨_, rfl⟩
      have HZ := Lib.hid hz
      rw [hy, hz] at hlook
      rw [hy]
      clear hmiss hsp hy hz hInI
      by_cases hzb : z = b
      · have hqb : (z == b) = true := by simpa using hzb
        obtain ⟨v, hv, hrow⟩ := stW.row
        have HST2 := Lib.hid stW
        have hcv := hv.cell
        have hfv := hv.frozen
        have hlen : (ivs (rgP S Z q)).length ≤ 2 := by rw [ivs_len]; omega
        have hGs := hv.lt
        have HZB := Lib.hid hzb
        clear hzb stW
        gi_wp2_with (gi_at_builtin; refine wpListIn_append_own _ rfl _ _ 25 rfl w.heap.size 3 i0 (.int .i64 0) 1 8 Try.underlying25 hi hz0 hz1 hz2 rfl (by decide) _ _ _ rfl (hrow.alloc _) ⟨W.heap.size, 0, none⟩ 1 1 [.int .i64 y] rfl rfl (cell_one_new _ _ _) (by simp [Value.oneCell']) (by unfold maxLen; omega) (by omega) (by simp; omega) ?_; intro v' w1 hown' hgrow _; obtain ⟨g', cap', rfl⟩ := ownsRow_succ hown'; obtain ⟨hv1, hv2, hr2, hk2, hb2⟩ := hv.appended (by decide) hrow (by omega) (by omega) hown' hgrow; have hc1 := hv1.cell; have hf1 := hv1.frozen)
        have est : ivs (rgP S Z q ++ [S.getD ((pre ++ [x]).getLast?.getD 0) 0]) = ivs (rgP S Z q) ++ [.int .i64 y] := by rw [HLS, HY.out, ivs_snc]
        have st' := HST2.out.app homc (V' := ivs (rgP S Z q) ++ [.int .i64 y]) hrow hgrow hBG hv2 (by simpa using hr2) hb2
        exact ⟨hk2.from _, ⟨rfl, pre, x, rfl, HMISS.out, by rw [HY.out, HZ.out]; exact HZB.out⟩, by rw [est]; exact st'⟩
      · have hqb : (z == b) = false := by simpa using hzb
        gi_wp2
        refine ⟨KeepsFrom.refl _ _, Below.refl _ _, fun j hj => ?_, hB⟩
        rcases List.mem_append.1 hj with hj | hj
        · exact HMISS.out j hj
        · rw [List.mem_singleton.1 hj, HY.out, HZ.out]
          exact hzb
    case done =>
      rintro D ys W hD rfl ⟨hmiss, hB⟩ hK
      have stW : RgSt w G Bm om (ivs (rgP S Z q)) Ds W := st6.new (by rw [hs6]; exact hB)
      have hV : rgP S Z (q + 1) = rgP S Z q := rgP_none (by rw [hbq.out]; exact fun j _ hj => hmiss j (dnL_mem.2 ⟨Nat.zero_le _, by rw [← hl.out]; exact hj⟩))
      have st' := Lib.hid (stW.mark hK (by omega) (fun hm => by have := hDH D hm; omega))
      rw [← hV] at st'
      clear stW hmiss hB hK
      gi_wp2
      exact ⟨⟨q + 1, D :: Ds, _, _, _, _, _, _, _, _, _, _, _, _, _, _, _, _, _, _, _, _, ⟨by omega, by simp [hDs], by omega, st'.out⟩, rfl⟩, by simp [hDs]; omega⟩
    case stop =>
      rintro D c pre W hD ⟨j, hj, rfl⟩ ⟨⟨rfl, p, j', hpre, hm, hh⟩, hst'⟩ hK
      rw [dnL_snoc hj] at hpre
      obtain ⟨hp1, hp2⟩ := List.append_inj' hpre rfl
      obtain rfl : j = j' := by simpa using hp2
      subst hp1
      have hjS : j < S.length := by rw [hl.out]; exact hj
      have egj : S.getD j 0 = S[j] := by simp [List.getD, hjS]
      rw [dnL_snoc hj, lst_snc] at hst'
      have hV : rgP S Z (q + 1) = rgP S Z q ++ [S.getD j 0] := by
        rw [egj]
        exact rgP_some hjS (by rw [hbq.out]; exact fun i h1 h2 => hm i (dnL_mem.2 ⟨h1, by rw [← hl.out]; exact h2⟩)) (by rw [← egj, hbq.out]; exact hh)
      rw [← hV] at hst'
      have st' := Lib.hid (hst'.mark hK (by omega) (fun hm => by have := hDH D hm; omega))
      clear hst' hm hh hV egj hpre hp2
      gi_wp2
      exact ⟨⟨q + 1, D :: Ds, _, _, _, _, _, _, _, _, _, _, _, _, _, _, _, _, _, _, _, _, ⟨by omega, by simp [hDs], by omega, st'.out⟩, rfl⟩, by simp [hDs]; omega⟩
  · have e : q = 2 := by omega
    subst e
    obtain ⟨v, hv, hrow⟩ := hst.row
    obtain ⟨hnd, hmk⟩ := hst.marks
    have hcv := hv.cell
    obtain ⟨D2, D1, rfl⟩ : ∃ x y, Ds = [x, y] := by
      match Ds, hDs with
      | [x, y], _ => exact ⟨x, y, rfl⟩
    have hne : D1 ≠ D2 := by have := hnd; simp at this; exact fun e => this e.symm
    have hk2 := (hmk D2 (by simp)).1
    have hk1 := (hmk D1 (by simp)).1
    have hg2 := (hmk D2 (by simp)).2
    have hg1 := (hmk D1 (by simp)).2
    have hB := hst.b
    have hwG : w.heap.size ≤ G := by omega
    have HRG := Lib.hid (rgP_rig S Z)
    rw [rgP_rig] at hrow
    gi_wp2
    have hk1' : (wr.putObj D2 (.deferred none)).heap[D1]? = some (.deferred (some [])) := ((grownBy_putObj' wr D2 (.deferred none)).block D1 (lt_some hk1) (by simpa using hne)).trans hk1
    refine ⟨by simp, .inl ⟨_, _, rfl, run_takeDeferred hk2, ?_⟩⟩
    refine ⟨by simp, .inl ⟨_, _, rfl, run_takeDeferred hk1', ?_⟩⟩
    refine ⟨_, results_tmp rfl _ _ _, v, rfl, ?_, (hB.trans (belowK_b (w := w) (Nat.le_refl _) wr D2 _ _ (by omega) hk2 rfl rfl)).trans (belowK_b (w := w) (Nat.le_refl _) _ D1 _ _ (by omega) hk1' rfl rfl)⟩
    exact (Row.of_own (ownsRow_putObj (ownsRow_putObj hrow _ hk2 rfl) _ hk1' rfl)).wide (by omega) (Nat.le_refl _)
end Go.Proofs.Ytignchefkihdaaa
