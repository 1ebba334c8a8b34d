/- Contracts of the draws DrawWithClaim and DrawIsPartOf. Condition: the code's bytes lie in old memory. -/
import Derived.Test.YtjhknafajfpldaaDoorMg19
import Derived.Test.YtjhknafajfpldaaDoorMg29
import Derived.Test.YtjhknafajfpldaaDoorMg9
import Derived.Deep.RegionHeld3
import Derived.Deep.DeepCutAuto
import Derived.Test.YtjhknafajfpldaaDoorProg
import Derived.WalkKit
import Derived.LaidEql
import Derived.Stop.Asserts
import Derived.RowKitTokens
namespace Go.Proofs.YtjhknafajfpldaaDoor
open Go.ChangeShapes Go.WideShapes Go.ChangeAt Go.RowKit
set_option maxRecDepth 100000
theorem drawWith {w : World} {A : Option Addr} {n c : Nat} (h : Code8 w A n) :
    Calls Tryd.prog 5 #[.slice A n c] w (DrewGS2 13 w) := by
  have br0 := Bx.made w 26 #[Value.int .i64 0, .slice none 0 0]
  have hb0 : Below w.heap.size w (w.alloc (Obj.cells #[Value.int .i64 0, .slice none 0 0] 26)) := (Below.refl _ _).alloc (Nat.le_refl _) _
  have h0 := h.below hb0
  have hs0 : (w.alloc (Obj.cells #[Value.int .i64 0, .slice none 0 0] 26)).heap.size = w.heap.size + 1 := by simp
  go_enter Tryd.func5, Tryd.ntmps5
  go_wp2_with fail
  refine (drawSet h0).mono ?_
  rintro e w2 ⟨N, X, v, zs, u, M, hok, hzl, rfl, hM1, hM2, hown2, hrow2, hb2⟩
  rw [hs0] at hM1 hown2
  obtain ⟨Av, cv, rfl, _, _, _⟩ := hown2.rd (n := X.length) rfl
  have br2 := br0.new hb2
  have hbw2 := hb0.trans (hb2.mono hb0.size)
  have hsz2 := hb2.size
  rw [hs0] at hsz2
  obtain ⟨R0, R1⟩ := br2.two
  have r0 := br2.free 0
  have r1 := br2.free 1
  have hHB := Lib.hid br2
  have HOK := Lib.hid hok
  clear br0 hb0 h0 br2 hok hs0 hb2
  go_wp2_with fail
  have br2 := hHB.out
  refine bodyPost_ret (resGB rfl ((br2.set 0 _).set 1 _) rfl rfl rfl) rfl ⟨N, X, _, zs, u, M, HOK.out, by omega, rfl, by omega, by simp; omega, ?_, ?_, (hbw2.setCell (p := ⟨w.heap.size, 0, none⟩) (Nat.le_refl _) _).setCell (p := ⟨w.heap.size, 1, none⟩) (Nat.le_refl _) _⟩
  · exact ((hown2.setFar (p := ⟨w.heap.size, 0, none⟩) (.inl (by simp)) _).setFar (p := ⟨w.heap.size, 1, none⟩) (.inl (by simp)) _).wide (by omega) (Nat.le_refl _)
  · exact ((hrow2.out (Out.setCell w2 (lo := w.heap.size) (hi := w.heap.size + 1) (Nat.le_refl _) (Nat.lt_succ_self _) 0 _) (.inr (by omega))).out (Out.setCell _ (lo := w.heap.size) (hi := w.heap.size + 1) (Nat.le_refl _) (Nat.lt_succ_self _) 1 _) (.inr (by omega))).wide (Nat.le_refl _) (by simp)
theorem resGG {w : World} {fn : Func} {p q : Tmp} {tmps : Array Value} {g h : Nat} {cs ds : Array Value} (hr : fn.results = #[.cell p 26, .cell q 26]) (hb : Bx w g 26 cs) (hs : cs.size = 2) (hb' : Bx w h 26 ds) (hs' : ds.size = 2) (hp : tmps.getD p undef = .pointer (some ⟨g, 0, none⟩)) (hq : tmps.getD q undef = .pointer (some ⟨h, 0, none⟩)) : (results fn tmps).run Tryd.prog w = .ok (.tuple #[.agg cs, .agg ds]) w := by
  have e : (results fn tmps).run Tryd.prog w = ((asAddr (tmps.getD p undef)).run Tryd.prog w).andThen fun a w₁ => ((loadVar 26 a).run Tryd.prog w₁).andThen fun x w₂ => ((asAddr (tmps.getD q undef)).run Tryd.prog w₂).andThen fun b w₃ => ((loadVar 26 b).run Tryd.prog w₃).andThen fun y w₄ => .ok (.tuple #[x, y]) w₄ := by
    simp only [results, hr]
    simp [Sem.run_bind, Result.andThen]
  rw [e, hp, hq]
  simp [asAddr, run_loadVar_row w g _ _ cs (0, 0) _ hb Tryd.underlying26 rfl (by rw [GR_info, hs]), run_loadVar_row w h _ _ ds (0, 0) _ hb' Tryd.underlying26 rfl (by rw [GR_info, hs']), Result.andThen]
theorem wtY_short {N : Int} {X : List (List Int)} {S : List Int} (hX : X.length ≤ 10) (hS : S.length ≤ 12) : (wtY N X S).length ≤ 100 := by
  unfold wtY
  split
  · unfold wthX; simp; omega
  · omega
/-- Two graphs were drawn; nothing old has turned. -/
def DrewGG (w : World) (e : Ending) (w' : World) : Prop :=
  ∃ (M N : Int) (X Y : List (List Int)) (v u : Value), X.length ≤ 100 ∧ Y.length ≤ 100 ∧ e = .returned (.tuple #[.agg #[.int .i64 M, v], .agg #[.int .i64 N, u]]) ∧ OwnSS w' w.heap.size w'.heap.size v X ∧ OwnSS w' w.heap.size w'.heap.size u Y ∧ Below w.heap.size w w'
set_option maxHeartbeats 8000000 in
theorem drawPart {w : World} {A : Option Addr} {n c : Nat} (h : Code8 w A n) :
    Calls Tryd.prog 19 #[.slice A n c] w (DrewGG w) := by
  have bx0 := Bx.made w 26 #[Value.int .i64 0, .slice none 0 0]
  have hb0 : Below w.heap.size w (w.alloc (Obj.cells #[Value.int .i64 0, .slice none 0 0] 26)) := alloc_new _ _
  have hb00 := hb0.alloc hb0.size (Obj.cells #[Value.int .i64 0, .slice none 0 0] 26)
  have by0 := Bx.made (w.alloc (Obj.cells #[Value.int .i64 0, .slice none 0 0] 26)) 26 #[Value.int .i64 0, .slice none 0 0]
  have bx00 := bx0.new (alloc_new _ (Obj.cells #[Value.int .i64 0, .slice none 0 0] 26))
  have h0 := h.below hb00
  have hs0 : ((w.alloc (Obj.cells #[Value.int .i64 0, .slice none 0 0] 26)).alloc (Obj.cells #[Value.int .i64 0, .slice none 0 0] 26)).heap.size = w.heap.size + 2 := by simp
  rw [show (w.alloc (Obj.cells #[Value.int .i64 0, .slice none 0 0] 26)).heap.size = w.heap.size + 1 by simp] at by0
  go_enter Tryd.func19, Tryd.ntmps19
  go_wp2_with fail
  refine (new_any h0).mono ?_
  rintro e w1 ⟨rfl, hb1, cur1⟩
  have br1 := bx00.new hb1
  have bq1 := by0.new hb1
  have hz1 := hb1.size
  have hbw1 := hb00.trans (hb1.mono hb00.size)
  rw [hs0] at hz1 cur1 ⊢
  go_wp2_with fail
  refine (any4_any cur1).mono ?_
  rintro e w2 ⟨M, X, v, _, hok, rfl, hown2, hg2, cur2⟩
  obtain ⟨Av, cv, rfl, _, _, _⟩ := hown2.rd (n := X.length) rfl
  have hl1 := cur1.lt
  have hz2 := hg2.size
  have br2 := br1.only hg2 (by omega)
  have bq2 := bq1.only hg2 (by omega)
  have hbw2 := cur_below hbw1 hg2 (by omega)
  have k3 := alloc_new w2 (Obj.cells #[Value.int .i64 M, .slice Av X.length cv] 26)
  have br3 := br2.new k3
  have bq3 := bq2.new k3
  have bg3 := Bx.made w2 26 #[Value.int .i64 M, .slice Av X.length cv]
  have ho3 := (hown2.new k3).wide (lo' := w.heap.size + 3) (hi' := w2.heap.size) (by omega) (Nat.le_refl _)
  have cur3 := cur2.below k3
  have hbw3 := hbw2.trans (k3.mono hbw2.size)
  have HOK := Lib.hid hok
  obtain ⟨w3, hw3⟩ : ∃ u : World, u = w2.alloc (Obj.cells #[Value.int .i64 M, .slice Av X.length cv] 26) := ⟨_, rfl⟩
  have hx3 : w3.heap.size = w2.heap.size + 1 := by rw [hw3]; simp
  rw [← hw3] at br3 bq3 bg3 ho3 cur3 hbw3
  obtain ⟨g, hg⟩ : ∃ g, g = w2.heap.size := ⟨_, rfl⟩
  have hHW := Lib.hid hw3.symm
  rw [← hg] at bg3 hx3 hz2 ho3
  have hHG := Lib.hid hg.symm
  have hBg : w.heap.size + 2 < g := by omega
  clear bx0 hb0 hb00 by0 bx00 h0 br1 bq1 hb1 hbw1 cur1 br2 bq2 hbw2 k3 hown2 hg2 cur2 hok hw3 hs0 hg hl1 hz1 hz2
  obtain ⟨D0, D1⟩ := bg3.two
  have HC := Lib.hid cur3
  have HB := Lib.hid bg3
  have HR := Lib.hid br3
  have HQ := Lib.hid bq3
  have HO := Lib.hid ho3
  clear cur3 bg3 br3 bq3 ho3
  go_upto_region 3 with fail
  rw [hHW.out, hHG.out]
  clear hHW hHG
  go_cut [6, 7] from 12 to 19 (fun p b wx => ∃ (gb : Nat) (N : Int) (Y : List (List Int)) (u : Value), p = .pointer (some ⟨gb, 0, none⟩) ∧ Y.length ≤ 100 ∧ g < gb ∧ Bx wx gb 26 #[.int .i64 N, u] ∧ OwnSS wx (w.heap.size + 3) wx.heap.size u Y ∧ Bx wx g 26 #[Value.int .i64 M, .slice Av X.length cv] ∧ Bx wx w.heap.size 26 #[Value.int .i64 0, .slice none 0 0] ∧ Bx wx (w.heap.size + 1) 26 #[Value.int .i64 0, .slice none 0 0] ∧ OwnSS wx (w.heap.size + 3) g (.slice Av X.length cv) X ∧ Cur wx (w.heap.size + 2) A n c ∧ Below w.heap.size w wx)
  case first =>
    have curd := HC.out.drew_
    have bgd := HB.out.drew_
    have brd := HR.out.drew_
    have bqd := HQ.out.drew_
    have hod := HO.out.new ((Below.refl w3.heap.size w3).drew)
    have hbd := hbw3.drew
    have hzd : w3.drew.heap.size = g + 1 := hx3
    go_wp2_with fail
    refine wp_region_held_drew (S := fun u => u.cell? ⟨g, 0, none⟩ = some (.int .i64 M) ∧ u.cell? ⟨g, 1, none⟩ = some (.slice Av X.length cv)) (by kernel_rfl) ?_ (fun hHeld => ?_)
    · first | exact ⟨D0, D1⟩ | exact ⟨E0, E1⟩ | exact ⟨F0, F1⟩ | exact ⟨P0, P1⟩ | exact ⟨Z0, Z1⟩
    refine wpAnyH_take (i := 0) (v := ?_) rfl (by kernel_rfl) (by kernel_rfl) (by kernel_rfl) (fun _ _ _ h => h) (Or.inl ⟨by rfl, ?_⟩) (by assumption) ?_
    rotate_left
    · intro w hSw
      try dsimp only at hSw
      go_simp
      try with_reducible rfl
    try simp only [Act.put, List.getElem_toArray, List.getElem_cons_zero, List.setIfInBounds_toArray, List.set_cons_zero, List.set_cons_succ]
    refine wpAnyH_take (i := 1) (v := ?_) rfl (by kernel_rfl) (by kernel_rfl) (by kernel_rfl) (fun _ _ _ h => h) (Or.inl ⟨by rfl, ?_⟩) (by assumption) ?_
    rotate_left
    · intro w hSw
      try dsimp only at hSw
      go_simp
      try with_reducible rfl
    try simp only [Act.put, List.getElem_toArray, List.getElem_cons_succ, List.getElem_cons_zero, List.setIfInBounds_toArray, List.set_cons_zero, List.set_cons_succ]
    refine wpAnyH_take (i := 2) (v := ?_) rfl (by kernel_rfl) (by kernel_rfl) (by kernel_rfl) (fun _ _ _ h => h) (Or.inl ⟨by rfl, ?_⟩) (by assumption) ?_
    rotate_left
    · intro w hSw
      try dsimp only at hSw
      go_simp
      try with_reducible rfl
    try simp only [Act.put, List.getElem_toArray, List.getElem_cons_succ, List.getElem_cons_zero, List.setIfInBounds_toArray, List.set_cons_zero, List.set_cons_succ]
    refine wpAnyH_ready (rs := [3, 8]) (by kernel_rfl) (by simp) ?_
    refine AllReadyH.cons rfl (fun K hK => ?_) (AllReadyH.cons rfl (fun K hK => ?_) AllReadyH.nil)
    · skip
      rw [if_pos (by rfl)]
      go_simp
      go_at_call 46
      refine (set4_any (N := M) (v := .slice Av X.length cv) curd).mono ?_
      rintro e wb ⟨zs, us, hzl, rfl, hrowb, hgb, curb⟩
      have bgb := bgd.only hgb (by omega)
      have brb := brd.only hgb (by omega)
      have bqb := bqd.only hgb (by omega)
      have hob := hod.only hgb (by omega)
      have hbb := cur_below hbd hgb (by omega)
      have hzb := hgb.size
      obtain ⟨Az, cz, rfl, _, _, _⟩ := hrowb.rd (n := zs.length) (ivs_len zs)
      replace hrowb := hrowb.wide (Nat.zero_le _) (Nat.le_refl _)
      obtain ⟨E0, E1⟩ := bgb.two
      refine hK.out _ _ ?_ (fun hHeld => ?_)
      · exact ⟨E0, E1⟩
      clear hK K
      try simp only [Act.put]
      refine wpAnyH_ready (rs := [4, 8]) (by kernel_rfl) (by simp) ?_
      refine AllReadyH.cons rfl (fun K hK => ?_) (AllReadyH.cons rfl (fun K hK => ?_) AllReadyH.nil)
      · skip
        rw [if_pos (by rfl)]
        go_simp
        go_at_call 7
        refine (specWithClaim_any (N := M) (X := X) (S := zs) (c := cv) (c' := cz) (Lib.hid rfl) (by have := HOK.out.1; omega) HOK.out.small (hob.rd'.more (by omega)) (Lib.hid rfl) (by omega) (hrowb.rd'.more (by omega))).mono ?_
        rintro e wc ⟨vb, rfl, hYc, rc⟩
        have bgc := bgb.new rc
        have brc := brb.new rc
        have bqc := bqb.new rc
        have hoc := hob.new rc
        have curc := curb.below rc
        have hbc := hbb.trans (rc.mono hbb.size)
        have hzc := rc.size
        obtain ⟨Ab, cb, rfl, _, _, _⟩ := hYc.rd (n := (wtY M X zs).length) rfl
        have hvc := hYc.one
        obtain ⟨F0, F1⟩ := bgc.two
        refine hK.out _ _ ?_ (fun hHeld => ?_)
        · exact ⟨F0, F1⟩
        clear hK K
        try simp only [Act.put]
        refine wpAnyH_take (i := 5) (v := ?_) rfl (by kernel_rfl) (by kernel_rfl) (by kernel_rfl) (fun _ _ _ h => h) (Or.inl ⟨by rfl, ?_⟩) (by assumption) ?_
        rotate_left
        · intro w hSw
          try dsimp only at hSw
          go_simp
          try with_reducible rfl
        try simp only [Act.put, List.getElem_toArray, List.getElem_cons_succ, List.getElem_cons_zero, List.setIfInBounds_toArray, List.set_cons_zero, List.set_cons_succ]
        refine wpAnyH_take (i := 6) (v := ?_) rfl (by kernel_rfl) (by kernel_rfl) (by kernel_rfl) (fun _ _ _ h => h) (Or.inl ⟨by rfl, ?_⟩) (by assumption) ?_
        rotate_left
        · intro w hSw
          try dsimp only at hSw
          go_simp
          try with_reducible rfl
        try simp only [Act.put, List.getElem_toArray, List.getElem_cons_succ, List.getElem_cons_zero, List.setIfInBounds_toArray, List.set_cons_zero, List.set_cons_succ]
        refine wpAnyH_take (i := 7) (v := ?_) rfl (by kernel_rfl) (by kernel_rfl) (by kernel_rfl) (fun _ _ _ h => h) (Or.inl ⟨by rfl, ?_⟩) (by assumption) ?_
        rotate_left
        · intro w hSw
          try dsimp only at hSw
          go_simp
          try with_reducible rfl
        try simp only [Act.put, List.getElem_toArray, List.getElem_cons_succ, List.getElem_cons_zero, List.setIfInBounds_toArray, List.set_cons_zero, List.set_cons_succ]
        have kz := alloc_new wc (Obj.cells #[Value.int .i64 0, .slice none 0 0] 26)
        have bza := Bx.made wc 26 #[Value.int .i64 0, .slice none 0 0]
        have bga := bgc.new kz
        have bra := brc.new kz
        have bqa := bqc.new kz
        have hoa := hoc.new kz
        have cura := curc.below kz
        have hba := hbc.trans (kz.mono hbc.size)
        have hzz := kz.size
        obtain ⟨P0, P1⟩ := bga.two
        have hYa := hYc.new kz
        refine wpAnyH_ready (rs := [8]) (by kernel_rfl) (by simp) ?_
        refine AllReadyH.cons rfl (fun K hK => ?_) AllReadyH.nil
        go_simp
        refine hK.out _ _ ?_ (fun hHeld => ?_)
        · exact ⟨P0, P1⟩
        clear hK K
        try simp only [Act.put]
        obtain ⟨G0, G1⟩ := bza.two
        have f0 := bza.free 0
        have f1 := bza.free 1
        have kf := alloc_new wc (Obj.cells #[Value.int .i64 (wtM M X zs), .slice Ab (wtY M X zs).length cb] 26)
        have bzf := Bx.made wc 26 #[Value.int .i64 (wtM M X zs), .slice Ab (wtY M X zs).length cb]
        have bgf := bgc.new kf
        have brf := brc.new kf
        have bqf := bqc.new kf
        have hof := hoc.new kf
        have curf := curc.below kf
        have hbf := hbc.trans (kf.mono hbc.size)
        have hYf := (hYc.new kf).wide (lo' := w.heap.size + 3) (by omega) kf.size
        obtain ⟨Z0, Z1⟩ := bgf.two
        refine wpAnyH_ready (rs := [9]) (by kernel_rfl) (by simp) ?_
        refine AllReadyH.cons rfl (fun K hK => ?_) AllReadyH.nil
        go_simp
        refine hK.out _ _ ?_ (fun hHeld => ?_)
        · first | exact ⟨D0, D1⟩ | exact ⟨E0, E1⟩ | exact ⟨F0, F1⟩ | exact ⟨P0, P1⟩ | exact ⟨Z0, Z1⟩
        clear hK K
        try simp only [Act.put, List.getElem_toArray, List.getElem_cons_succ, List.getElem_cons_zero, List.setIfInBounds_toArray, List.set_cons_zero, List.set_cons_succ]
        refine wpAnyH_ready (rs := [10]) (by kernel_rfl) (by simp) ?_
        refine AllReadyH.cons rfl (fun K hK => ?_) AllReadyH.nil
        go_simp
        refine hK.out _ _ ?_ (fun hHeld => ?_)
        · first | exact ⟨D0, D1⟩ | exact ⟨E0, E1⟩ | exact ⟨F0, F1⟩ | exact ⟨P0, P1⟩ | exact ⟨Z0, Z1⟩
        clear hK K
        try simp only [Act.put, List.getElem_toArray, List.getElem_cons_succ, List.getElem_cons_zero, List.setIfInBounds_toArray, List.set_cons_zero, List.set_cons_succ]
        refine wpAnyH_done (by kernel_rfl) ?_ _
        go_wp2_with fail
        go_meet
        case rel => exact ⟨wc.heap.size, wtM M X zs, wtY M X zs, .slice Ab (wtY M X zs).length cb, rfl, wtY_short HOK.out.1 hzl, by omega, bzf, hYf.wide (Nat.le_refl _) (by simp; try omega), bgf, brf, bqf, hof, curf, hbf⟩
      · skip
        have kz := alloc_new wb (Obj.cells #[Value.int .i64 0, .slice none 0 0] 26)
        have bza := Bx.made wb 26 #[Value.int .i64 0, .slice none 0 0]
        have bga := bgb.new kz
        have bra := brb.new kz
        have bqa := bqb.new kz
        have hoa := hob.new kz
        have cura := curb.below kz
        have hba := hbb.trans (kz.mono hbb.size)
        have hzz := kz.size
        obtain ⟨P0, P1⟩ := bga.two
        have hrowa := hrowb.new kz
        go_simp
        refine hK.out _ _ ?_ (fun hHeld => ?_)
        · exact ⟨P0, P1⟩
        clear hK K
        try simp only [Act.put]
        refine wpAnyH_ready (rs := [4]) (by kernel_rfl) (by simp) ?_
        refine AllReadyH.cons rfl (fun K hK => ?_) AllReadyH.nil
        rw [if_pos (by rfl)]
        go_simp
        go_at_call 7
        refine (specWithClaim_any (N := M) (X := X) (S := zs) (c := cv) (c' := cz) (Lib.hid rfl) (by have := HOK.out.1; omega) HOK.out.small (hoa.rd'.more (by omega)) (Lib.hid rfl) (by omega) (hrowa.rd'.more (by omega))).mono ?_
        rintro e wc ⟨vb, rfl, hYc, rc⟩
        have bgc := bga.new rc
        have brc := bra.new rc
        have bqc := bqa.new rc
        have bzc := bza.new rc
        have hoc := hoa.new rc
        have curc := cura.below rc
        have hbc := hba.trans (rc.mono hba.size)
        have hzc := rc.size
        obtain ⟨Ab, cb, rfl, _, _, _⟩ := hYc.rd (n := (wtY M X zs).length) rfl
        have hvc := hYc.one
        obtain ⟨F0, F1⟩ := bgc.two
        refine hK.out _ _ ?_ (fun hHeld => ?_)
        · exact ⟨F0, F1⟩
        clear hK K
        try simp only [Act.put]
        refine wpAnyH_take (i := 5) (v := ?_) rfl (by kernel_rfl) (by kernel_rfl) (by kernel_rfl) (fun _ _ _ h => h) (Or.inl ⟨by rfl, ?_⟩) (by assumption) ?_
        rotate_left
        · intro w hSw
          try dsimp only at hSw
          go_simp
          try with_reducible rfl
        try simp only [Act.put, List.getElem_toArray, List.getElem_cons_succ, List.getElem_cons_zero, List.setIfInBounds_toArray, List.set_cons_zero, List.set_cons_succ]
        refine wpAnyH_take (i := 6) (v := ?_) rfl (by kernel_rfl) (by kernel_rfl) (by kernel_rfl) (fun _ _ _ h => h) (Or.inl ⟨by rfl, ?_⟩) (by assumption) ?_
        rotate_left
        · intro w hSw
          try dsimp only at hSw
          go_simp
          try with_reducible rfl
        try simp only [Act.put, List.getElem_toArray, List.getElem_cons_succ, List.getElem_cons_zero, List.setIfInBounds_toArray, List.set_cons_zero, List.set_cons_succ]
        refine wpAnyH_take (i := 7) (v := ?_) rfl (by kernel_rfl) (by kernel_rfl) (by kernel_rfl) (fun _ _ _ h => h) (Or.inl ⟨by rfl, ?_⟩) (by assumption) ?_
        rotate_left
        · intro w hSw
          try dsimp only at hSw
          go_simp
          try with_reducible rfl
        try simp only [Act.put, List.getElem_toArray, List.getElem_cons_succ, List.getElem_cons_zero, List.setIfInBounds_toArray, List.set_cons_zero, List.set_cons_succ]
        obtain ⟨G0, G1⟩ := bzc.two
        have f0 := bzc.free 0
        have f1 := bzc.free 1
        have bzf := (bzc.set 0 (.int .i64 (wtM M X zs))).set 1 (.slice Ab (wtY M X zs).length cb)
        have bgf := (bgc.far (p := ⟨wb.heap.size, 0, none⟩) (by show g ≠ wb.heap.size; omega) (.int .i64 (wtM M X zs))).far (p := ⟨wb.heap.size, 1, none⟩) (by show g ≠ wb.heap.size; omega) (.slice Ab (wtY M X zs).length cb)
        have brf := (brc.far (p := ⟨wb.heap.size, 0, none⟩) (by show w.heap.size ≠ wb.heap.size; omega) (.int .i64 (wtM M X zs))).far (p := ⟨wb.heap.size, 1, none⟩) (by show w.heap.size ≠ wb.heap.size; omega) (.slice Ab (wtY M X zs).length cb)
        have bqf := (bqc.far (p := ⟨wb.heap.size, 0, none⟩) (by show (w.heap.size + 1) ≠ wb.heap.size; omega) (.int .i64 (wtM M X zs))).far (p := ⟨wb.heap.size, 1, none⟩) (by show (w.heap.size + 1) ≠ wb.heap.size; omega) (.slice Ab (wtY M X zs).length cb)
        have hof := (hoc.setFar (p := ⟨wb.heap.size, 0, none⟩) (.inr (by show g ≤ wb.heap.size; omega)) (.int .i64 (wtM M X zs))).setFar (p := ⟨wb.heap.size, 1, none⟩) (.inr (by show g ≤ wb.heap.size; omega)) (.slice Ab (wtY M X zs).length cb)
        have hYf := ((hYc.setG bzc 0 (.int .i64 (wtM M X zs))).setG (bzc.set 0 (.int .i64 (wtM M X zs))) 1 (.slice Ab (wtY M X zs).length cb)).wide (lo' := w.heap.size + 3) (by omega) (Nat.le_refl _)
        have curf := curc.below' (((Below.refl wb.heap.size wc).setCell (p := ⟨wb.heap.size, 0, none⟩) (Nat.le_refl _) (.int .i64 (wtM M X zs))).setCell (p := ⟨wb.heap.size, 1, none⟩) (Nat.le_refl _) (.slice Ab (wtY M X zs).length cb)) (by omega)
        have hbf := (hbc.setCell (p := ⟨wb.heap.size, 0, none⟩) (by show w.heap.size ≤ wb.heap.size; omega) (.int .i64 (wtM M X zs))).setCell (p := ⟨wb.heap.size, 1, none⟩) (by show w.heap.size ≤ wb.heap.size; omega) (.slice Ab (wtY M X zs).length cb)
        obtain ⟨Z0, Z1⟩ := bgf.two
        refine wpAnyH_ready (rs := [9]) (by kernel_rfl) (by simp) ?_
        refine AllReadyH.cons rfl (fun K hK => ?_) AllReadyH.nil
        go_simp
        refine hK.out _ _ ?_ (fun hHeld => ?_)
        · first | exact ⟨D0, D1⟩ | exact ⟨E0, E1⟩ | exact ⟨F0, F1⟩ | exact ⟨P0, P1⟩ | exact ⟨Z0, Z1⟩
        clear hK K
        try simp only [Act.put, List.getElem_toArray, List.getElem_cons_succ, List.getElem_cons_zero, List.setIfInBounds_toArray, List.set_cons_zero, List.set_cons_succ]
        refine wpAnyH_ready (rs := [10]) (by kernel_rfl) (by simp) ?_
        refine AllReadyH.cons rfl (fun K hK => ?_) AllReadyH.nil
        go_simp
        refine hK.out _ _ ?_ (fun hHeld => ?_)
        · first | exact ⟨D0, D1⟩ | exact ⟨E0, E1⟩ | exact ⟨F0, F1⟩ | exact ⟨P0, P1⟩ | exact ⟨Z0, Z1⟩
        clear hK K
        try simp only [Act.put, List.getElem_toArray, List.getElem_cons_succ, List.getElem_cons_zero, List.setIfInBounds_toArray, List.set_cons_zero, List.set_cons_succ]
        refine wpAnyH_done (by kernel_rfl) ?_ _
        go_wp2_with fail
        go_meet
        case rel => exact ⟨wb.heap.size, wtM M X zs, wtY M X zs, .slice Ab (wtY M X zs).length cb, rfl, wtY_short HOK.out.1 hzl, by omega, bzf, hYf.wide (Nat.le_refl _) (by simp; try omega), bgf, brf, bqf, hof, curf, hbf⟩
    · skip
      have kz := alloc_new w3.drew (Obj.cells #[Value.int .i64 0, .slice none 0 0] 26)
      have bza := Bx.made w3.drew 26 #[Value.int .i64 0, .slice none 0 0]
      have bga := bgd.new kz
      have bra := brd.new kz
      have bqa := bqd.new kz
      have hoa := hod.new kz
      have cura := curd.below kz
      have hba := hbd.trans (kz.mono hbd.size)
      rw [hzd] at bza
      have hzz := kz.size
      obtain ⟨P0, P1⟩ := bga.two
      go_simp
      refine hK.out _ _ ?_ (fun hHeld => ?_)
      · exact ⟨P0, P1⟩
      clear hK K
      try simp only [Act.put]
      refine wpAnyH_ready (rs := [3]) (by kernel_rfl) (by simp) ?_
      refine AllReadyH.cons rfl (fun K hK => ?_) AllReadyH.nil
      rw [if_pos (by rfl)]
      go_simp
      go_at_call 46
      refine (set4_any (N := M) (v := .slice Av X.length cv) cura).mono ?_
      rintro e wb ⟨zs, us, hzl, rfl, hrowb, hgb, curb⟩
      have bgb := bga.only hgb (by omega)
      have brb := bra.only hgb (by omega)
      have bqb := bqa.only hgb (by omega)
      have bzb := bza.only hgb (by omega)
      have hob := hoa.only hgb (by omega)
      have hbb := cur_below hba hgb (by omega)
      have hzb := hgb.size
      obtain ⟨Az, cz, rfl, _, _, _⟩ := hrowb.rd (n := zs.length) (ivs_len zs)
      replace hrowb := hrowb.wide (Nat.zero_le _) (Nat.le_refl _)
      obtain ⟨E0, E1⟩ := bgb.two
      refine hK.out _ _ ?_ (fun hHeld => ?_)
      · exact ⟨E0, E1⟩
      clear hK K
      try simp only [Act.put]
      refine wpAnyH_ready (rs := [4]) (by kernel_rfl) (by simp) ?_
      refine AllReadyH.cons rfl (fun K hK => ?_) AllReadyH.nil
      rw [if_pos (by rfl)]
      go_simp
      go_at_call 7
      refine (specWithClaim_any (N := M) (X := X) (S := zs) (c := cv) (c' := cz) (Lib.hid rfl) (by have := HOK.out.1; omega) HOK.out.small (hob.rd'.more (by omega)) (Lib.hid rfl) (by omega) (hrowb.rd'.more (by omega))).mono ?_
      rintro e wc ⟨vb, rfl, hYc, rc⟩
      have bgc := bgb.new rc
      have brc := brb.new rc
      have bqc := bqb.new rc
      have bzc := bzb.new rc
      have hoc := hob.new rc
      have curc := curb.below rc
      have hbc := hbb.trans (rc.mono hbb.size)
      have hzc := rc.size
      obtain ⟨Ab, cb, rfl, _, _, _⟩ := hYc.rd (n := (wtY M X zs).length) rfl
      have hvc := hYc.one
      obtain ⟨F0, F1⟩ := bgc.two
      refine hK.out _ _ ?_ (fun hHeld => ?_)
      · exact ⟨F0, F1⟩
      clear hK K
      try simp only [Act.put]
      refine wpAnyH_take (i := 5) (v := ?_) rfl (by kernel_rfl) (by kernel_rfl) (by kernel_rfl) (fun _ _ _ h => h) (Or.inl ⟨by rfl, ?_⟩) (by assumption) ?_
      rotate_left
      · intro w hSw
        try dsimp only at hSw
        go_simp
        try with_reducible rfl
      try simp only [Act.put, List.getElem_toArray, List.getElem_cons_succ, List.getElem_cons_zero, List.setIfInBounds_toArray, List.set_cons_zero, List.set_cons_succ]
      refine wpAnyH_take (i := 6) (v := ?_) rfl (by kernel_rfl) (by kernel_rfl) (by kernel_rfl) (fun _ _ _ h => h) (Or.inl ⟨by rfl, ?_⟩) (by assumption) ?_
      rotate_left
      · intro w hSw
        try dsimp only at hSw
        go_simp
        try with_reducible rfl
      try simp only [Act.put, List.getElem_toArray, List.getElem_cons_succ, List.getElem_cons_zero, List.setIfInBounds_toArray, List.set_cons_zero, List.set_cons_succ]
      refine wpAnyH_take (i := 7) (v := ?_) rfl (by kernel_rfl) (by kernel_rfl) (by kernel_rfl) (fun _ _ _ h => h) (Or.inl ⟨by rfl, ?_⟩) (by assumption) ?_
      rotate_left
      · intro w hSw
        try dsimp only at hSw
        go_simp
        try with_reducible rfl
      try simp only [Act.put, List.getElem_toArray, List.getElem_cons_succ, List.getElem_cons_zero, List.setIfInBounds_toArray, List.set_cons_zero, List.set_cons_succ]
      obtain ⟨G0, G1⟩ := bzc.two
      have f0 := bzc.free 0
      have f1 := bzc.free 1
      have bzf := (bzc.set 0 (.int .i64 (wtM M X zs))).set 1 (.slice Ab (wtY M X zs).length cb)
      have bgf := (bgc.far (p := ⟨(g + 1), 0, none⟩) (by show g ≠ (g + 1); omega) (.int .i64 (wtM M X zs))).far (p := ⟨(g + 1), 1, none⟩) (by show g ≠ (g + 1); omega) (.slice Ab (wtY M X zs).length cb)
      have brf := (brc.far (p := ⟨(g + 1), 0, none⟩) (by show w.heap.size ≠ (g + 1); omega) (.int .i64 (wtM M X zs))).far (p := ⟨(g + 1), 1, none⟩) (by show w.heap.size ≠ (g + 1); omega) (.slice Ab (wtY M X zs).length cb)
      have bqf := (bqc.far (p := ⟨(g + 1), 0, none⟩) (by show (w.heap.size + 1) ≠ (g + 1); omega) (.int .i64 (wtM M X zs))).far (p := ⟨(g + 1), 1, none⟩) (by show (w.heap.size + 1) ≠ (g + 1); omega) (.slice Ab (wtY M X zs).length cb)
      have hof := (hoc.setFar (p := ⟨(g + 1), 0, none⟩) (.inr (by show g ≤ (g + 1); omega)) (.int .i64 (wtM M X zs))).setFar (p := ⟨(g + 1), 1, none⟩) (.inr (by show g ≤ (g + 1); omega)) (.slice Ab (wtY M X zs).length cb)
      have hYf := ((hYc.setG bzc 0 (.int .i64 (wtM M X zs))).setG (bzc.set 0 (.int .i64 (wtM M X zs))) 1 (.slice Ab (wtY M X zs).length cb)).wide (lo' := w.heap.size + 3) (by omega) (Nat.le_refl _)
      have curf := curc.below' (((Below.refl (g + 1) wc).setCell (p := ⟨(g + 1), 0, none⟩) (Nat.le_refl _) (.int .i64 (wtM M X zs))).setCell (p := ⟨(g + 1), 1, none⟩) (Nat.le_refl _) (.slice Ab (wtY M X zs).length cb)) (by omega)
      have hbf := (hbc.setCell (p := ⟨(g + 1), 0, none⟩) (by show w.heap.size ≤ (g + 1); omega) (.int .i64 (wtM M X zs))).setCell (p := ⟨(g + 1), 1, none⟩) (by show w.heap.size ≤ (g + 1); omega) (.slice Ab (wtY M X zs).length cb)
      obtain ⟨Z0, Z1⟩ := bgf.two
      refine wpAnyH_ready (rs := [9]) (by kernel_rfl) (by simp) ?_
      refine AllReadyH.cons rfl (fun K hK => ?_) AllReadyH.nil
      go_simp
      refine hK.out _ _ ?_ (fun hHeld => ?_)
      · first | exact ⟨D0, D1⟩ | exact ⟨E0, E1⟩ | exact ⟨F0, F1⟩ | exact ⟨P0, P1⟩ | exact ⟨Z0, Z1⟩
      clear hK K
      try simp only [Act.put, List.getElem_toArray, List.getElem_cons_succ, List.getElem_cons_zero, List.setIfInBounds_toArray, List.set_cons_zero, List.set_cons_succ]
      refine wpAnyH_ready (rs := [10]) (by kernel_rfl) (by simp) ?_
      refine AllReadyH.cons rfl (fun K hK => ?_) AllReadyH.nil
      go_simp
      refine hK.out _ _ ?_ (fun hHeld => ?_)
      · first | exact ⟨D0, D1⟩ | exact ⟨E0, E1⟩ | exact ⟨F0, F1⟩ | exact ⟨P0, P1⟩ | exact ⟨Z0, Z1⟩
      clear hK K
      try simp only [Act.put, List.getElem_toArray, List.getElem_cons_succ, List.getElem_cons_zero, List.setIfInBounds_toArray, List.set_cons_zero, List.set_cons_succ]
      refine wpAnyH_done (by kernel_rfl) ?_ _
      go_wp2_with fail
      go_meet
      case rel => exact ⟨(g + 1), wtM M X zs, wtY M X zs, .slice Ab (wtY M X zs).length cb, rfl, wtY_short HOK.out.1 hzl, by omega, bzf, hYf.wide (Nat.le_refl _) (by simp; try omega), bgf, brf, bqf, hof, curf, hbf⟩
  case rest =>
    obtain ⟨gb, N, Y, u, rfl, hY, hgb, bz, hoY, bg, br, bq, hoX, cur, hb⟩ := hcut
    obtain ⟨Au, cu, rfl, _, _, _⟩ := hoY.rd (n := Y.length) rfl
    have hl := bz.lt
    go_wp2_with fail
    refine (once_any cur 4 (by omega)).mono ?_
    rintro e w5 ⟨b, rfl, hg5, cur5⟩
    have bz5 := bz.only hg5 (by omega)
    have bg5 := bg.only hg5 (by omega)
    have br5 := br.only hg5 (by omega)
    have bq5 := bq.only hg5 (by omega)
    have hoX5 := hoX.only hg5 (by omega)
    have hoY5 := (hoY.only hg5 (by omega)).wide (Nat.le_refl _) hg5.size
    have hb5 := cur_below hb hg5 (by omega)
    have hl5 := bz5.lt
    clear bz bg br bq hoX hoY hb cur hl HC HB HR HQ HO D0 D1
    cases b with
    | false =>
      go_wp2_with fail
      obtain ⟨D0, D1⟩ := bg5.two
      obtain ⟨E0, E1⟩ := bz5.two
      obtain ⟨R0, R1⟩ := br5.two
      have r0 := br5.free 0
      have r1 := br5.free 1
      have br8 := (br5.set 0 (.int .i64 M)).set 1 (.slice Av X.length cv)
      have bg8 := (bg5.far (p := ⟨w.heap.size, 0, none⟩) (by show g ≠ w.heap.size; omega) (.int .i64 M)).far (p := ⟨w.heap.size, 1, none⟩) (by show g ≠ w.heap.size; omega) (.slice Av X.length cv)
      have bz8 := (bz5.far (p := ⟨w.heap.size, 0, none⟩) (by show gb ≠ w.heap.size; omega) (.int .i64 M)).far (p := ⟨w.heap.size, 1, none⟩) (by show gb ≠ w.heap.size; omega) (.slice Av X.length cv)
      have bq8 := (bq5.far (p := ⟨w.heap.size, 0, none⟩) (by show (w.heap.size + 1) ≠ w.heap.size; omega) (.int .i64 M)).far (p := ⟨w.heap.size, 1, none⟩) (by show (w.heap.size + 1) ≠ w.heap.size; omega) (.slice Av X.length cv)
      have hoX8 := (hoX5.setFar (p := ⟨w.heap.size, 0, none⟩) (.inl (by show w.heap.size < _; omega)) (.int .i64 M)).setFar (p := ⟨w.heap.size, 1, none⟩) (.inl (by show w.heap.size < _; omega)) (.slice Av X.length cv)
      have hoY8 := (hoY5.setFar (p := ⟨w.heap.size, 0, none⟩) (.inl (by show w.heap.size < _; omega)) (.int .i64 M)).setFar (p := ⟨w.heap.size, 1, none⟩) (.inl (by show w.heap.size < _; omega)) (.slice Av X.length cv)
      have hb8 := (hb5.setCell (p := ⟨w.heap.size, 0, none⟩) (Nat.le_refl _) (.int .i64 M)).setCell (p := ⟨w.heap.size, 1, none⟩) (Nat.le_refl _) (.slice Av X.length cv)
      obtain ⟨w8, hw8⟩ : ∃ u : World, u = (w5.setCell ⟨w.heap.size, 0, none⟩ (.int .i64 M)).setCell ⟨w.heap.size, 1, none⟩ (.slice Av X.length cv) := ⟨_, rfl⟩
      have hs8 : w8.heap.size = w5.heap.size := by rw [hw8]; simp
      rw [← hw8] at br8 bg8 bz8 bq8 hoX8 hoY8 hb8
      have HW8 := Lib.hid hw8.symm
      clear hw8
      have HF := Lib.hid bg8.two
      have HG8 := Lib.hid bz8.two
      obtain ⟨Q0, Q1⟩ := bq8.two
      have q0 := bq8.free 0
      have q1 := bq8.free 1
      have bq9 := (bq8.set 0 (.int .i64 N)).set 1 (.slice Au Y.length cu)
      have br9 := (br8.far (p := ⟨w.heap.size + 1, 0, none⟩) (by show w.heap.size ≠ w.heap.size + 1; omega) (.int .i64 N)).far (p := ⟨w.heap.size + 1, 1, none⟩) (by show w.heap.size ≠ w.heap.size + 1; omega) (.slice Au Y.length cu)
      have bg9 := (bg8.far (p := ⟨w.heap.size + 1, 0, none⟩) (by show g ≠ w.heap.size + 1; omega) (.int .i64 N)).far (p := ⟨w.heap.size + 1, 1, none⟩) (by show g ≠ w.heap.size + 1; omega) (.slice Au Y.length cu)
      have bz9 := (bz8.far (p := ⟨w.heap.size + 1, 0, none⟩) (by show gb ≠ w.heap.size + 1; omega) (.int .i64 N)).far (p := ⟨w.heap.size + 1, 1, none⟩) (by show gb ≠ w.heap.size + 1; omega) (.slice Au Y.length cu)
      have hoX9 := (hoX8.setFar (p := ⟨w.heap.size + 1, 0, none⟩) (.inl (by show w.heap.size + 1 < _; omega)) (.int .i64 N)).setFar (p := ⟨w.heap.size + 1, 1, none⟩) (.inl (by show w.heap.size + 1 < _; omega)) (.slice Au Y.length cu)
      have hoY9 := (hoY8.setFar (p := ⟨w.heap.size + 1, 0, none⟩) (.inl (by show w.heap.size + 1 < _; omega)) (.int .i64 N)).setFar (p := ⟨w.heap.size + 1, 1, none⟩) (.inl (by show w.heap.size + 1 < _; omega)) (.slice Au Y.length cu)
      have hb9 := (hb8.setCell (p := ⟨w.heap.size + 1, 0, none⟩) (by show w.heap.size ≤ w.heap.size + 1; omega) (.int .i64 N)).setCell (p := ⟨w.heap.size + 1, 1, none⟩) (by show w.heap.size ≤ w.heap.size + 1; omega) (.slice Au Y.length cu)
      have HY9 := Lib.hid bg9.two
      have HZ9 := Lib.hid bz9.two
      have H9 := Lib.hid (And.intro br9 (And.intro bq9 (And.intro hoX9 (And.intro hoY9 hb9))))
      clear br9 bq9 hoX9 hoY9 hb9 bg9 bz9 br8 bg8 bz8 bq8 hoX8 hoY8 hb8
      clear br5 bg5 bz5 bq5 hoX5 hoY5 hb5
      refine wp_region_held_drew (S := fun u => u.cell? ⟨g, 0, none⟩ = some (.int .i64 M) ∧ u.cell? ⟨g, 1, none⟩ = some (.slice Av X.length cv) ∧ u.cell? ⟨gb, 0, none⟩ = some (.int .i64 N) ∧ u.cell? ⟨gb, 1, none⟩ = some (.slice Au Y.length cu)) (by kernel_rfl) ?_ (fun hHeld => ?_)
      · first | exact ⟨D0, D1, E0, E1⟩ | (rw [HW8.out]; exact ⟨HF.out.1, HF.out.2, HG8.out.1, HG8.out.2⟩) | exact ⟨HY9.out.1, HY9.out.2, HZ9.out.1, HZ9.out.2⟩
      refine wpAnyH_take (i := 0) (v := ?_) rfl (by kernel_rfl) (by kernel_rfl) (by kernel_rfl) (fun _ _ _ h => h) (Or.inl ⟨by rfl, ?_⟩) (by assumption) ?_
      rotate_left
      · intro w hSw
        try dsimp only at hSw
        go_simp
        try with_reducible rfl
      try simp only [Act.put, List.getElem_toArray, List.getElem_cons_zero, List.setIfInBounds_toArray, List.set_cons_zero, List.set_cons_succ]
      refine wpAnyH_take (i := 1) (v := ?_) rfl (by kernel_rfl) (by kernel_rfl) (by kernel_rfl) (fun _ _ _ h => h) (Or.inl ⟨by rfl, ?_⟩) (by assumption) ?_
      rotate_left
      · intro w hSw
        try dsimp only at hSw
        go_simp
        try with_reducible rfl
      try simp only [Act.put, List.getElem_toArray, List.getElem_cons_succ, List.getElem_cons_zero, List.setIfInBounds_toArray, List.set_cons_zero, List.set_cons_succ]
      refine wpAnyH_ready (rs := [2]) (by kernel_rfl) (by simp) ?_
      refine AllReadyH.cons rfl (fun K hK => ?_) AllReadyH.nil
      go_simp
      refine hK.out _ _ ?_ (fun hHeld => ?_)
      · first | exact ⟨D0, D1, E0, E1⟩ | (rw [HW8.out]; exact ⟨HF.out.1, HF.out.2, HG8.out.1, HG8.out.2⟩) | exact ⟨HY9.out.1, HY9.out.2, HZ9.out.1, HZ9.out.2⟩
      clear hK K
      try simp only [Act.put, List.getElem_toArray, List.getElem_cons_succ, List.getElem_cons_zero, List.setIfInBounds_toArray, List.set_cons_zero, List.set_cons_succ]
      clear hHeld
      rw [HW8.out]
      clear HW8 R0 R1 r0 r1 D0 D1 E0 E1
      refine wpAnyH_ready (rs := [3]) (by kernel_rfl) (by simp) ?_
      refine AllReadyH.cons rfl (fun K hK => ?_) AllReadyH.nil
      go_simp
      refine hK.out _ _ ?_ (fun hHeld => ?_)
      · first | exact ⟨D0, D1, E0, E1⟩ | (rw [HW8.out]; exact ⟨HF.out.1, HF.out.2, HG8.out.1, HG8.out.2⟩) | exact ⟨HY9.out.1, HY9.out.2, HZ9.out.1, HZ9.out.2⟩
      clear hK K
      try simp only [Act.put, List.getElem_toArray, List.getElem_cons_succ, List.getElem_cons_zero, List.setIfInBounds_toArray, List.set_cons_zero, List.set_cons_succ]
      refine wpAnyH_done (by kernel_rfl) ?_ _
      go_wp2_with fail
      obtain ⟨br9, bq9, hoX9, hoY9, hb9⟩ := H9.out
      refine bodyPost_ret (resGG rfl br9 rfl bq9 rfl rfl rfl) rfl ⟨M, N, X, Y, _, _, by have := HOK.out.1; omega, hY, rfl, hoX9.wide (by omega) (by simp; omega), hoY9.wide (by omega) (by simp; omega), hb9.drew⟩
    | true =>
      go_wp2_with fail
      refine (any4_any cur5).mono ?_
      rintro e w6 ⟨N', Y', v', _, hok', rfl, hown6, hg6, cur6⟩
      have hv1 := hown6.one
      obtain ⟨A', c', rfl, _, _, _⟩ := hown6.rd (n := Y'.length) rfl
      have bz6 := bz5.only hg6 (by omega)
      have bg6 := bg5.only hg6 (by omega)
      have br6 := br5.only hg6 (by omega)
      have bq6 := bq5.only hg6 (by omega)
      have hoX6 := hoX5.only hg6 (by omega)
      have hb6 := cur_below hb5 hg6 (by omega)
      have hl6 := bz6.lt
      have ou := setRow_out w6 gb #[.int .i64 N', .slice A' Y'.length c'] (Nat.le_refl _) (Nat.lt_succ_self _)
      have hs7 : (w6.setRow gb #[.int .i64 N', .slice A' Y'.length c']).heap.size = w6.heap.size := by simp [World.setRow]
      have bz7 := bz6.setRow #[.int .i64 N', .slice A' Y'.length c']
      have bg7 := bg6.out ou (.inl (by omega))
      have br7 := br6.out ou (.inl (by omega))
      have bq7 := bq6.out ou (.inl (by omega))
      have hoX7 := hoX6.out ou (.inl (by omega))
      have hoY7 := (hown6.out ou (.inr (by omega))).wide (lo' := w.heap.size + 3) (by omega) ou.size
      have hb7 := hb6.trans (ou.below (by omega) (by omega))
      have HB6 := Lib.hid bz6
      clear bz5 bg5 br5 bq5 hoX5 hoY5 hb5 bg6 br6 bq6 hoX6 hb6 hown6 bz6
      go_wp2_with (refine stGR rfl (.tmp 6) (.tmp 23) rfl HB6.out rfl hv1 rfl rfl ?_)
      obtain ⟨D0, D1⟩ := bg7.two
      obtain ⟨E0, E1⟩ := bz7.two
      obtain ⟨R0, R1⟩ := br7.two
      have r0 := br7.free 0
      have r1 := br7.free 1
      have br8 := (br7.set 0 (.int .i64 M)).set 1 (.slice Av X.length cv)
      have bg8 := (bg7.far (p := ⟨w.heap.size, 0, none⟩) (by show g ≠ w.heap.size; omega) (.int .i64 M)).far (p := ⟨w.heap.size, 1, none⟩) (by show g ≠ w.heap.size; omega) (.slice Av X.length cv)
      have bz8 := (bz7.far (p := ⟨w.heap.size, 0, none⟩) (by show gb ≠ w.heap.size; omega) (.int .i64 M)).far (p := ⟨w.heap.size, 1, none⟩) (by show gb ≠ w.heap.size; omega) (.slice Av X.length cv)
      have bq8 := (bq7.far (p := ⟨w.heap.size, 0, none⟩) (by show (w.heap.size + 1) ≠ w.heap.size; omega) (.int .i64 M)).far (p := ⟨w.heap.size, 1, none⟩) (by show (w.heap.size + 1) ≠ w.heap.size; omega) (.slice Av X.length cv)
      have hoX8 := (hoX7.setFar (p := ⟨w.heap.size, 0, none⟩) (.inl (by show w.heap.size < _; omega)) (.int .i64 M)).setFar (p := ⟨w.heap.size, 1, none⟩) (.inl (by show w.heap.size < _; omega)) (.slice Av X.length cv)
      have hoY8 := (hoY7.setFar (p := ⟨w.heap.size, 0, none⟩) (.inl (by show w.heap.size < _; omega)) (.int .i64 M)).setFar (p := ⟨w.heap.size, 1, none⟩) (.inl (by show w.heap.size < _; omega)) (.slice Av X.length cv)
      have hb8 := (hb7.setCell (p := ⟨w.heap.size, 0, none⟩) (Nat.le_refl _) (.int .i64 M)).setCell (p := ⟨w.heap.size, 1, none⟩) (Nat.le_refl _) (.slice Av X.length cv)
      obtain ⟨w8, hw8⟩ : ∃ u : World, u = ((w6.setRow gb #[.int .i64 N', .slice A' Y'.length c']).setCell ⟨w.heap.size, 0, none⟩ (.int .i64 M)).setCell ⟨w.heap.size, 1, none⟩ (.slice Av X.length cv) := ⟨_, rfl⟩
      have hs8 : w8.heap.size = (w6.setRow gb #[.int .i64 N', .slice A' Y'.length c']).heap.size := by rw [hw8]; simp
      rw [← hw8] at br8 bg8 bz8 bq8 hoX8 hoY8 hb8
      have HW8 := Lib.hid hw8.symm
      clear hw8
      have HF := Lib.hid bg8.two
      have HG8 := Lib.hid bz8.two
      obtain ⟨Q0, Q1⟩ := bq8.two
      have q0 := bq8.free 0
      have q1 := bq8.free 1
      have bq9 := (bq8.set 0 (.int .i64 N')).set 1 (.slice A' Y'.length c')
      have br9 := (br8.far (p := ⟨w.heap.size + 1, 0, none⟩) (by show w.heap.size ≠ w.heap.size + 1; omega) (.int .i64 N')).far (p := ⟨w.heap.size + 1, 1, none⟩) (by show w.heap.size ≠ w.heap.size + 1; omega) (.slice A' Y'.length c')
      have bg9 := (bg8.far (p := ⟨w.heap.size + 1, 0, none⟩) (by show g ≠ w.heap.size + 1; omega) (.int .i64 N')).far (p := ⟨w.heap.size + 1, 1, none⟩) (by show g ≠ w.heap.size + 1; omega) (.slice A' Y'.length c')
      have bz9 := (bz8.far (p := ⟨w.heap.size + 1, 0, none⟩) (by show gb ≠ w.heap.size + 1; omega) (.int .i64 N')).far (p := ⟨w.heap.size + 1, 1, none⟩) (by show gb ≠ w.heap.size + 1; omega) (.slice A' Y'.length c')
      have hoX9 := (hoX8.setFar (p := ⟨w.heap.size + 1, 0, none⟩) (.inl (by show w.heap.size + 1 < _; omega)) (.int .i64 N')).setFar (p := ⟨w.heap.size + 1, 1, none⟩) (.inl (by show w.heap.size + 1 < _; omega)) (.slice A' Y'.length c')
      have hoY9 := (hoY8.setFar (p := ⟨w.heap.size + 1, 0, none⟩) (.inl (by show w.heap.size + 1 < _; omega)) (.int .i64 N')).setFar (p := ⟨w.heap.size + 1, 1, none⟩) (.inl (by show w.heap.size + 1 < _; omega)) (.slice A' Y'.length c')
      have hb9 := (hb8.setCell (p := ⟨w.heap.size + 1, 0, none⟩) (by show w.heap.size ≤ w.heap.size + 1; omega) (.int .i64 N')).setCell (p := ⟨w.heap.size + 1, 1, none⟩) (by show w.heap.size ≤ w.heap.size + 1; omega) (.slice A' Y'.length c')
      have HY9 := Lib.hid bg9.two
      have HZ9 := Lib.hid bz9.two
      have H9 := Lib.hid (And.intro br9 (And.intro bq9 (And.intro hoX9 (And.intro hoY9 hb9))))
      clear br9 bq9 hoX9 hoY9 hb9 bg9 bz9 br8 bg8 bz8 bq8 hoX8 hoY8 hb8
      clear br7 bg7 bz7 bq7 hoX7 hoY7 hb7 ou
      refine wp_region_held_drew (S := fun u => u.cell? ⟨g, 0, none⟩ = some (.int .i64 M) ∧ u.cell? ⟨g, 1, none⟩ = some (.slice Av X.length cv) ∧ u.cell? ⟨gb, 0, none⟩ = some (.int .i64 N') ∧ u.cell? ⟨gb, 1, none⟩ = some (.slice A' Y'.length c')) (by kernel_rfl) ?_ (fun hHeld => ?_)
      · first | exact ⟨D0, D1, E0, E1⟩ | (rw [HW8.out]; exact ⟨HF.out.1, HF.out.2, HG8.out.1, HG8.out.2⟩) | exact ⟨HY9.out.1, HY9.out.2, HZ9.out.1, HZ9.out.2⟩
      refine wpAnyH_take (i := 0) (v := ?_) rfl (by kernel_rfl) (by kernel_rfl) (by kernel_rfl) (fun _ _ _ h => h) (Or.inl ⟨by rfl, ?_⟩) (by assumption) ?_
      rotate_left
      · intro w hSw
        try dsimp only at hSw
        go_simp
        try with_reducible rfl
      try simp only [Act.put, List.getElem_toArray, List.getElem_cons_zero, List.setIfInBounds_toArray, List.set_cons_zero, List.set_cons_succ]
      refine wpAnyH_take (i := 1) (v := ?_) rfl (by kernel_rfl) (by kernel_rfl) (by kernel_rfl) (fun _ _ _ h => h) (Or.inl ⟨by rfl, ?_⟩) (by assumption) ?_
      rotate_left
      · intro w hSw
        try dsimp only at hSw
        go_simp
        try with_reducible rfl
      try simp only [Act.put, List.getElem_toArray, List.getElem_cons_succ, List.getElem_cons_zero, List.setIfInBounds_toArray, List.set_cons_zero, List.set_cons_succ]
      refine wpAnyH_ready (rs := [2]) (by kernel_rfl) (by simp) ?_
      refine AllReadyH.cons rfl (fun K hK => ?_) AllReadyH.nil
      go_simp
      refine hK.out _ _ ?_ (fun hHeld => ?_)
      · first | exact ⟨D0, D1, E0, E1⟩ | (rw [HW8.out]; exact ⟨HF.out.1, HF.out.2, HG8.out.1, HG8.out.2⟩) | exact ⟨HY9.out.1, HY9.out.2, HZ9.out.1, HZ9.out.2⟩
      clear hK K
      try simp only [Act.put, List.getElem_toArray, List.getElem_cons_succ, List.getElem_cons_zero, List.setIfInBounds_toArray, List.set_cons_zero, List.set_cons_succ]
      clear hHeld
      rw [HW8.out]
      clear HW8 R0 R1 r0 r1 D0 D1 E0 E1
      refine wpAnyH_ready (rs := [3]) (by kernel_rfl) (by simp) ?_
      refine AllReadyH.cons rfl (fun K hK => ?_) AllReadyH.nil
      go_simp
      refine hK.out _ _ ?_ (fun hHeld => ?_)
      · first | exact ⟨D0, D1, E0, E1⟩ | (rw [HW8.out]; exact ⟨HF.out.1, HF.out.2, HG8.out.1, HG8.out.2⟩) | exact ⟨HY9.out.1, HY9.out.2, HZ9.out.1, HZ9.out.2⟩
      clear hK K
      try simp only [Act.put, List.getElem_toArray, List.getElem_cons_succ, List.getElem_cons_zero, List.setIfInBounds_toArray, List.set_cons_zero, List.set_cons_succ]
      refine wpAnyH_done (by kernel_rfl) ?_ _
      go_wp2_with fail
      obtain ⟨br9, bq9, hoX9, hoY9, hb9⟩ := H9.out
      refine bodyPost_ret (resGG rfl br9 rfl bq9 rfl rfl rfl) rfl ⟨M, N', X, Y', _, _, by have := HOK.out.1; omega, by have := hok'.1; omega, rfl, hoX9.wide (by omega) (by simp; omega), hoY9.wide (by omega) (by simp; omega), hb9.drew⟩
end Go.Proofs.YtjhknafajfpldaaDoor

/- errors.As at a target of type *setFault: at no error, and at an error that is a setFault. Condition: the library's variable errors.errorType reads as the program's text lays it. -/
namespace Go.Proofs.YtjhknafajfpldaaDoor
open Go.RowKit Go.Extern.Stop Go.Stop Go.Extern
set_option maxRecDepth 100000
theorem as_nil (t : Value) (w : World) : Calls Tryd.prog 48 #[.nilIface, t] w fun e w' => e = .returned (.bool false) ∧ w = w' := by
  go_enter Tryd.func48, Tryd.ntmps48
  go_wp2
  go_ret
  exact ⟨rfl, rfl⟩
theorem as_valueOfP (t : Addr) (w : World) : (ReflectliteValue.unpack (.iface 80 (.pointer (some t)))).run Tryd.prog w = .ok (.agg #[.pointer (some ⟨1, 80, none⟩), .pointer (some ⟨w.heap.size, 0, none⟩), .int .u64 150]) (w.alloc (.cells #[.pointer (some t)] 80)) := by kernel_rfl
theorem as_typeP (a : Addr) (w : World) : (ReflectliteValue.methodAny (ReflectliteValue.valueError "reflectlite.Value.Type" 0) (fun t _ _ _ => ReflectliteType.toType t) #[.agg #[.pointer (some ⟨1, 80, none⟩), .pointer (some a), .int .u64 150]]).run Tryd.prog w = .ok (.iface 106 (.agg #[.pointer (some ⟨1, 80, none⟩)])) w := by kernel_rfl
theorem as_methodKind (h : Value) (w : World) : (Go.method 248 106 (.agg #[h]) "Kind").run Tryd.prog w = .ok (84, h) w := by kernel_rfl
theorem as_methodElem (h : Value) (w : World) : (Go.method 248 106 (.agg #[h]) "Elem").run Tryd.prog w = .ok (95, .agg #[h]) w := by kernel_rfl
theorem as_methodImplements (h : Value) (w : World) : (Go.method 248 106 (.agg #[h]) "Implements").run Tryd.prog w = .ok (96, .agg #[h]) w := by kernel_rfl
theorem as_methodAssignableTo (h : Value) (w : World) : (Go.method 248 106 (.agg #[h]) "AssignableTo").run Tryd.prog w = .ok (93, .agg #[h]) w := by kernel_rfl
theorem as_kindP (w : World) : ((ReflectliteType.abiMethod fun t => (fun a : Nat => Value.int IntKind.u8 (a : Int)) <$> Rtype.kind t) #[.pointer (some ⟨1, 80, none⟩)]).run Tryd.prog w = .ok (.int .u8 22) w := by kernel_rfl
theorem as_kindE (w : World) : ((ReflectliteType.abiMethod fun t => (fun a : Nat => Value.int IntKind.u8 (a : Int)) <$> Rtype.kind t) #[.pointer (some ⟨1, 75, none⟩)]).run Tryd.prog w = .ok (.int .u8 2) w := by kernel_rfl
theorem as_elemP (w : World) : (ReflectliteType.method ReflectliteType.elem #[.agg #[.pointer (some ⟨1, 80, none⟩)]]).run Tryd.prog w = .ok (.iface 106 (.agg #[.pointer (some ⟨1, 75, none⟩)])) w := by kernel_rfl
theorem as_implementsE (w : World) : (ReflectliteType.relation "Implements" ReflectliteType.implements_ #[.agg #[.pointer (some ⟨1, 75, none⟩)], .iface 106 (.agg #[.pointer (some ⟨1, 78, none⟩)])]).run Tryd.prog w = .ok (.bool true) w := by kernel_rfl
theorem as_typeOfE (v : Value) (w : World) : (ReflectliteType.typeOf #[.iface 75 v]).run Tryd.prog w = .ok (.iface 106 (.agg #[.pointer (some ⟨1, 75, none⟩)])) w := by kernel_rfl
theorem as_assignableE (w : World) : (ReflectliteType.relation "AssignableTo" ReflectliteType.assignableTo #[.agg #[.pointer (some ⟨1, 75, none⟩)], .iface 106 (.agg #[.pointer (some ⟨1, 75, none⟩)])]).run Tryd.prog w = .ok (.bool true) w := by kernel_rfl
theorem as_valueOfE (k : Int) (w : World) : (ReflectliteValue.unpack (.iface 75 (.int .i64 k))).run Tryd.prog w = .ok (.agg #[.pointer (some ⟨1, 75, none⟩), .pointer (some ⟨w.heap.size, 0, none⟩), .int .u64 130]) (w.alloc (.cells #[.int .i64 k] 75)) := by kernel_rfl
theorem as_elemOfP (w : World) : (Rtype.elem? 80).run Tryd.prog w = .ok (some 75) w := by kernel_rfl
theorem as_mkE (p : Addr) (w : World) : (ReflectliteValue.mk 75 p ReflectliteValue.flagAddr).run Tryd.prog w = .ok (.agg #[.pointer (some ⟨1, 75, none⟩), .pointer (some p), .int .u64 386]) w := by kernel_rfl
theorem as_partsP (a : Addr) (w : World) : (ReflectliteValue.parts (.agg #[.pointer (some ⟨1, 80, none⟩), .pointer (some a), .int .u64 150])).run Tryd.prog w = .ok (some (80, a, 150)) w := by kernel_rfl
theorem as_partsA (a : Addr) (w : World) : (ReflectliteValue.parts (.agg #[.pointer (some ⟨1, 75, none⟩), .pointer (some a), .int .u64 386])).run Tryd.prog w = .ok (some (75, a, 386)) w := by kernel_rfl
theorem as_partsE (a : Addr) (w : World) : (ReflectliteValue.parts (.agg #[.pointer (some ⟨1, 75, none⟩), .pointer (some a), .int .u64 130])).run Tryd.prog w = .ok (some (75, a, 130)) w := by kernel_rfl
theorem as_directE (w : World) : (Rtype.directlyAssignable 75 75).run Tryd.prog w = .ok true w := by kernel_rfl
theorem as_rlm (z : Sem Value) (f : TypeId → Addr → Nat → Nat → Sem Value) (v : Value) :
    ReflectliteValue.method z f #[v] = (do match ← ReflectliteValue.parts v with | none => z | some (t, a, fl) => f t a fl (fl % 32)) := rfl
theorem as_isNilP (a p : Addr) (W : World) (ha : W.cell? a = some (.pointer (some p))) :
    (ReflectliteValue.method (ReflectliteValue.valueError "reflectlite.Value.IsNil" 0) ReflectliteValue.isNil #[.agg #[.pointer (some ⟨1, 80, none⟩), .pointer (some a), .int .u64 150]]).run Tryd.prog W = .ok (.bool false) W := by
  rw [as_rlm]
  simp only [Sem.run_bind, as_partsP, Result.andThen]
  simp [ReflectliteValue.isNil, loadVar, isAgg, underlying, Tryd.underlying80, ha, Result.andThen]
theorem as_elemV (a p : Addr) (W : World) (ha : W.cell? a = some (.pointer (some p))) :
    (ReflectliteValue.method (ReflectliteValue.valueError "reflectlite.Value.Elem" 0) ReflectliteValue.elem #[.agg #[.pointer (some ⟨1, 80, none⟩), .pointer (some a), .int .u64 150]]).run Tryd.prog W
      = .ok (.agg #[.pointer (some ⟨1, 75, none⟩), .pointer (some p), .int .u64 386]) W := by
  rw [as_rlm]
  simp only [Sem.run_bind, as_partsP, Result.andThen]
  simp [ReflectliteValue.elem, loadVar, isAgg, underlying, Tryd.underlying80, ha, Result.andThen, as_elemOfP, as_mkE]
theorem as_rls (v x : Value) : ReflectliteValue.set #[v, x] = (do
    let (some (dst, a, fl), some (src, b, _)) := (← ReflectliteValue.parts v, ← ReflectliteValue.parts x)
      | unsupported (.noEntry "extern/(internal/reflectlite.Value).Set.zeroValue")
    if fl / ReflectliteValue.flagAddr % 2 == 0 then unsupported (.noEntry "extern/(internal/reflectlite.Value).Set.unaddressable")
    let val ← loadVar src b
    if ← Rtype.directlyAssignable dst src then storeVar dst a val
    else if ← Rtype.implements dst src then
      if (← Rtype.kind src) == 20 then
        match val with
        | .nilIface => unsupported (.noEntry "extern/reflectlite: a nil value of one interface type handed on as a value of another")
        | _ => storeVar dst a val
      else storeVar dst a (.iface src val)
    else panicString ("reflectlite.Set: value of type " ++ (← Rtype.spelt src) ++ " is not assignable to type " ++ (← Rtype.spelt dst))
    pure (.tuple #[])) := rfl
theorem as_setE (ta b : Addr) (k : Int) (old : Value) (W : World) (hb : W.cell? b = some (.int .i64 k)) (ht : W.cell? ta = some old) (hf : W.frozen? ta = false) :
    (ReflectliteValue.set #[.agg #[.pointer (some ⟨1, 75, none⟩), .pointer (some ta), .int .u64 386], .agg #[.pointer (some ⟨1, 75, none⟩), .pointer (some b), .int .u64 130]]).run Tryd.prog W
      = .ok (.tuple #[]) (W.setCell ta (.int .i64 k)) := by
  rw [as_rls]
  simp only [Sem.run_bind, as_partsA, as_partsE, Result.andThen]
  simp [ReflectliteValue.flagAddr, loadVar, isAgg, underlying, Tryd.underlying75, hb, Result.andThen, as_directE, storeVar, Value.cells, storeCells, Addr.add]
  rw [run_store Tryd.prog W ta _ _ (by rfl)]
  simp [ht, hf]
/-- What the library's variable holds. -/
def asE : Value := .iface 106 (.agg #[.pointer (some ⟨1, 78, none⟩)])
set_option maxHeartbeats 4000000 in
theorem as_hit (k : Int) (t : Addr) (old : Value) (w : World) (hg : w.cell? ⟨0, 0, none⟩ = some asE) (ht0 : w.cell? t = some old) (hf0 : w.frozen? t = false) :
    Calls Tryd.prog 48 #[.iface 75 (.int .i64 k), .iface 80 (.pointer (some t))] w fun ev w' => ev = .returned (.bool true) ∧ w' = ((((w.alloc (.cells #[.pointer (some t)] 80)).alloc (.cells #[.pointer (some ⟨1, 80, none⟩), .pointer (some ⟨w.heap.size, 0, none⟩), .int .u64 150] 91)).alloc (.cells #[.pointer (some ⟨1, 80, none⟩), .pointer (some ⟨w.heap.size, 0, none⟩), .int .u64 150] 91)).alloc (.cells #[.int .i64 k] 75)).setCell t (.int .i64 k) := by
  have h6 := @run_callFunc_extern Tryd.prog 58 _ (fun args => ReflectliteValue.unpack (args.getD 0 (.tuple #[]))) Tryd.func58 (by kernel_rfl) (by kernel_rfl) (by kernel_rfl) (by kernel_rfl)
  have h7 := @run_callFunc_extern Tryd.prog 59 _ (ReflectliteValue.methodAny (ReflectliteValue.valueError "reflectlite.Value.Type" 0) (fun t _ _ _ => ReflectliteType.toType t)) Tryd.func59 (by kernel_rfl) (by kernel_rfl) (by kernel_rfl) (by kernel_rfl)
  have h8 := @run_callFunc_extern Tryd.prog 60 _ (ReflectliteValue.method (ReflectliteValue.valueError "reflectlite.Value.IsNil" 0) ReflectliteValue.isNil) Tryd.func60 (by kernel_rfl) (by kernel_rfl) (by kernel_rfl) (by kernel_rfl)
  have h27 := @run_callFunc_extern Tryd.prog 84 _ (ReflectliteType.abiMethod fun t => do pure (.int .u8 (← Rtype.kind t))) Tryd.func84 (by kernel_rfl) (by kernel_rfl) (by kernel_rfl) (by kernel_rfl)
  have h37 := @run_callFunc_extern Tryd.prog 95 _ (ReflectliteType.method ReflectliteType.elem) Tryd.func95 (by kernel_rfl) (by kernel_rfl) (by kernel_rfl) (by kernel_rfl)
  have h38 := @run_callFunc_extern Tryd.prog 96 _ (ReflectliteType.relation "Implements" ReflectliteType.implements_) Tryd.func96 (by kernel_rfl) (by kernel_rfl) (by kernel_rfl) (by kernel_rfl)
  have h10 := @run_callFunc_extern Tryd.prog 67 _ ReflectliteType.typeOf Tryd.func67 (by kernel_rfl) (by kernel_rfl) (by kernel_rfl) (by kernel_rfl)
  have h35 := @run_callFunc_extern Tryd.prog 93 _ (ReflectliteType.relation "AssignableTo" ReflectliteType.assignableTo) Tryd.func93 (by kernel_rfl) (by kernel_rfl) (by kernel_rfl) (by kernel_rfl)
  have h11 := @run_callFunc_extern Tryd.prog 68 _ (ReflectliteValue.method (ReflectliteValue.valueError "reflectlite.Value.Elem" 0) ReflectliteValue.elem) Tryd.func68 (by kernel_rfl) (by kernel_rfl) (by kernel_rfl) (by kernel_rfl)
  have h12 := @run_callFunc_extern Tryd.prog 69 _ ReflectliteValue.set Tryd.func69 (by kernel_rfl) (by kernel_rfl) (by kernel_rfl) (by kernel_rfl)
  have tO := as_typeOfE
  have mA := as_methodAssignableTo
  have a25 := as_assignableE
  have v25 := as_valueOfE
  have f6 := as_valueOfP
  have f7 := as_typeP
  have mK := as_methodKind
  have mE := as_methodElem
  have mI := as_methodImplements
  have k27 := as_kindP
  have k25 := as_kindE
  have e27 := as_elemP
  have i25 := as_implementsE
  unfold asE at hg
  have n8 := as_isNilP ⟨w.heap.size, 0, none⟩ t ((w.alloc (.cells #[.pointer (some t)] 80)).alloc (.cells #[.pointer (some ⟨1, 80, none⟩), .pointer (some ⟨w.heap.size, 0, none⟩), .int .u64 150] 91)) (by simp)
  have hlt : 0 < w.heap.size := by
    rcases Nat.eq_zero_or_pos w.heap.size with h0 | h
    · simp [World.cell?, h0] at hg
    · exact h
  have hg2 : ((w.alloc (.cells #[.pointer (some t)] 80)).alloc (.cells #[.pointer (some ⟨1, 80, none⟩), .pointer (some ⟨w.heap.size, 0, none⟩), .int .u64 150] 91)).cell? ⟨0, 0, none⟩ = some (.iface 106 (.agg #[.pointer (some ⟨1, 78, none⟩)])) := by
    rw [World.cell?_alloc_lt _ _ ⟨0, 0, none⟩ (by simp), World.cell?_alloc_lt _ _ ⟨0, 0, none⟩ hlt]; exact hg
  have htl : t.block < w.heap.size := by
    rcases Nat.lt_or_ge t.block w.heap.size with h | h
    · exact h
    · simp [World.cell?, Array.getElem?_eq_none h] at ht0
  have el := as_elemV ⟨w.heap.size, 0, none⟩ t (((w.alloc (.cells #[.pointer (some t)] 80)).alloc (.cells #[.pointer (some ⟨1, 80, none⟩), .pointer (some ⟨w.heap.size, 0, none⟩), .int .u64 150] 91)).alloc (.cells #[.pointer (some ⟨1, 80, none⟩), .pointer (some ⟨w.heap.size, 0, none⟩), .int .u64 150] 91)) (by rw [World.cell?_alloc_lt _ _ ⟨w.heap.size, 0, none⟩ (by simp; omega)]; simp)
  have st := as_setE t ⟨w.heap.size + 1 + 1 + 1, 0, none⟩ k old ((((w.alloc (.cells #[.pointer (some t)] 80)).alloc (.cells #[.pointer (some ⟨1, 80, none⟩), .pointer (some ⟨w.heap.size, 0, none⟩), .int .u64 150] 91)).alloc (.cells #[.pointer (some ⟨1, 80, none⟩), .pointer (some ⟨w.heap.size, 0, none⟩), .int .u64 150] 91)).alloc (.cells #[.int .i64 k] 75))
    (by rw [World.cell?_alloc_at _ _ _ _ (by simp)]; rfl)
    (by rw [World.cell?_alloc_lt _ _ t (by simp; omega), World.cell?_alloc_lt _ _ t (by simp; omega), World.cell?_alloc_lt _ _ t (by simp; omega), World.cell?_alloc_lt _ _ t htl]; exact ht0)
    (by rw [World.frozen?_alloc_old _ _ t (by simp; omega), World.frozen?_alloc_old _ _ t (by simp; omega), World.frozen?_alloc_old _ _ t (by simp; omega), World.frozen?_alloc_old _ _ t (Nat.ne_of_lt htl)]; exact hf0)
  go_enter Tryd.func48, Tryd.ntmps48
  go_wp2
  refine wp_loop_rounds 1 ?_
  rw [rounds_succ]
  go_wp2
  go_ret
  exact ⟨rfl, rfl⟩
end Go.Proofs.YtjhknafajfpldaaDoor
