/- Contracts of the draws of AddAttack and HitBy. Condition: the code's bytes lie in old memory. -/
import Derived.Test.YtobghogkflgpeaaDrawG2
import Derived.Test.YtobghogkflgpeaaMg5
import Derived.Test.YtobghogkflgpeaaMg1
namespace Go.Proofs.Ytobghogkflgpeaa
open Go.ChangeShapes Go.WideShapes Go.ChangeAt Go.RowKit
set_option maxRecDepth 100000
theorem mn12 (N : Int) : mn 12 N ≤ 12 := by unfold mn; split <;> omega
/-- A set was drawn; its memory is new. -/
def DrewS (B : Nat) (A : Option Addr) (n c : Nat) (w : World) (e : Ending) (w' : World) : Prop :=
  ∃ (zs : List Int) (v : Value), zs.length ≤ 12 ∧ e = .returned v ∧ Row w' w.heap.size w'.heap.size 3 v (ivs zs) ∧ w.grownBy w' (some B) ∧ Cur w' B A n c
/-- A graph and an integer were drawn; nothing old has turned. -/
def DrewGI (w : World) (e : Ending) (w' : World) : Prop :=
  ∃ (N : Int) (X : List (List Int)) (v : Value) (x : Int), GOK 10 X ∧ e = .returned (.tuple #[.agg #[.int .i64 N, v], .int .i64 x]) ∧ OwnSS w' w.heap.size w'.heap.size v X ∧ Below w.heap.size w w'
theorem drew_result {w w2 : World} {M : Nat} {v : Value} {X : List (List Int)} (cs : Array Value) (hown : OwnSS w2 M w2.heap.size v X) (hb : Below w.heap.size w w2) (hM : w.heap.size + 1 ≤ M) (hz : w.heap.size ≤ w2.heap.size) :
    OwnSS (w2.setRow w.heap.size cs) w.heap.size (w2.setRow w.heap.size cs).heap.size v X ∧ Below w.heap.size w (w2.setRow w.heap.size cs) :=
  ⟨(hown.out (setRow_out w2 _ cs (Nat.le_refl _) (Nat.lt_succ_self _)) (.inr hM)).wide (by omega) (by simp [World.setRow]), hb.trans ((setRow_out w2 _ cs (Nat.le_refl _) (Nat.lt_succ_self _)).below (Nat.le_refl _) hz)⟩
theorem cells_result {w w2 : World} {M : Nat} {v a b : Value} {X : List (List Int)} (hown : OwnSS w2 M w2.heap.size v X) (hb : Below w.heap.size w w2) (hM : w.heap.size + 1 ≤ M) :
    OwnSS ((w2.setCell ⟨w.heap.size, 0, none⟩ a).setCell ⟨w.heap.size, 1, none⟩ b) w.heap.size ((w2.setCell ⟨w.heap.size, 0, none⟩ a).setCell ⟨w.heap.size, 1, none⟩ b).heap.size v X ∧ Below w.heap.size w ((w2.setCell ⟨w.heap.size, 0, none⟩ a).setCell ⟨w.heap.size, 1, none⟩ b) :=
  ⟨((hown.setFar (p := ⟨w.heap.size, 0, none⟩) (.inl hM) _).setFar (p := ⟨w.heap.size, 1, none⟩) (.inl hM) _).wide (by omega) (by simp), (hb.setCell (Nat.le_refl _) _).setCell (Nat.le_refl _) _⟩
theorem results_cell_tmp2 {fn : Func} {p u v : Tmp} {ty : TypeId} (h : fn.results = #[.cell p ty, .tmp u, .tmp v]) (tmps : Array Value) (P : Program) (w : World) :
    (results fn tmps).run P w = ((asAddr (tmps.getD p undef)).run P w).andThen fun a w₁ => ((loadVar ty a).run P w₁).andThen fun x w₂ => .ok (.tuple #[x, tmps.getD u undef, tmps.getD v undef]) w₂ := by
  simp only [results, h]
  simp [Sem.run_bind, Result.andThen]
theorem resGII {w : World} {fn : Func} {p u v : Tmp} {tmps : Array Value} {g : Nat} {cs : Array Value} {x y : Value} (h : fn.results = #[.cell p 27, .tmp u, .tmp v]) (hb : Bx w g 27 cs) (hs : cs.size = 2) (hp : tmps.getD p undef = .pointer (some ⟨g, 0, none⟩)) (hu : tmps.getD u undef = x) (hv : tmps.getD v undef = y) : (results fn tmps).run Try.prog w = .ok (.tuple #[.agg cs, x, y]) w := by
  rw [results_cell_tmp2 h, hp, hu, hv]
  simp [asAddr, run_loadVar_row w g _ _ cs (0, 0) _ hb Try.underlying27 rfl (by rw [GR_info, hs])]
end Go.Proofs.Ytobghogkflgpeaa

/- Contracts of the models of DoesAttack, AttackersOf, VictimsOf. No conditions but that the slices have at most 2^40 elements. -/
namespace Go.Proofs.Ytobghogkflgpeaa
open Go.ChangeShapes Go.WideShapes Go.ChangeAt Go.RowKit
set_option maxRecDepth 100000
theorem pair_at {w : World} {B : Nat} {A : Option Addr} {X : List (List Int)} {m : Nat} (h : RdSS w B A X) (hp : Prs m X) {k : Nat} (hk : k < X.length) :
    ∃ (ad : Addr) (ag ao cj p q : Nat), A = some ad ∧ ad.block < B ∧ w.cell? (ad.add k) = some (.slice (some ⟨ag, ao, none⟩) 2 cj) ∧ ag < B ∧ w.cell? ⟨ag, ao, none⟩ = some (.int .i64 p) ∧ w.cell? ⟨ag, ao + 1, none⟩ = some (.int .i64 q) ∧ X[k] = [(p : Int), (q : Int)] ∧ p < m ∧ q < m := by
  obtain ⟨ad, Aj, cj, rfl, hab, hc, _, _, hrd⟩ := h.at_ hk
  obtain ⟨p, q, hx, h1, h2⟩ := hp X[k] (List.getElem_mem hk)
  rw [hx] at hc hrd
  rw [show ([(p : Int), (q : Int)] : List Int).length = 2 from rfl] at hc
  obtain ⟨ag, ao, rfl, ha2, e0, e1⟩ := rd2 hrd
  exact ⟨ad, ag, ao, cj, p, q, rfl, hab, hc, ha2, e0, e1, hx, h1, h2⟩
theorem any_take {α : Type} {X : List α} {f : α → Bool} {k : Nat} (hk : k < X.length) : (X.take (k + 1)).any f = ((X.take k).any f || f X[k]) := by
  rw [List.take_succ_eq_append_getElem hk, List.any_append]; simp
theorem any_yes {α : Type} {X : List α} {f : α → Bool} {k : Nat} (hk : k < X.length) (h : f X[k] = true) : X.any f = true := List.any_eq_true.2 ⟨_, List.getElem_mem hk, h⟩
end Go.Proofs.Ytobghogkflgpeaa

/- Contracts of the models of AttackersOf, VictimsOf. No conditions but that the slices have at most 2^40 elements. -/
namespace Go.Proofs.Ytobghogkflgpeaa
open Go.ChangeShapes Go.WideShapes Go.ChangeAt Go.RowKit
set_option maxRecDepth 100000
def atkT (X : List (List Int)) (c : Int) : List Int := (X.filter fun x => x.getD 1 0 == c).map fun x => x.getD 0 0
def vctT (X : List (List Int)) (c : Int) : List Int := (X.filter fun x => x.getD 0 0 == c).map fun x => x.getD 1 0
theorem atkT_yes {X : List (List Int)} {c : Int} {k : Nat} (hk : k < X.length) {p q : Int} (hx : X[k] = [p, q]) (h : q = c) : atkT (X.take (k + 1)) c = atkT (X.take k) c ++ [p] := by
  unfold atkT
  rw [List.take_succ_eq_append_getElem hk, List.filter_append, List.map_append, hx]
  simp [h]
theorem atkT_no {X : List (List Int)} {c : Int} {k : Nat} (hk : k < X.length) {p q : Int} (hx : X[k] = [p, q]) (h : ¬ q = c) : atkT (X.take (k + 1)) c = atkT (X.take k) c := by
  unfold atkT
  rw [List.take_succ_eq_append_getElem hk, List.filter_append, List.map_append, hx]
  simp [h]
theorem atkT_len (X : List (List Int)) (c : Int) : (atkT X c).length ≤ X.length := by
  unfold atkT
  rw [List.length_map]
  exact List.length_filter_le _ _
set_option maxHeartbeats 4000000 in
theorem specAttackersOf_any {w : World} {A : Option Addr} {n c : Nat} {N a : Int} {X : List (List Int)} (hl : Hid (X.length = n)) (hn : n ≤ 1099511627776) (hr : RdSS w w.heap.size A X) :
    Calls Try.prog 70 #[.agg #[.int .i64 N, .slice A n c], .int .i64 a] w (Fresh 3 (ivs (atk N X a)) w) := by
  obtain ⟨ti, hti, hz0, hz1, hz2⟩ := info_parts IntS_info
  have hb1 : Below w.heap.size w (w.alloc (Obj.cells #[Value.int IntKind.i64 N, Value.slice A n c] 27)) := (Below.refl _ _).alloc (Nat.le_refl _) _
  have bx0 := Bx.made w 27 #[Value.int IntKind.i64 N, Value.slice A n c]
  obtain ⟨Wa, hWa⟩ : ∃ u : World, u = w.alloc (Obj.cells #[Value.int IntKind.i64 N, Value.slice A n c] 27) := ⟨_, rfl⟩
  have hsa : Wa.heap.size = w.heap.size + 1 := by rw [hWa]; simp
  rw [← hWa] at hb1 bx0
  have hb2 : Below w.heap.size w (Wa.alloc (Obj.cells #[] 3)) := hb1.alloc hb1.size _
  have hrow0 := (Row.made (w := Wa) (w.heap.size + 1) #[] 0 3 (by omega) rfl (Nat.zero_le _)).wide (hi' := (Wa.alloc (Obj.cells #[] 3)).heap.size) (Nat.le_refl _) (by simp)
  have bx1 := bx0.new ((Below.refl Wa.heap.size Wa).alloc (Nat.le_refl _) (Obj.cells #[] 3))
  obtain ⟨W1, hW⟩ : ∃ u : World, u = Wa.alloc (Obj.cells #[] 3) := ⟨_, rfl⟩
  rw [← hW] at hb2 hrow0 bx1
  rw [hsa] at hrow0
  have hWf : (w.alloc (Obj.cells #[Value.int IntKind.i64 N, Value.slice A n c] 27)).alloc (Obj.cells #[] 3) = W1 := by rw [hW, hWa]
  have HR := Lib.hid ((hr.below hb2))
  clear hW hWa hr bx0 hb1
  by_cases hg : gB N X = true
  case neg =>
    have hg' : gB N X = false := by simpa using hg
    have HG := Lib.hid hg'
    have HD := Lib.hid (show atk N X a = [] by unfold atk; rw [hg']; rfl)
    clear hg hg'
    obtain ⟨C0, C1⟩ := bx1.two
    go_enter Try.func70, Try.ntmps70
    go_wp2_with fail
    try rw [hWf]
    clear hWf
    go_loopw [5, 6] (fun b i wr => i = .int .i64 0 ∧ wr = W1 ∧ Row W1 (w.heap.size + 1) W1.heap.size 3 b (ivs [])) (fun _ i _ => 0)
    case atStart => exact ⟨rfl, rfl, hrow0⟩
    case round =>
      obtain ⟨rfl, rfl, hrow⟩ := hrel
      by_cases h0 : n = 0
      · subst h0
        go_wp2_with fail
        go_ret
        exact ⟨_, rfl, by rw [HD.out]; exact hrow.wide (by omega) (Nat.le_refl _), hb2⟩
      · have i0 : (0 : Int) < (n : Int) := by omega
        go_wp2_with fail
        refine (specIsGraph_any (N := N) (X := X) (c := c) hl hn (HR.out.more hb2.size)).mono ?_
        rintro e w3 ⟨rfl, hb3⟩
        rw [HG.out]
        go_wp2_with fail
        go_ret
        exact ⟨_, rfl, by rw [HD.out]; exact (hrow.new hb3).wide (by omega) hb3.size, hb2.trans (hb3.mono hb2.size)⟩
  case pos =>
    obtain ⟨m, rfl, hm, hP, _⟩ := gB_ok hg
    have HG := Lib.hid hg
    have HD := Lib.hid (show atk m X a = atkT X a by unfold atk; rw [if_pos hg]; rfl)
    have HP := Lib.hid hP
    clear hg hP
    go_enter Try.func70, Try.ntmps70
    go_wp2_with fail
    try rw [hWf]
    clear hWf
    go_loopw [5, 6] (fun b i wr => ∃ k : Nat, k ≤ n ∧ i = .int .i64 k ∧ Row wr (w.heap.size + 1) wr.heap.size 3 b (ivs (atkT (X.take k) a)) ∧ Below w.heap.size w wr ∧ Bx wr w.heap.size 27 #[Value.int IntKind.i64 m, Value.slice A n c] ∧ RdSS wr w.heap.size A X) (fun _ i _ => n - (intOf i).toNat)
    case atStart => exact ⟨0, Nat.zero_le _, rfl, hrow0, hb2, bx1, HR.out⟩
    case round =>
      obtain ⟨k, hk, rfl, hrow, hbw, bxk, hrk⟩ := hrel
      obtain ⟨C0, C1⟩ := bxk.two
      have hsz := hbw.size
      by_cases hlt : k < n
      · have hkz : k < X.length := by rw [hl.out]; exact hlt
        go_wp2_with fail
        refine (specIsGraph_any (N := m) (X := X) (c := c) hl hn (hrk.more hsz)).mono ?_
        rintro e w3 ⟨rfl, hb3⟩
        rw [HG.out]
        have hb5 := hbw.trans (hb3.mono hbw.size)
        have bx3 := bxk.new hb3
        have hr3 := hrk.below (hb3.mono hsz)
        have hrow3 := (hrow.new hb3).wide (Nat.le_refl _) hb3.size
        have hs3 := hb5.size
        obtain ⟨D0, D1⟩ := bx3.two
        have hg3 := bx3.lt
        obtain ⟨ad, ag, ao, cj, p, q, rfl, _, hc, _, e0, e1, hx, _, _⟩ := pair_at hr3 HP.out hkz
        have i0 : (0 : Int) ≤ (k : Int) := by omega
        obtain ⟨ys, hys⟩ : ∃ ys, ys = atkT (X.take k) a := ⟨_, rfl⟩
        have hyl : ys.length ≤ k := by rw [hys]; exact Nat.le_trans (atkT_len _ _) (by simp; omega)
        clear hrow
        by_cases h1 : (q : Int) = a
        · have HT := Lib.hid (atkT_yes hkz hx h1)
          have h1' : ((q : Int) == a) = true := by simpa using h1
          rw [← hys] at hrow3 HT
          have hbl : Below w3.heap.size w3 (w3.alloc (Obj.cells #[Value.int .i64 p] 3)) := (Below.refl _ _).alloc (Nat.le_refl _) _
          have hrow2 := hrow3.new hbl
          have hmade := Rd.made w3 #[Value.int .i64 p] 3
          have L : (ivs ys).length + 1 ≤ maxLen ∧ ((ivs ys).length + 1) * 8 ≤ 140737488355328 := by rw [ivs_len]; unfold maxLen; omega
          have L1 := Lib.hid L
          clear L hys hx
          go_wp2_with (at_builtin; refine wpList_app rfl (.tmp 28) (.tmp 36) 31 rfl 3 ti _ 8 Try.underlying31 hti hz0 hz1 hz2 rfl rfl rfl hrow2 rfl hmade (by simp [Value.oneCell']) L1.out.1 L1.out.2 (by simp; omega) ?_; intro v1 w1 hrow1 ho1)
          go_roundw
          case rel => exact ⟨k + 1, by omega, by go_num, by rw [HT.out, ← ivs_snoc_l]; exact hrow1, hb5.trans ((hbl.mono hs3).trans (ho1.below (by omega) (by simp; omega))), (bx3.new hbl).out ho1 (by first | exact .inl (by omega) | exact .inr (by omega)), (hr3.below (hbl.mono hs3)).below (ho1.below (by omega) (by simp; omega))⟩
          case measure => simp [intOf]; omega
        · have HT := Lib.hid (atkT_no hkz hx h1)
          have h1' : ((q : Int) == a) = false := by simpa using h1
          rw [← hys] at hrow3 HT
          clear hys hx
          go_wp2_with fail
          go_roundw
          case rel => exact ⟨k + 1, by omega, by go_num, by rw [HT.out]; exact hrow3, hb5, bx3, hr3⟩
          case measure => simp [intOf]; omega
      · have e : k = n := by omega
        subst e
        rw [List.take_of_length_le (by rw [hl.out]; exact Nat.le_refl _)] at hrow
        go_wp2_with fail
        go_ret
        exact ⟨_, rfl, by rw [HD.out]; exact hrow.wide (by omega) (Nat.le_refl _), hbw⟩
theorem vctT_yes {X : List (List Int)} {c : Int} {k : Nat} (hk : k < X.length) {p q : Int} (hx : X[k] = [p, q]) (h : p = c) : vctT (X.take (k + 1)) c = vctT (X.take k) c ++ [q] := by
  unfold vctT
  rw [List.take_succ_eq_append_getElem hk, List.filter_append, List.map_append, hx]
  simp [h]
theorem vctT_no {X : List (List Int)} {c : Int} {k : Nat} (hk : k < X.length) {p q : Int} (hx : X[k] = [p, q]) (h : ¬ p = c) : vctT (X.take (k + 1)) c = vctT (X.take k) c := by
  unfold vctT
  rw [List.take_succ_eq_append_getElem hk, List.filter_append, List.map_append, hx]
  simp [h]
theorem vctT_len (X : List (List Int)) (c : Int) : (vctT X c).length ≤ X.length := by
  unfold vctT
  rw [List.length_map]
  exact List.length_filter_le _ _
end Go.Proofs.Ytobghogkflgpeaa
