/- Contracts of the code's completePositions, heldIn and AllComplete. Condition: the slices have at most 2^40 elements. -/
import Derived.Test.YtejncjjkcmhmbaaVis
import Derived.Test.YtejncjjkcmhmbaaMg6
import Derived.Test.YtejncjjkcmhmbaaMg5
import Derived.Test.YtejncjjkcmhmbaaGrow
namespace Go.Proofs.Ytejncjjkcmhmbaa
open Go.ChangeShapes Go.WideShapes Go.ChangeAt Go.RowKit
set_option maxRecDepth 100000
/-- Positions are returned, to be read. -/
def FreshP (f : Nat → Nat) (hs : List Nat) (w : World) (e : Ending) (w' : World) : Prop :=
  ∃ A c, e = .returned (.slice A hs.length c) ∧ Rd w' w'.heap.size A (psF f hs) ∧ hs.length ≤ c ∧ (∀ ad, A = some ad → w.heap.size ≤ ad.block) ∧ Below w.heap.size w w'
/-- The bits of the complete sets, in their order. -/
def allB (N : Int) (X : List (List Int)) : List Nat := if gB N X then vsB N.toNat (rf N X) N.toNat 0 else []
theorem St.read {W w : World} {q Bf : Nat} {f : Nat → Nat} {v : Value} {hs : List Nat} (h : St W q Bf f w v hs) : ∃ A c, v = .slice A hs.length c ∧ Rd w w.heap.size A (psF f hs) ∧ hs.length ≤ c := by
  rcases h.row.2 with ⟨rfl, hn⟩ | ⟨g, cap, cur, rfl, _, hgg, hnc, _, _, _⟩
  · have : hs = [] := List.eq_nil_of_length_eq_zero hn
    subst this
    exact ⟨none, 0, rfl, Rd.nil, Nat.le_refl _⟩
  · refine ⟨some ⟨g, 0, none⟩, cap, rfl, fun j u hu => ⟨_, rfl, (Array.getElem?_eq_some_iff.1 hgg).1, ?_⟩, hnc⟩
    exact h.row.cells (g := g) rfl j u hu
theorem three_blocks (w : World) (c1 c2 c3 : Array Value) (t1 t2 t3 : TypeId) : ∃ W1 : World, ((w.alloc (Obj.cells c1 t1)).alloc (Obj.cells c2 t2)).alloc (Obj.cells c3 t3) = W1 ∧ Bx W1 w.heap.size t1 c1 ∧ Bx W1 (w.heap.size + 1) t2 c2 ∧ Bx W1 (w.heap.size + 1 + 1) t3 c3 ∧ Below w.heap.size w W1 ∧ W1.heap.size = w.heap.size + 3 := by
  have a1 := ((Bx.made w t1 c1).new (alloc_new _ (Obj.cells c2 t2))).new (alloc_new _ (Obj.cells c3 t3))
  have a2 := (Bx.made (w.alloc (Obj.cells c1 t1)) t2 c2).new (alloc_new _ (Obj.cells c3 t3))
  have a3 := Bx.made ((w.alloc (Obj.cells c1 t1)).alloc (Obj.cells c2 t2)) t3 c3
  exact ⟨_, rfl, a1, by simpa using a2, by simpa using a3, (((Below.refl _ _).alloc (Nat.le_refl _) _).alloc (by simp) _).alloc (by simp; omega) _, by simp⟩
theorem setCell_outV (w : World) (g k : Nat) (u : Value) : Out g (g + 1) w (w.setCell ⟨g, k, none⟩ u) :=
  ⟨rfl, rfl, rfl, by simp, fun j _ hj => Below.heap_setCell w ⟨g, k, none⟩ u j (by simp; omega)⟩
theorem new_rowsV (w : World) (n : Int) (f : Nat → Nat) : ∃ W4 W5 : World, w.alloc (Obj.cells (arC 0 fun _ => 0) 78) = W4 ∧ W4.setRow w.heap.size (arC n f) = W5 ∧ Bx W4 w.heap.size 78 (arC 0 fun _ => 0) ∧ Bx W5 w.heap.size 78 (arC n f) ∧ Below w.heap.size w W5 ∧ W5.heap.size = w.heap.size + 1 := by
  have bx4 := Bx.made w 78 (arC 0 fun _ => 0)
  have o5 := setRow_out (w.alloc (Obj.cells (arC 0 fun _ => 0) 78)) w.heap.size (arC n f) (Nat.le_refl _) (Nat.lt_succ_self _)
  exact ⟨_, _, rfl, rfl, bx4, bx4.setRow (arC n f), ((Below.refl _ _).alloc (Nat.le_refl _) _).trans (o5.below (Nat.le_refl _) (by simp)), by simp [World.setRow]⟩
set_option maxHeartbeats 4000000 in
theorem completePos_any {w : World} {A : Option Addr} {n c : Nat} {N : Int} {X : List (List Int)} (hl : Hid (X.length = n)) (hn : n ≤ 1099511627776) (hr : RdSS w w.heap.size A X) :
    Calls Try.prog 85 #[.agg #[.int .i64 N, .slice A n c]] w (FreshP (rf N X) (allB N X) w) := by
  have hmf : ∀ (fn : Fn) (first cap : Array Value) (w : World), (Instr.makeFunc fn first cap).run Try.prog w = .ok (.func fn first cap) w := fun _ _ _ _ => rfl
  have hsf : ∀ (a : Addr) (fn : Fn) (x y : Array Value) (w : World), (store a (.func fn x y)).run Try.prog w = stored Try.prog w a (.func fn x y) .plain := fun a fn x y w => run_store Try.prog w a _ .plain rfl
  obtain ⟨W3, hW3, b0, b1, b2, hb3, hs3⟩ := three_blocks w #[Value.int IntKind.i64 N, Value.slice A n c] #[] #[Value.slice (some ⟨w.heap.size + 1, 0, none⟩) 0 0] 27 98 95
  have HR := Lib.hid ((hr.below hb3).more hb3.size)
  obtain ⟨C0, C1⟩ := b0.two
  have D0 := b2.at_ (k := 0) (v := Value.slice (some ⟨w.heap.size + 1, 0, none⟩) 0 0) rfl
  clear hr
  go_enter Try.func85, Try.ntmps85
  go_wp2_with fail
  refine (impIsGraph_any (N := N) (X := X) (c := c) hl hn HR.out).mono ?_
  rintro e w4 ⟨rfl, hb4⟩
  have HR4 := Lib.hid ((HR.out.below hb4).more hb4.size)
  obtain ⟨E0, E1⟩ := (b0.new hb4).two
  have F0 := (b2.new hb4).at_ (k := 0) (v := Value.slice (some ⟨w.heap.size + 1, 0, none⟩) 0 0) rfl
  have b1' := b1.new hb4
  have b2' := b2.new hb4
  have hb40 := hb3.trans (hb4.mono hb3.size)
  have hs4 := hb4.size
  clear C0 C1 D0 hW3 b0 b1 b2 hb4
  by_cases hg : gB N X = true
  case neg =>
    have hg' : gB N X = false := by simpa using hg
    rw [hg']
    have HA := Lib.hid (show allB N X = [] by unfold allB; rw [if_neg hg])
    clear hg hg'
    go_wp2_with fail
    go_ret
    exact ⟨_, _, by rw [HA.out]; rfl, by rw [HA.out]; exact Rd.nil, by rw [HA.out]; exact Nat.le_refl _, fun ad e => by injection e with e; rw [← e]; simp, hb40⟩
  case pos =>
    obtain ⟨p, rfl, hp, _, _⟩ := gB_ok hg
    have HA := Lib.hid (show allB (p : Int) X = vsB p (rf p X) p 0 by unfold allB; rw [if_pos hg]; simp)
    have HRN := Lib.hid (rn_eq hg)
    have hfl := Lib.hid (rf_lt (p : Int) X)
    rw [hg]
    clear hg
    go_wp2_with fail
    refine (rowsOf_any hl hn HR4.out).mono ?_
    rintro e w5 ⟨rfl, hb5⟩
    rw [HRN.out]
    generalize rf (p : Int) X = f at *
    have b15 := b1'.new hb5
    have b25 := b2'.new hb5
    have hb50 := hb40.trans (hb5.mono hb40.size)
    have hs5 := hb5.size
    obtain ⟨W6, W7, hW6, hW7, bx6, bx7, hb7, hs7⟩ := new_rowsV w5 p f
    have hW6' := hW6
    rw [← arC_zero] at hW6'
    clear hW6 E0 E1 F0 b1' b2' hb5
    have bm := Bx.made W7 129 #[Value.nilFunc]
    rw [hs7] at bm
    have cm := bm.at_ (k := 0) (v := Value.nilFunc) rfl
    have fm := bm.free 0
    have bs := bm.set 0 (.func (.func 124) #[] #[.pointer (some ⟨w5.heap.size, 0, none⟩), .pointer (some ⟨w.heap.size + 1 + 1, 0, none⟩), .pointer (some ⟨w5.heap.size + 1, 0, none⟩)])
    have o8 := setCell_outV (W7.alloc (Obj.cells #[Value.nilFunc] 129)) (w5.heap.size + 1) 0 (.func (.func 124) #[] #[.pointer (some ⟨w5.heap.size, 0, none⟩), .pointer (some ⟨w.heap.size + 1 + 1, 0, none⟩), .pointer (some ⟨w5.heap.size + 1, 0, none⟩)])
    have hm8 := alloc_new W7 (Obj.cells #[Value.nilFunc] 129)
    have hsz8 : (W7.alloc (Obj.cells #[Value.nilFunc] 129)).heap.size = w5.heap.size + 2 := by simp [hs7]
    have b18 := ((b15.new hb7).new hm8).out o8 (.inl (by omega))
    have b28 := ((b25.new hb7).new hm8).out o8 (.inl (by omega))
    have bx8 := (bx7.new hm8).out o8 (.inl (by omega))
    have hb8 := (hb50.trans (hb7.mono hb50.size)).trans ((hm8.mono (by omega)).trans (o8.below (by omega) (by omega)))
    obtain ⟨W9, hW9⟩ : ∃ u, u = (W7.alloc (Obj.cells #[Value.nilFunc] 129)).setCell ⟨w5.heap.size + 1, 0, none⟩ (.func (.func 124) #[] #[.pointer (some ⟨w5.heap.size, 0, none⟩), .pointer (some ⟨w.heap.size + 1 + 1, 0, none⟩), .pointer (some ⟨w5.heap.size + 1, 0, none⟩)]) := ⟨_, rfl⟩
    have hs9 : W9.heap.size = w5.heap.size + 2 := by rw [hW9]; simp [hs7]
    rw [← hW9] at b18 b28 bx8 hb8
    have bs9 : Bx W9 (w5.heap.size + 1) 129 #[.func (.func 124) #[] #[.pointer (some ⟨w5.heap.size, 0, none⟩), .pointer (some ⟨w.heap.size + 1 + 1, 0, none⟩), .pointer (some ⟨w5.heap.size + 1, 0, none⟩)]] := by rw [hW9]; exact bs
    have fv9 := bs9.at_ (k := 0) rfl
    have hW9' := hW9.symm
    clear hW9 bs bm o8 hm8 b15 b25
    go_wp2_with (first | (refine stAR (n := p) (f := f) rfl (.tmp 4) (.tmp 12) rfl bx6 rfl rfl rfl ?_; rw [hW7]))
    have st0 : St W9 (w.heap.size + 1) (w.heap.size + 1 + 1) f W9 (.slice (some ⟨w.heap.size + 1, 0, none⟩) 0 0) [] :=
      ⟨⟨rfl, .inr ⟨_, 0, #[], rfl, Nat.zero_le _, b18, Nat.le_refl _, Nat.zero_le _, rfl, rfl⟩⟩, fun g hg => by simp [Value.ownBlock] at hg; exact .inl hg.symm, b28, rfl, rfl, rfl, Nat.le_refl _, fun _ _ _ _ => rfl⟩
    have hs40 := hb40.size
    refine (visit_any (n := p) hp hfl.out (by omega) (by omega) bx8 bs9 (by omega) (by omega) (by omega) (by omega) p 0 0 W9 _ [] (by omega) (by decide) st0 (by
      have h1 := vsB_len p f p 0
      have h2 : 2 ^ p ≤ 2 ^ 10 := Nat.pow_le_pow_right (by decide) hp
      simp; omega)).mono ?_
    rintro e w10 ⟨rfl, v', st, hs10⟩
    rw [List.nil_append] at st
    obtain ⟨A', c', rfl, hrd, hlc⟩ := st.read
    have cB := st.cell.at_ (k := 0) rfl
    have hb10 : Below w.heap.size w w10 := hb8.trans ⟨st.os, st.tape, st.output, st.size, fun k hk => st.block k (by omega) (by omega) (by omega)⟩
    have HRD := Lib.hid hrd
    have HLC := Lib.hid hlc
    have HLO := Lib.hid (show ∀ ad, A' = some ad → w.heap.size ≤ ad.block from fun ad e => by
      have := st.own ad.block (by rw [e]; rfl)
      omega)
    clear hrd hlc st st0 bs9 bx8 b18 b28
    go_wp2_with fail
    go_ret
    have HA2 := HA.out
    exact ⟨A', c', by rw [HA2]; rfl, by rw [HA2]; exact HRD.out, by rw [HA2]; exact HLC.out, HLO.out, hb10⟩
end Go.Proofs.Ytejncjjkcmhmbaa
