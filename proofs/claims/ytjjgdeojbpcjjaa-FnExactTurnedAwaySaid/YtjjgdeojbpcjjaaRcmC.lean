/- Contract of the code's compareRooms. No conditions. -/
import Derived.Test.YtjjgdeojbpcjjaaCmp
import Derived.Test.YtjjgdeojbpcjjaaOrN
import Derived.Test.YtjjgdeojbpcjjaaRow2
import Derived.Test.YtjjgdeojbpcjjaaBits
import Derived.Laws.EntriesVeiled
import Derived.Test.YtjjgdeojbpcjjaaGraph
namespace Go.Proofs.Ytjjgdeojbpcjjaa
open Go.ChangeShapes Go.WideShapes Go.ChangeAt Go.RowKit
set_option maxRecDepth 100000
def rcmp (a b : T2) : Int := orI [orI [0, cmpI b.2 a.2], cmpI a.1 b.1]
theorem box3 (w : World) (A B C : Obj) : Below w.heap.size w (((w.alloc A).alloc B).alloc C) ∧ Below (w.alloc A).heap.size (w.alloc A) (((w.alloc A).alloc B).alloc C) ∧ Below ((w.alloc A).alloc B).heap.size ((w.alloc A).alloc B) (((w.alloc A).alloc B).alloc C) := by
  have s1 : (w.alloc A).heap.size = w.heap.size + 1 := World.size_alloc ..
  have s2 : ((w.alloc A).alloc B).heap.size = w.heap.size + 1 + 1 := (World.size_alloc ..).trans (by rw [s1])
  exact ⟨(((Below.refl w.heap.size w).alloc (Nat.le_refl _) A).alloc (by omega) B).alloc (by omega) C, ((Below.refl (w.alloc A).heap.size (w.alloc A)).alloc (Nat.le_refl _) B).alloc (by omega) C, (Below.refl ((w.alloc A).alloc B).heap.size ((w.alloc A).alloc B)).alloc (Nat.le_refl _) C⟩
theorem nwc4 {w w' : World} {p : Addr} {v : Value} (r : Below w.heap.size w w') (h : w.cell? p = some v) : w'.cell? p = some v := (r.cell (p := p) (cell_lt h)).trans h
theorem rule1_any {w : World} {a b : T2} : Calls Try.prog 134 #[.agg #[Value.int .i64 a.1, .int .i64 a.2], .agg #[Value.int .i64 b.1, .int .i64 b.2]] w (fun e w' => e = .returned (.int .i64 (cmpI b.2 a.2)) ∧ Below w.heap.size w w') := by
  have hb1 : Below w.heap.size w ((w.alloc (Obj.cells #[Value.int .i64 a.1, .int .i64 a.2] 131)).alloc (Obj.cells #[Value.int .i64 b.1, .int .i64 b.2] 131)) := ((Below.refl _ _).alloc (Nat.le_refl _) _).alloc (by rw [World.size_alloc]; omega) _
  go_enter Try.func134, Try.ntmps134
  go_wp2_with fail
  refine (cmp_n).mono ?_
  rintro e u9 ⟨rfl, rfl⟩
  go_wp2_with fail
  go_ret
  exact ⟨rfl, hb1⟩
theorem rule2_any {w : World} {a b : T2} : Calls Try.prog 135 #[.agg #[Value.int .i64 a.1, .int .i64 a.2], .agg #[Value.int .i64 b.1, .int .i64 b.2]] w (fun e w' => e = .returned (.int .i64 (cmpI a.1 b.1)) ∧ Below w.heap.size w w') := by
  have hb1 : Below w.heap.size w ((w.alloc (Obj.cells #[Value.int .i64 a.1, .int .i64 a.2] 131)).alloc (Obj.cells #[Value.int .i64 b.1, .int .i64 b.2] 131)) := ((Below.refl _ _).alloc (Nat.le_refl _) _).alloc (by rw [World.size_alloc]; omega) _
  go_enter Try.func135, Try.ntmps135
  go_wp2_with fail
  refine (cmp_n).mono ?_
  rintro e u9 ⟨rfl, rfl⟩
  go_wp2_with fail
  go_ret
  exact ⟨rfl, hb1⟩
set_option maxHeartbeats 4000000 in
theorem rcmp_any {w : World} {a b : T2} : Calls Try.prog 118 #[.agg #[Value.int .i64 a.1, .int .i64 a.2], .agg #[Value.int .i64 b.1, .int .i64 b.2]] w (fun e w' => e = .returned (.int .i64 (rcmp a b)) ∧ Below w.heap.size w w') := by
  have i0 : ∀ W : World, (Instr.index 149 (.agg #[.func (.func 134) #[] #[], .func (.func 135) #[] #[]]) (.int .i64 0)).run Try.prog W = .ok (.func (.func 134) #[] #[]) W := fun _ => by kernel_rfl
  have i1 : ∀ W : World, (Instr.index 149 (.agg #[.func (.func 134) #[] #[], .func (.func 135) #[] #[]]) (.int .i64 1)).run Try.prog W = .ok (.func (.func 135) #[] #[]) W := fun _ => by kernel_rfl
  have HBS := box3 w (Obj.cells #[Value.int .i64 a.1, .int .i64 a.2] 131) (Obj.cells #[Value.int .i64 b.1, .int .i64 b.2] 131) (Obj.cells #[(Value.func (Fn.func 134) #[] #[]), (Value.func (Fn.func 135) #[] #[])] 149)
  obtain ⟨W5, hW5⟩ : ∃ W5, (((w.alloc (Obj.cells #[Value.int .i64 a.1, .int .i64 a.2] 131)).alloc (Obj.cells #[Value.int .i64 b.1, .int .i64 b.2] 131)).alloc (Obj.cells #[Value.func (Fn.func 134) #[] #[], Value.func (Fn.func 135) #[] #[]] 149)) = W5 := ⟨_, rfl⟩
  rw [hW5] at HBS
  obtain ⟨hb0, hbA, hbB⟩ := HBS
  have ba := (Bx.made w 131 #[Value.int .i64 a.1, .int .i64 a.2]).new hbA
  have bb := (Bx.made (w.alloc (Obj.cells #[Value.int .i64 a.1, .int .i64 a.2] 131)) 131 #[Value.int .i64 b.1, .int .i64 b.2]).new hbB
  have bb : Bx W5 (w.heap.size + 1) 131 #[Value.int .i64 b.1, .int .i64 b.2] := by
    have h := bb
    simp only [World.size_alloc] at h
    exact h
  have a0 := ba.at_ (k := 0) (v := .int .i64 a.1) rfl
  have a1 := ba.at_ (k := 1) (v := .int .i64 a.2) rfl
  have b0 := bb.at_ (k := 0) (v := .int .i64 b.1) rfl
  have b1 := bb.at_ (k := 1) (v := .int .i64 b.2) rfl
  have HW := Lib.hid hW5
  clear hbA hbB ba bb hW5
  go_enter Try.func118, Try.ntmps118
  go_wp2_with fail
  rw [HW.out]
  try (go_wp2_with fail)
  go_loopw [6, 11] (fun o i wr => Below W5.heap.size W5 wr ∧ ((i = .int .i64 0 ∧ o = .int .i64 0) ∨ (i = .int .i64 1 ∧ o = .int .i64 (orI [0, cmpI b.2 a.2])) ∨ (i = .int .i64 2 ∧ o = .int .i64 (rcmp a b)))) (fun _ i _ => 2 - (intOf i).toNat)
  case atStart => exact ⟨Below.refl _ _, .inl ⟨rfl, rfl⟩⟩
  case round =>
    obtain ⟨hb, hrel⟩ := hrel
    have x0 := nwc4 hb a0
    have x1 := nwc4 hb a1
    have y0 := nwc4 hb b0
    have y1 := nwc4 hb b1
    rcases hrel with ⟨rfl, rfl⟩ | ⟨rfl, rfl⟩ | ⟨rfl, rfl⟩
    · have hbn := fun (u1 : World) (q : Below wr.heap.size wr u1) => hb.trans (((q.mono (Nat.le_refl _)).trans (((Below.refl u1.heap.size u1).alloc (Nat.le_refl _) (Obj.cells #[.int .i64 0, Value.int .i64 (cmpI b.2 a.2)] 3)).mono q.size)).mono hb.size)
      go_wp2_with fail
      refine (rule1_any).mono ?_
      rintro e u1 ⟨rfl, hb1⟩
      have hb2 := hbn u1 hb1
      clear hbn
      go_wp2_with fail
      refine (or_n (X := [0, cmpI b.2 a.2]) (Lib.hid rfl) (by simp) (by refine Rd.more (show Rd _ _ _ (ivs [0, cmpI b.2 a.2]) from Rd.made _ #[.int .i64 (0), .int .i64 (cmpI b.2 a.2)] _) ?_; simp)).mono ?_
      rintro e u2 ⟨rfl, rfl⟩
      go_wp2_with fail
      go_roundw
      case rel => exact ⟨hb2, .inr (.inl ⟨by go_num, rfl⟩)⟩
      case measure => simp [intOf]
    · obtain ⟨z, hz⟩ : ∃ z, orI [0, cmpI b.2 a.2] = z := ⟨_, rfl⟩
      rw [hz]
      have HZ := Lib.hid (show orI [z, cmpI a.1 b.1] = rcmp a b by unfold rcmp; rw [hz])
      clear hz
      have hbn := fun (u1 : World) (q : Below wr.heap.size wr u1) => hb.trans (((q.mono (Nat.le_refl _)).trans (((Below.refl u1.heap.size u1).alloc (Nat.le_refl _) (Obj.cells #[.int .i64 z, Value.int .i64 (cmpI a.1 b.1)] 3)).mono q.size)).mono hb.size)
      go_wp2_with fail
      refine (rule2_any).mono ?_
      rintro e u1 ⟨rfl, hb1⟩
      have hb2 := hbn u1 hb1
      clear hbn
      go_wp2_with fail
      refine (or_n (X := [z, cmpI a.1 b.1]) (Lib.hid rfl) (by simp) (by refine Rd.more (show Rd _ _ _ (ivs [z, cmpI a.1 b.1]) from Rd.made _ #[.int .i64 (z), .int .i64 (cmpI a.1 b.1)] _) ?_; simp)).mono ?_
      rintro e u2 ⟨rfl, rfl⟩
      go_wp2_with fail
      go_roundw
      case rel => exact ⟨hb2, .inr (.inr ⟨by go_num, by rw [HZ.out]⟩)⟩
      case measure => simp [intOf]
    · go_wp2_with fail
      go_ret
      exact ⟨rfl, hb0.trans (hb.mono hb0.size)⟩
end Go.Proofs.Ytjjgdeojbpcjjaa
