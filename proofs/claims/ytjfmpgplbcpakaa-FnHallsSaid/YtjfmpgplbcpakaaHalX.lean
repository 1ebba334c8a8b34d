/- Contracts of HallWinner of the code: its table and it. Condition: the slice has at most 2^40 elements. -/
import Derived.Test.YtjfmpgplbcpakaaHalW
namespace Go.Proofs.Ytjfmpgplbcpakaa
open Go.ChangeShapes Go.WideShapes Go.ChangeAt Go.RowKit
set_option maxRecDepth 100000
theorem hmorI (a b : Int) : morI a b = (if b < a then 1 else if a < b then 2 else 0) := rfl
set_option maxHeartbeats 4000000 in
theorem hafter_any {w : World} {f : Nat → Int} {s : Nat} (hs : s < 3) (hf : ∀ j, j < 9 → 0 ≤ f j ∧ f j ≤ 100) :
    Calls Try.prog 18 #[.agg (h9 f), .int .i64 s] w (fun e w' => e = .returned (.int .i64 (f s + f (3 + s) + f (6 + s))) ∧ Below w.heap.size w w') := by
  have r0 := hf s (by omega)
  have r1 := hf (3 + s) (by omega)
  have r2 := hf (6 + s) (by omega)
  obtain ⟨W1, hW⟩ : ∃ W1, w.alloc (Obj.cells (h9 f) 32) = W1 := ⟨_, rfl⟩
  have bx := Bx.made w 32 (h9 f)
  have hb1 : Below w.heap.size w (w.alloc (Obj.cells (h9 f) 32)) := (Below.refl _ _).alloc (Nat.le_refl _) _
  rw [hW] at bx hb1
  have HW := Lib.hid hW
  have q0 := bx.at_ (k := 0) (v := .int .i64 (f 0)) rfl
  have q1 := bx.at_ (k := 1) (v := .int .i64 (f 1)) rfl
  have q2 := bx.at_ (k := 2) (v := .int .i64 (f 2)) rfl
  have q3 := bx.at_ (k := 3) (v := .int .i64 (f 3)) rfl
  have q4 := bx.at_ (k := 4) (v := .int .i64 (f 4)) rfl
  have q5 := bx.at_ (k := 5) (v := .int .i64 (f 5)) rfl
  have q6 := bx.at_ (k := 6) (v := .int .i64 (f 6)) rfl
  have q7 := bx.at_ (k := 7) (v := .int .i64 (f 7)) rfl
  have q8 := bx.at_ (k := 8) (v := .int .i64 (f 8)) rfl
  have s0 : (0 : Int) ≤ (s : Int) := by omega
  have s3 : (s : Int) < 3 := by omega
  have w1 : IntKind.i64.wrap (0 + f s) = f s := by rw [IntWalk.i64_in _ (by omega)]; omega
  have w2 : IntKind.i64.wrap (f s + f (3 + s)) = f s + f (3 + s) := IntWalk.i64_in _ (by omega)
  have w3 : IntKind.i64.wrap (f s + f (3 + s) + f (6 + s)) = f s + f (3 + s) + f (6 + s) := IntWalk.i64_in _ (by omega)
  have three : ∀ (W : World) (a b c : Int) (k : Nat), (a = f k ∧ b = f (k + 1) ∧ c = f (k + 2)) → (W.alloc (Obj.cells #[.int .i64 a, .int .i64 b, .int .i64 c] 30)).cell? ⟨W.heap.size, s, none⟩ = some (.int .i64 (f (k + s))) := by
    intro W a b c k h
    obtain ⟨rfl, rfl, rfl⟩ := h
    rw [cell_of_row _ _ _ _ _ _ (Bx.made W _ _)]
    have : s = 0 ∨ s = 1 ∨ s = 2 := by omega
    rcases this with rfl | rfl | rfl <;> rfl
  have i0 : ∀ W : World, (Instr.index 32 (.agg #[.int .i64 (f 0), .int .i64 (f 1), .int .i64 (f 2), .int .i64 (f 3), .int .i64 (f 4), .int .i64 (f 5), .int .i64 (f 6), .int .i64 (f 7), .int .i64 (f 8)]) (.int .i64 0)).run Try.prog W = .ok (.agg #[.int .i64 (f 0), .int .i64 (f 1), .int .i64 (f 2)]) W := fun _ => by kernel_rfl
  have i1 : ∀ W : World, (Instr.index 32 (.agg #[.int .i64 (f 0), .int .i64 (f 1), .int .i64 (f 2), .int .i64 (f 3), .int .i64 (f 4), .int .i64 (f 5), .int .i64 (f 6), .int .i64 (f 7), .int .i64 (f 8)]) (.int .i64 1)).run Try.prog W = .ok (.agg #[.int .i64 (f 3), .int .i64 (f 4), .int .i64 (f 5)]) W := fun _ => by kernel_rfl
  have i2 : ∀ W : World, (Instr.index 32 (.agg #[.int .i64 (f 0), .int .i64 (f 1), .int .i64 (f 2), .int .i64 (f 3), .int .i64 (f 4), .int .i64 (f 5), .int .i64 (f 6), .int .i64 (f 7), .int .i64 (f 8)]) (.int .i64 2)).run Try.prog W = .ok (.agg #[.int .i64 (f 6), .int .i64 (f 7), .int .i64 (f 8)]) W := fun _ => by kernel_rfl
  have T := Lib.hid three
  clear hW three bx
  go_enter Try.func18, Try.ntmps18
  go_wp2_with fail
  rw [HW.out]
  try (go_wp2_with fail)
  go_loopw [5, 9] (fun m i wr => (i = .int .i64 0 ∧ m = .int .i64 0 ∧ Below W1.heap.size W1 wr) ∨ (i = .int .i64 1 ∧ m = .int .i64 (f s) ∧ Below W1.heap.size W1 wr) ∨ (i = .int .i64 2 ∧ m = .int .i64 (f s + f (3 + s)) ∧ Below W1.heap.size W1 wr) ∨ (i = .int .i64 3 ∧ m = .int .i64 (f s + f (3 + s) + f (6 + s)) ∧ Below W1.heap.size W1 wr)) (fun _ i _ => 3 - (intOf i).toNat)
  case atStart => exact .inl ⟨rfl, rfl, Below.refl _ _⟩
  case round =>
    rcases hrel with ⟨rfl, rfl, hb⟩ | ⟨rfl, rfl, hb⟩ | ⟨rfl, rfl, hb⟩ | ⟨rfl, rfl, hb⟩
    · have hc := T.out wr (f 0) (f 1) (f 2) 0 ⟨rfl, rfl, rfl⟩
      rw [Nat.zero_add] at hc
      have hbn := hb.trans (((Below.refl wr.heap.size wr).alloc (Nat.le_refl _) (Obj.cells #[Value.int .i64 (f 0), .int .i64 (f 1), .int .i64 (f 2)] 30)).mono hb.size)
      go_wp2_with fail
      go_roundw
      case rel => exact .inr (.inl ⟨rfl, by first | rfl | go_num, hbn⟩)
      case measure => simp [intOf]
    · have hc := T.out wr (f 3) (f 4) (f 5) 3 ⟨rfl, rfl, rfl⟩
      have hbn := hb.trans (((Below.refl wr.heap.size wr).alloc (Nat.le_refl _) (Obj.cells #[Value.int .i64 (f 3), .int .i64 (f 4), .int .i64 (f 5)] 30)).mono hb.size)
      go_wp2_with fail
      go_roundw
      case rel => exact .inr (.inr (.inl ⟨rfl, by first | rfl | go_num, hbn⟩))
      case measure => simp [intOf]
    · have hc := T.out wr (f 6) (f 7) (f 8) 6 ⟨rfl, rfl, rfl⟩
      have hbn := hb.trans (((Below.refl wr.heap.size wr).alloc (Nat.le_refl _) (Obj.cells #[Value.int .i64 (f 6), .int .i64 (f 7), .int .i64 (f 8)] 30)).mono hb.size)
      go_wp2_with fail
      go_roundw
      case rel => exact .inr (.inr (.inr ⟨rfl, by first | rfl | go_num, hbn⟩))
      case measure => simp [intOf]
    · go_wp2_with fail
      go_ret
      exact ⟨rfl, hb1.trans (hb.mono hb1.size)⟩
set_option maxHeartbeats 4000000 in
theorem hgain_any {w : World} {f : Nat → Int} {s : Nat} (hs : s < 3) (hf : ∀ j, j < 9 → 0 ≤ f j ∧ f j ≤ 100) :
    Calls Try.prog 17 #[.agg (h9 f), .int .i64 s] w (fun e w' => e = .returned (.int .i64 (f s + f (3 + s) + f (6 + s) - f (s * 3) - f (s * 3 + 1) - f (s * 3 + 2))) ∧ Below w.heap.size w w') := by
  have r0 := hf s (by omega)
  have r1 := hf (3 + s) (by omega)
  have r2 := hf (6 + s) (by omega)
  have t0 := hf (s * 3) (by omega)
  have t1 := hf (s * 3 + 1) (by omega)
  have t2 := hf (s * 3 + 2) (by omega)
  obtain ⟨W1, hW⟩ : ∃ W1, w.alloc (Obj.cells (h9 f) 32) = W1 := ⟨_, rfl⟩
  have bx := Bx.made w 32 (h9 f)
  have hb1 : Below w.heap.size w (w.alloc (Obj.cells (h9 f) 32)) := (Below.refl _ _).alloc (Nat.le_refl _) _
  rw [hW] at bx hb1
  have HW := Lib.hid hW
  have HBX := Lib.hid bx
  have q0 := bx.at_ (k := 0) (v := .int .i64 (f 0)) rfl
  have q1 := bx.at_ (k := 1) (v := .int .i64 (f 1)) rfl
  have q2 := bx.at_ (k := 2) (v := .int .i64 (f 2)) rfl
  have q3 := bx.at_ (k := 3) (v := .int .i64 (f 3)) rfl
  have q4 := bx.at_ (k := 4) (v := .int .i64 (f 4)) rfl
  have q5 := bx.at_ (k := 5) (v := .int .i64 (f 5)) rfl
  have q6 := bx.at_ (k := 6) (v := .int .i64 (f 6)) rfl
  have q7 := bx.at_ (k := 7) (v := .int .i64 (f 7)) rfl
  have q8 := bx.at_ (k := 8) (v := .int .i64 (f 8)) rfl
  obtain ⟨Z, hZ⟩ : ∃ Z, f s + f (3 + s) + f (6 + s) = Z := ⟨_, rfl⟩
  have HZ := Lib.hid hZ
  have hZb : 0 ≤ Z ∧ Z ≤ 300 := by omega
  have HF := Lib.hid hf
  obtain ⟨x0, hx0⟩ : ∃ x, f (s * 3) = x := ⟨_, rfl⟩
  obtain ⟨x1, hx1⟩ : ∃ x, f (s * 3 + 1) = x := ⟨_, rfl⟩
  obtain ⟨x2, hx2⟩ : ∃ x, f (s * 3 + 2) = x := ⟨_, rfl⟩
  rw [hx0] at t0
  rw [hx1] at t1
  rw [hx2] at t2
  have HX := Lib.hid (And.intro hx0 (And.intro hx1 hx2))
  have s0 : (0 : Int) ≤ (s : Int) := by omega
  have s3 : (s : Int) < 3 := by omega
  have w1 : IntKind.i64.wrap (Z - x0) = Z - x0 := IntWalk.i64_in _ (by omega)
  have w2 : IntKind.i64.wrap (Z - x0 - x1) = Z - x0 - x1 := IntWalk.i64_in _ (by omega)
  have w3 : IntKind.i64.wrap (Z - x0 - x1 - x2) = Z - x0 - x1 - x2 := IntWalk.i64_in _ (by omega)
  have i0 : ∀ W : World, (Instr.index 30 (.agg #[.int .i64 x0, .int .i64 x1, .int .i64 x2]) (.int .i64 0)).run Try.prog W = .ok (.int .i64 x0) W := fun _ => by kernel_rfl
  have i1 : ∀ W : World, (Instr.index 30 (.agg #[.int .i64 x0, .int .i64 x1, .int .i64 x2]) (.int .i64 1)).run Try.prog W = .ok (.int .i64 x1) W := fun _ => by kernel_rfl
  have i2 : ∀ W : World, (Instr.index 30 (.agg #[.int .i64 x0, .int .i64 x1, .int .i64 x2]) (.int .i64 2)).run Try.prog W = .ok (.int .i64 x2) W := fun _ => by kernel_rfl
  clear hW hZ r0 r1 r2 hx0 hx1 hx2 hf
  go_enter Try.func17, Try.ntmps17
  go_wp2_with fail
  rw [HW.out]
  try (go_wp2_with fail)
  refine (hafter_any hs HF.out).mono ?_
  rintro e w2 ⟨rfl, hb2⟩
  rw [HZ.out]
  have hb3 := hb1.trans (hb2.mono hb1.size)
  have bx2 := HBX.out.new hb2
  have c0 : w2.cell? ⟨w.heap.size, s * 3, none⟩ = some (.int .i64 x0) := by rw [cell_of_row _ _ _ _ _ _ bx2, h9_get f (by omega), HX.out.1]
  have c1 : w2.cell? ⟨w.heap.size, s * 3 + 1, none⟩ = some (.int .i64 x1) := by rw [cell_of_row _ _ _ _ _ _ bx2, h9_get f (by omega), HX.out.2.1]
  have c2 : w2.cell? ⟨w.heap.size, s * 3 + 2, none⟩ = some (.int .i64 x2) := by rw [cell_of_row _ _ _ _ _ _ bx2, h9_get f (by omega), HX.out.2.2]
  clear bx bx2
  go_wp2_with fail
  go_loopw [5, 14] (fun m i wr => (i = .int .i64 0 ∧ m = .int .i64 Z ∧ wr = w2) ∨ (i = .int .i64 1 ∧ m = .int .i64 (Z - x0) ∧ wr = w2) ∨ (i = .int .i64 2 ∧ m = .int .i64 (Z - x0 - x1) ∧ wr = w2) ∨ (i = .int .i64 3 ∧ m = .int .i64 (Z - x0 - x1 - x2) ∧ wr = w2)) (fun _ i _ => 3 - (intOf i).toNat)
  case atStart => exact .inl ⟨rfl, rfl, rfl⟩
  case round =>
    rcases hrel with ⟨rfl, rfl, rfl⟩ | ⟨rfl, rfl, rfl⟩ | ⟨rfl, rfl, rfl⟩ | ⟨rfl, rfl, rfl⟩
    · go_wp2_with fail
      go_roundw
      case rel => exact .inr (.inl ⟨rfl, by first | rfl | go_num, by first | rfl | trivial⟩)
      case measure => simp [intOf]
    · go_wp2_with fail
      go_roundw
      case rel => exact .inr (.inr (.inl ⟨rfl, by first | rfl | go_num, by first | rfl | trivial⟩))
      case measure => simp [intOf]
    · go_wp2_with fail
      go_roundw
      case rel => exact .inr (.inr (.inr ⟨rfl, by first | rfl | go_num, by first | rfl | trivial⟩))
      case measure => simp [intOf]
    · go_wp2_with fail
      go_ret
      exact ⟨ret_i (by rw [HX.out.1, HX.out.2.1, HX.out.2.2, HZ.out]), hb3⟩
theorem moreN_any {w : World} {p q : Int} : Calls Try.prog 15 #[.agg #[.int .i64 p, .int .i64 q]] w (fun e w' => e = .returned (.int .i64 (morI p q)) ∧ Below w.heap.size w w') := by
  have hb1 := alloc_h w (Obj.cells #[Value.int .i64 p, .int .i64 q] 36)
  by_cases h1 : q < p
  · have HV := Lib.hid (show morI p q = 1 from if_pos h1)
    go_enter Try.func15, Try.ntmps15
    go_wp2_with fail
    go_ret
    exact ⟨ret_i HV.out.symm, hb1⟩
  · by_cases h2 : p < q
    · have HV := Lib.hid (show morI p q = 2 by unfold morI; rw [if_neg h1, if_pos h2])
      go_enter Try.func15, Try.ntmps15
      go_wp2_with fail
      go_ret
      exact ⟨ret_i HV.out.symm, hb1⟩
    · have HV := Lib.hid (show morI p q = 0 by unfold morI; rw [if_neg h1, if_neg h2])
      go_enter Try.func15, Try.ntmps15
      go_wp2_with fail
      go_ret
      exact ⟨ret_i HV.out.symm, hb1⟩
set_option maxHeartbeats 2000000 in
theorem sideG_any {w : World} {f : Nat → Int} {a b : Int} (hf : ∀ j, j < 9 → 0 ≤ f j ∧ f j ≤ 100) (ha : f 1 + f (3 + 1) + f (6 + 1) - f (1 * 3) - f (1 * 3 + 1) - f (1 * 3 + 2) = a) (hb : f 2 + f (3 + 2) + f (6 + 2) - f (2 * 3) - f (2 * 3 + 1) - f (2 * 3 + 2) = b) :
    Calls Try.prog 14 #[.func (.func 17) #[.agg (h9 f)] #[]] w (fun e w' => e = .returned (.int .i64 (morI a b)) ∧ Below w.heap.size w w') := by
  have HA := Lib.hid ha
  have HB := Lib.hid hb
  have HF := Lib.hid hf
  clear ha hb hf
  go_enter Try.func14, Try.ntmps14
  go_wp2_with fail
  refine (hgain_any (s := 1) (by omega) HF.out).mono ?_
  rintro e w2 ⟨rfl, hb2⟩
  rw [HA.out]
  go_wp2_with fail
  refine (hgain_any (s := 2) (by omega) HF.out).mono ?_
  rintro e w3 ⟨rfl, hb3⟩
  rw [HB.out]
  have hb4 := hb2.trans (hb3.mono hb2.size)
  go_wp2_with fail
  refine (moreN_any).mono ?_
  rintro e w4 ⟨rfl, hb5⟩
  go_wp2_with fail
  go_ret
  exact ⟨rfl, hb4.trans (hb5.mono hb4.size)⟩
set_option maxHeartbeats 2000000 in
theorem sideA_any {w : World} {f : Nat → Int} {a b : Int} (hf : ∀ j, j < 9 → 0 ≤ f j ∧ f j ≤ 100) (ha : f 1 + f (3 + 1) + f (6 + 1) = a) (hb : f 2 + f (3 + 2) + f (6 + 2) = b) :
    Calls Try.prog 14 #[.func (.func 18) #[.agg (h9 f)] #[]] w (fun e w' => e = .returned (.int .i64 (morI a b)) ∧ Below w.heap.size w w') := by
  have HA := Lib.hid ha
  have HB := Lib.hid hb
  have HF := Lib.hid hf
  clear ha hb hf
  go_enter Try.func14, Try.ntmps14
  go_wp2_with fail
  refine (hafter_any (s := 1) (by omega) HF.out).mono ?_
  rintro e w2 ⟨rfl, hb2⟩
  rw [HA.out]
  go_wp2_with fail
  refine (hafter_any (s := 2) (by omega) HF.out).mono ?_
  rintro e w3 ⟨rfl, hb3⟩
  rw [HB.out]
  have hb4 := hb2.trans (hb3.mono hb2.size)
  go_wp2_with fail
  refine (moreN_any).mono ?_
  rintro e w4 ⟨rfl, hb5⟩
  go_wp2_with fail
  go_ret
  exact ⟨rfl, hb4.trans (hb5.mono hb4.size)⟩
set_option maxHeartbeats 8000000 in
theorem impHallWinner_any {w : World} {A : Option Addr} {n c : Nat} {X : List T2} (hl : Hid (X.length = n)) (hn : n ≤ 1099511627776) (hr : Rd w w.heap.size A (t2s X)) :
    Calls Try.prog 6 #[.slice A n c] w (fun e w' => e = .returned (.int .i64 (halN X)) ∧ Below w.heap.size w w') := by
  cases hB : hrB X with
  | false =>
    have HV := Lib.hid (show halN X = 0 by unfold halN; rw [hB]; rfl)
    have HB := Lib.hid hB
    clear hB
    go_enter Try.func6, Try.ntmps6
    go_wp2_with fail
    refine (impAreHearers_any hl hn hr).mono ?_
    rintro e w1 ⟨rfl, hb1⟩
    rw [HB.out]
    go_wp2_with fail
    go_ret
    exact ⟨ret_i HV.out.symm, hb1⟩
  | true =>
    have hB2 := hB
    unfold hrB at hB2
    rw [Bool.and_eq_true] at hB2
    have hn100 : n ≤ 100 := by rw [← hl.out]; exact of_decide_eq_true hB2.2
    have HOK := Lib.hid hB2.1
    have HVV := Lib.hid (show halN X = orI [morI (gaiI X 1) (gaiI X 2), morI (aftN X 1) (aftN X 2)] by
      unfold halN
      rw [if_pos hB, orI_cons]
      split
      · rw [orI_cons]
        split
        · rename_i h; rw [h]; rfl
        · rfl
      · rfl)
    have HB := Lib.hid hB
    clear hB hB2
    go_enter Try.func6, Try.ntmps6
    go_wp2_with fail
    refine (impAreHearers_any hl hn hr).mono ?_
    rintro e w1 ⟨rfl, hb1⟩
    rw [HB.out]
    go_wp2_with fail
    refine (hallTableOf_any hl hn100 HOK ((hr.below hb1).more hb1.size)).mono ?_
    rintro e w2 ⟨f, rfl, hf, hb2⟩
    have hb12 := hb1.trans (hb2.mono hb1.size)
    have hfr : ∀ j, j < 9 → 0 ≤ f j ∧ f j ≤ 100 := fun j hj => by
      rw [hf j hj]
      unfold tabF
      have := List.countP_le_length (p := mvF ((j / 3 : Nat) : Int) ((j % 3 : Nat) : Int)) (l := X)
      have := hl.out
      omega
    have e1 := after_sum HOK.out 1 (by omega)
    have e2 := after_sum HOK.out 2 (by omega)
    have g1 := before_sum HOK.out 1 (by omega)
    have g2 := before_sum HOK.out 2 (by omega)
    obtain ⟨G1, hG1⟩ : ∃ z, gaiI X 1 = z := ⟨_, rfl⟩
    obtain ⟨G2, hG2⟩ : ∃ z, gaiI X 2 = z := ⟨_, rfl⟩
    obtain ⟨A1, hA1⟩ : ∃ z, (aftN X 1 : Int) = z := ⟨_, rfl⟩
    obtain ⟨A2, hA2⟩ : ∃ z, (aftN X 2 : Int) = z := ⟨_, rfl⟩
    have HA := Lib.hid (show (f 1 + f (3 + 1) + f (6 + 1) = A1) ∧ (f 2 + f (3 + 2) + f (6 + 2) = A2) from ⟨by rw [hf 1 (by omega), hf (3 + 1) (by omega), hf (6 + 1) (by omega), ← hA1]; exact e1.symm, by rw [hf 2 (by omega), hf (3 + 2) (by omega), hf (6 + 2) (by omega), ← hA2]; exact e2.symm⟩)
    have HG := Lib.hid (show (f 1 + f (3 + 1) + f (6 + 1) - f (1 * 3) - f (1 * 3 + 1) - f (1 * 3 + 2) = G1) ∧ (f 2 + f (3 + 2) + f (6 + 2) - f (2 * 3) - f (2 * 3 + 1) - f (2 * 3 + 2) = G2) from
      ⟨by rw [HA.out.1, hf (1 * 3) (by omega), hf (1 * 3 + 1) (by omega), hf (1 * 3 + 2) (by omega), ← hG1, ← hA1]; unfold gaiI; have g1' : ((befN X 1 : Nat) : Int) = _ := g1; omega, by rw [HA.out.2, hf (2 * 3) (by omega), hf (2 * 3 + 1) (by omega), hf (2 * 3 + 2) (by omega), ← hG2, ← hA2]; unfold gaiI; have g2' : ((befN X 2 : Nat) : Int) = _ := g2; omega⟩)
    rw [hG1, hG2, hA1, hA2] at HVV
    have HFR := Lib.hid hfr
    obtain ⟨W3, hW3⟩ : ∃ W3, w2.alloc (Obj.cells (h9 f) 32) = W3 := ⟨_, rfl⟩
    have bx := Bx.made w2 32 (h9 f)
    have hb3 : Below w2.heap.size w2 (w2.alloc (Obj.cells (h9 f) 32)) := (Below.refl _ _).alloc (Nat.le_refl _) _
    rw [hW3] at bx hb3
    have HW3 := Lib.hid hW3
    have q0 := bx.at_ (k := 0) (v := .int .i64 (f 0)) rfl
    have q1 := bx.at_ (k := 1) (v := .int .i64 (f 1)) rfl
    have q2 := bx.at_ (k := 2) (v := .int .i64 (f 2)) rfl
    have q3 := bx.at_ (k := 3) (v := .int .i64 (f 3)) rfl
    have q4 := bx.at_ (k := 4) (v := .int .i64 (f 4)) rfl
    have q5 := bx.at_ (k := 5) (v := .int .i64 (f 5)) rfl
    have q6 := bx.at_ (k := 6) (v := .int .i64 (f 6)) rfl
    have q7 := bx.at_ (k := 7) (v := .int .i64 (f 7)) rfl
    have q8 := bx.at_ (k := 8) (v := .int .i64 (f 8)) rfl
    have KE := fun (u : World) (q : Below W3.heap.size W3 u) => show Below W3.heap.size W3 u ∧ u.cell? ⟨w2.heap.size, 0, none⟩ = some (.int .i64 (f 0)) ∧ u.cell? ⟨w2.heap.size, 1, none⟩ = some (.int .i64 (f 1)) ∧ u.cell? ⟨w2.heap.size, 2, none⟩ = some (.int .i64 (f 2)) ∧ u.cell? ⟨w2.heap.size, 3, none⟩ = some (.int .i64 (f 3)) ∧ u.cell? ⟨w2.heap.size, 4, none⟩ = some (.int .i64 (f 4)) ∧ u.cell? ⟨w2.heap.size, 5, none⟩ = some (.int .i64 (f 5)) ∧ u.cell? ⟨w2.heap.size, 6, none⟩ = some (.int .i64 (f 6)) ∧ u.cell? ⟨w2.heap.size, 7, none⟩ = some (.int .i64 (f 7)) ∧ u.cell? ⟨w2.heap.size, 8, none⟩ = some (.int .i64 (f 8)) from ⟨q, nw_cell q q0, nw_cell q q1, nw_cell q q2, nw_cell q q3, nw_cell q q4, nw_cell q q5, nw_cell q q6, nw_cell q q7, nw_cell q q8⟩
    have hb13 := hb12.trans (hb3.mono hb12.size)
    obtain ⟨M1, hM1⟩ : ∃ V, morI G1 G2 = V := ⟨_, rfl⟩
    obtain ⟨M2, hM2⟩ : ∃ V, morI A1 A2 = V := ⟨_, rfl⟩
    rw [hM1, hM2] at HVV
    have HM1 := Lib.hid hM1
    have HM2 := Lib.hid hM2
    clear hW3 hG1 hG2 hA1 hA2 hM1 hM2 hf hfr e1 e2 g1 g2 bx
    go_wp2_with fail
    rw [HW3.out]
    try (go_wp2_with fail)
    go_region_held3 (fun u => Below W3.heap.size W3 u ∧ u.cell? ⟨w2.heap.size, 0, none⟩ = some (.int .i64 (f 0)) ∧ u.cell? ⟨w2.heap.size, 1, none⟩ = some (.int .i64 (f 1)) ∧ u.cell? ⟨w2.heap.size, 2, none⟩ = some (.int .i64 (f 2)) ∧ u.cell? ⟨w2.heap.size, 3, none⟩ = some (.int .i64 (f 3)) ∧ u.cell? ⟨w2.heap.size, 4, none⟩ = some (.int .i64 (f 4)) ∧ u.cell? ⟨w2.heap.size, 5, none⟩ = some (.int .i64 (f 5)) ∧ u.cell? ⟨w2.heap.size, 6, none⟩ = some (.int .i64 (f 6)) ∧ u.cell? ⟨w2.heap.size, 7, none⟩ = some (.int .i64 (f 7)) ∧ u.cell? ⟨w2.heap.size, 8, none⟩ = some (.int .i64 (f 8))) (first | assumption | exact KE _ (Below.refl W3.heap.size W3) | exact KE _ (Below.refl W3.heap.size W3).drew | exact KE _ k9 | exact KE _ k9.drew | exact KE _ ka | exact KE _ (((‹Below W3.heap.size W3 _ ∧ _›).1).alloc ((‹Below W3.heap.size W3 _ ∧ _›).1).size _))
      (first
        | ((first | go_at_call_of 14 (Fn.func (nat_lit 17)) | go_at_call_of 14 (Fn.func (@OfNat.ofNat Nat (nat_lit 17) (instOfNatNat (nat_lit 17))))); refine (sideG_any HFR.out HG.out.1 HG.out.2).mono ?_; rintro e u9 ⟨he, hb9⟩; rw [HM1.out] at he; subst he; have k9 := trans_new (‹Below W3.heap.size W3 _ ∧ _›).1 hb9)
        | ((first | go_at_call_of 14 (Fn.func (nat_lit 18)) | go_at_call_of 14 (Fn.func (@OfNat.ofNat Nat (nat_lit 18) (instOfNatNat (nat_lit 18))))); refine (sideA_any HFR.out HA.out.1 HA.out.2).mono ?_; rintro e u9 ⟨he, hb9⟩; rw [HM2.out] at he; subst he; have k9 := trans_new (‹Below W3.heap.size W3 _ ∧ _›).1 hb9)
        | (go_at_call 16; refine (or_n (X := [M1, M2]) (Lib.hid rfl) (by simp) (by refine Rd.more (show Rd _ _ _ (ivs [M1, M2]) from Rd.made _ #[.int .i64 M1, .int .i64 M2] _) ?_; simp)).mono ?_; rintro e u9 ⟨rfl, rfl⟩; have ka := (‹Below W3.heap.size W3 _ ∧ _›).1))
    all_goals (try (go_wp2_with fail))
    all_goals (first | (go_ret; exact ⟨ret_i HVV.out.symm, hb13.trans (ka.mono hb13.size)⟩) | exact bodyPost_ret rfl rfl ⟨ret_i HVV.out.symm, hb13.trans (ka.mono hb13.size)⟩)
end Go.Proofs.Ytjfmpgplbcpakaa
