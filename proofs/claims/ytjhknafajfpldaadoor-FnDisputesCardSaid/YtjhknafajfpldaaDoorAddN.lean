/- Contract of the model of AddAttack. Condition: the slices have at most 2^40 - 1 elements. -/
import Derived.Test.YtjhknafajfpldaaDoorMg11
namespace Go.Proofs.YtjhknafajfpldaaDoor
open Go.ChangeShapes Go.WideShapes Go.ChangeAt Go.RowKit
set_option maxRecDepth 100000
set_option maxHeartbeats 8000000 in
theorem specAddNo {w : World} {A : Option Addr} {n c : Nat} {N a b : Int} {X : List (List Int)} (hl : Hid (X.length = n)) (hn : n ≤ 1099511627776) (hs : Hid (∀ x ∈ X, x.length ≤ 1099511627776)) (hr : RdSS w w.heap.size A X) (hg : gB N X = false) :
    Calls Tryd.prog 65 #[.agg #[.int .i64 N, .slice A n c], .int .i64 a, .int .i64 b] w (FreshGB N (addL N X a b) (canA N X a b) w) := by
  obtain ⟨W1, hW, bx1, bx2, bx3, hb1, hs1⟩ := three_graphs w #[Value.int IntKind.i64 N, Value.slice A n c] #[Value.int IntKind.i64 0, Value.slice none 0 0] #[Value.int IntKind.i64 N, Value.slice none 0 0] 26
  have HG := Lib.hid hg
  have HCf := Lib.hid (show canA N X a b = false by unfold canA; rw [hg]; rfl)
  have HLx := Lib.hid (show addL N X a b = X by unfold addL; rw [HCf.out]; rfl)
  have HR := Lib.hid (hr.below hb1)
  have HW := Lib.hid hW.symm
  clear hW hr hg
  go_enter Tryd.func65, Tryd.ntmps65
  go_wp2_with fail
  rw [HW.out]
  go_loopw [9, 10] (fun d i wr => i = .int .i64 0 ∧ d = .bool false ∧ Below W1.heap.size W1 wr) (fun _ i _ => 0)
  case atStart => exact ⟨rfl, rfl, Below.refl _ _⟩
  case round =>
    obtain ⟨rfl, rfl, hbw⟩ := hrel
    clear HW
    have b1 := bx1.new hbw
    have b2 := bx2.new hbw
    have b3 := bx3.new hbw
    have hbk := hb1.trans (hbw.mono hb1.size)
    have hrk := HR.out.below (hbw.mono hb1.size)
    have hsz := hbw.size
    have hz := Nat.le_trans (Nat.le_of_eq hs1.symm) hsz
    obtain ⟨C0, C1⟩ := b1.two
    clear bx1 bx2 bx3 hb1 hbw HR hs1 hsz
    by_cases h0 : n = 0
    · subst h0
      have hbl1 : Below wr.heap.size wr (wr.alloc (Obj.cells #[Value.int .i64 a, .int .i64 b] 3)) := (Below.refl _ _).alloc (Nat.le_refl _) _
      have hbl2 : Below wr.heap.size wr ((wr.alloc (Obj.cells #[Value.int .i64 a, .int .i64 b] 3)).alloc (Obj.cells #[Value.slice (some ⟨wr.heap.size, 0, none⟩) 2 2] 27)) := hbl1.alloc hbl1.size _
      have hown2 := (OwnSS.nil (w := wr) (lo := w.heap.size + 3) (hi := wr.heap.size)).new hbl2
      have hrow2 := (Row.made (w := wr) wr.heap.size #[Value.int .i64 a, .int .i64 b] 2 3 (Nat.le_refl _) rfl (by decide)).new ((Below.refl _ _).alloc (Nat.le_refl _) (Obj.cells #[Value.slice (some ⟨wr.heap.size, 0, none⟩) 2 2] 27))
      have hr2 := Rd.made (wr.alloc (Obj.cells #[Value.int .i64 a, .int .i64 b] 3)) #[Value.slice (some ⟨wr.heap.size, 0, none⟩) 2 2] 27
      rw [show (wr.alloc (Obj.cells #[Value.int .i64 a, .int .i64 b] 3)).heap.size = wr.heap.size + 1 by simp] at hr2
      have hbxb := b3.new hbl2
      have D1 := b3.two.2
      have D1q : (wr.alloc (Obj.cells #[Value.int .i64 a, .int .i64 b] 3)).cell? ⟨w.heap.size + 2, 1, none⟩ = some (.slice none 0 0) := (b3.new hbl1).two.2
      have HS := Lib.hid (show w.heap.size + 3 ≤ wr.heap.size from hz)
      have HBQ := Lib.hid hbl2
      obtain ⟨Wb, hWb⟩ : ∃ z : World, z = (wr.alloc (Obj.cells #[Value.int .i64 a, .int .i64 b] 3)).alloc (Obj.cells #[Value.slice (some ⟨wr.heap.size, 0, none⟩) 2 2] 27) := ⟨_, rfl⟩
      rw [← hWb] at hown2 hrow2 hr2 hbxb HBQ
      have hWb' := hWb.symm
      clear hWb hbl1 hbl2
      go_wp2_with (at_builtin; refine wpList_appSS (X := ([] : List (List Int))) (x := [a, b]) (u := .slice (some ⟨wr.heap.size, 0, none⟩) 2 2) (v := .slice none 0 0) (L := w.heap.size + 3) (M := wr.heap.size) (lo := wr.heap.size) (hi := wr.heap.size + 1) (c := 1) (ad := ⟨wr.heap.size + 1, 0, none⟩) rfl (.tmp 73) (.tmp 77) rfl rfl rfl hown2 hrow2 hr2 (Nat.le_refl _) HS.out (by simp) (Nat.le_trans HS.out HBQ.out.size) ?_; intro v7 w7 hown7 hbw7; obtain ⟨A7, c7, rfl, _, _, _⟩ := hown7.rd (n := 1) rfl; have bx7 : Bx w7 (w.heap.size + 2) 26 #[Value.int IntKind.i64 N, .slice none 0 0] := (hbw7.block _ (Nat.lt_succ_self _)).trans hbxb; have c7q := bx7.two.2; have f7 := bx7.free 1; obtain ⟨q70, q71⟩ := (show Bx w7 w.heap.size 26 #[Value.int IntKind.i64 N, Value.slice A 0 c] from (hbw7.block _ (by omega)).trans (b1.new HBQ.out)).two)

      obtain ⟨wq, hwq⟩ : ∃ z : World, z = w7.setCell ⟨w.heap.size + 1 + 1, 1, none⟩ (.slice A7 1 c7) := ⟨_, rfl⟩
      rw [← hwq]
      have hch : Below (w.heap.size + 2) wr w7 := (HBQ.out.mono (by have := HS.out; omega)).trans (hbw7.mono (by omega))
      have hb39 : Below (w.heap.size + 2) wr wq := by rw [hwq]; exact hch.setCell (Nat.le_refl _) _
      have bxq1 : Bx wq w.heap.size 26 #[Value.int IntKind.i64 N, Value.slice A 0 c] := (hb39.block _ (by omega)).trans b1
      have bxq2 : Bx wq (w.heap.size + 1) 26 #[Value.int IntKind.i64 0, Value.slice none 0 0] := (hb39.block _ (by omega)).trans b2
      have hrq := hrk.below (hb39.mono (by omega))
      have hbq0 := hbk.trans (hb39.mono (by omega))
      have HZ3 := Lib.hid (show w.heap.size + 3 ≤ wq.heap.size from Nat.le_trans HS.out hb39.size)
      clear q70 q71 hwq bx7 c7q f7 HBQ hown7 hbw7 hr2 hrow2 hown2 hbxb hWb' D1 D1q HS hb39 hch
      refine (specIsGraph_any (N := N) (X := X) (c := c) hl hn (hrq.more hbq0.size)).mono ?_
      rintro e w5 ⟨rfl, hb5⟩
      rw [HG.out]
      have hbz := hbq0.trans (hb5.mono hbq0.size)
      obtain ⟨F0, F1⟩ := (bxq1.new hb5).two
      have bxr := bxq2.new hb5
      have hr5 := hrq.below (hb5.mono hbq0.size)
      have hz5 := hb5.size
      go_wp2_with fail
      refine (specL4Copy_any hl hn hs (hr5.more hbz.size)).mono ?_
      rintro e w8 ⟨v8, rfl, hown8, hb8⟩
      have bxr8 := bxr.new hb8
      have hv8 := hown8.one
      have hk := keep_result #[.int .i64 N, v8] hown8 (hbz.trans (hb8.mono hbz.size)) (by have := HZ3.out; omega) (by have := HZ3.out; have := hb8.size; omega)
      go_wp2_with (first | (refine stGR rfl (.tmp 6) (.tmp 89) rfl bxr8 rfl hv8 rfl rfl ?_))
      refine bodyPost_ret (resGB rfl (bxr8.setRow _) rfl rfl rfl) rfl ⟨v8, by rw [HCf.out]; rfl, by rw [HLx.out]; exact hk.1, hk.2⟩
    · have i0 : (0 : Int) < (n : Int) := by omega
      go_wp2_with fail
      refine (specIsGraph_any (N := N) (X := X) (c := c) hl hn (hrk.more hbk.size)).mono ?_
      rintro e w3 ⟨rfl, hb3⟩
      rw [HG.out]
      have b1' := b1.new hb3
      have b2' := b2.new hb3
      have b3' := b3.new hb3
      have hbk' := hbk.trans (hb3.mono hbk.size)
      have hrk' := hrk.below (hb3.mono hbk.size)
      have hz' := Nat.le_trans hz hb3.size
      obtain ⟨E0, E1⟩ := b1'.two
      clear b1 b2 b3 hbk hrk hz hb3 C0 C1
      have hbl1 : Below w3.heap.size w3 (w3.alloc (Obj.cells #[Value.int .i64 a, .int .i64 b] 3)) := (Below.refl _ _).alloc (Nat.le_refl _) _
      have hbl2 : Below w3.heap.size w3 ((w3.alloc (Obj.cells #[Value.int .i64 a, .int .i64 b] 3)).alloc (Obj.cells #[Value.slice (some ⟨w3.heap.size, 0, none⟩) 2 2] 27)) := hbl1.alloc hbl1.size _
      have hown2 := (OwnSS.nil (w := w3) (lo := w.heap.size + 3) (hi := w3.heap.size)).new hbl2
      have hrow2 := (Row.made (w := w3) w3.heap.size #[Value.int .i64 a, .int .i64 b] 2 3 (Nat.le_refl _) rfl (by decide)).new ((Below.refl _ _).alloc (Nat.le_refl _) (Obj.cells #[Value.slice (some ⟨w3.heap.size, 0, none⟩) 2 2] 27))
      have hr2 := Rd.made (w3.alloc (Obj.cells #[Value.int .i64 a, .int .i64 b] 3)) #[Value.slice (some ⟨w3.heap.size, 0, none⟩) 2 2] 27
      rw [show (w3.alloc (Obj.cells #[Value.int .i64 a, .int .i64 b] 3)).heap.size = w3.heap.size + 1 by simp] at hr2
      have hbxb := b3'.new hbl2
      have D1 := b3'.two.2
      have D1q : (w3.alloc (Obj.cells #[Value.int .i64 a, .int .i64 b] 3)).cell? ⟨w.heap.size + 2, 1, none⟩ = some (.slice none 0 0) := (b3'.new hbl1).two.2
      have HS := Lib.hid (show w.heap.size + 3 ≤ w3.heap.size from hz')
      have HBQ := Lib.hid hbl2
      obtain ⟨Wb, hWb⟩ : ∃ z : World, z = (w3.alloc (Obj.cells #[Value.int .i64 a, .int .i64 b] 3)).alloc (Obj.cells #[Value.slice (some ⟨w3.heap.size, 0, none⟩) 2 2] 27) := ⟨_, rfl⟩
      rw [← hWb] at hown2 hrow2 hr2 hbxb HBQ
      have hWb' := hWb.symm
      clear hWb hbl1 hbl2
      go_wp2_with (at_builtin; refine wpList_appSS (X := ([] : List (List Int))) (x := [a, b]) (u := .slice (some ⟨w3.heap.size, 0, none⟩) 2 2) (v := .slice none 0 0) (L := w.heap.size + 3) (M := w3.heap.size) (lo := w3.heap.size) (hi := w3.heap.size + 1) (c := 1) (ad := ⟨w3.heap.size + 1, 0, none⟩) rfl (.tmp 73) (.tmp 77) rfl rfl rfl hown2 hrow2 hr2 (Nat.le_refl _) HS.out (by simp) (Nat.le_trans HS.out HBQ.out.size) ?_; intro v7 w7 hown7 hbw7; obtain ⟨A7, c7, rfl, _, _, _⟩ := hown7.rd (n := 1) rfl; have bx7 : Bx w7 (w.heap.size + 2) 26 #[Value.int IntKind.i64 N, .slice none 0 0] := (hbw7.block _ (Nat.lt_succ_self _)).trans hbxb; have c7q := bx7.two.2; have f7 := bx7.free 1; obtain ⟨q70, q71⟩ := (show Bx w7 w.heap.size 26 #[Value.int IntKind.i64 N, Value.slice A n c] from (hbw7.block _ (by omega)).trans (b1'.new HBQ.out)).two)

      obtain ⟨wq, hwq⟩ : ∃ z : World, z = w7.setCell ⟨w.heap.size + 1 + 1, 1, none⟩ (.slice A7 1 c7) := ⟨_, rfl⟩
      rw [← hwq]
      have hch : Below (w.heap.size + 2) w3 w7 := (HBQ.out.mono (by have := HS.out; omega)).trans (hbw7.mono (by omega))
      have hb39 : Below (w.heap.size + 2) w3 wq := by rw [hwq]; exact hch.setCell (Nat.le_refl _) _
      have bxq1 : Bx wq w.heap.size 26 #[Value.int IntKind.i64 N, Value.slice A n c] := (hb39.block _ (by omega)).trans b1'
      have bxq2 : Bx wq (w.heap.size + 1) 26 #[Value.int IntKind.i64 0, Value.slice none 0 0] := (hb39.block _ (by omega)).trans b2'
      have hrq := hrk'.below (hb39.mono (by omega))
      have hbq0 := hbk'.trans (hb39.mono (by omega))
      have HZ3 := Lib.hid (show w.heap.size + 3 ≤ wq.heap.size from Nat.le_trans HS.out hb39.size)
      clear q70 q71 hwq bx7 c7q f7 HBQ hown7 hbw7 hr2 hrow2 hown2 hbxb hWb' D1 D1q HS hb39 hch
      refine (specIsGraph_any (N := N) (X := X) (c := c) hl hn (hrq.more hbq0.size)).mono ?_
      rintro e w5 ⟨rfl, hb5⟩
      rw [HG.out]
      have hbz := hbq0.trans (hb5.mono hbq0.size)
      obtain ⟨F0, F1⟩ := (bxq1.new hb5).two
      have bxr := bxq2.new hb5
      have hr5 := hrq.below (hb5.mono hbq0.size)
      have hz5 := hb5.size
      go_wp2_with fail
      refine (specL4Copy_any hl hn hs (hr5.more hbz.size)).mono ?_
      rintro e w8 ⟨v8, rfl, hown8, hb8⟩
      have bxr8 := bxr.new hb8
      have hv8 := hown8.one
      have hk := keep_result #[.int .i64 N, v8] hown8 (hbz.trans (hb8.mono hbz.size)) (by have := HZ3.out; omega) (by have := HZ3.out; have := hb8.size; omega)
      go_wp2_with (first | (refine stGR rfl (.tmp 6) (.tmp 89) rfl bxr8 rfl hv8 rfl rfl ?_))
      refine bodyPost_ret (resGB rfl (bxr8.setRow _) rfl rfl rfl) rfl ⟨v8, by rw [HCf.out]; rfl, by rw [HLx.out]; exact hk.1, hk.2⟩
end Go.Proofs.YtjhknafajfpldaaDoor
