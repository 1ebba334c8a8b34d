/- Contract of the code's say: a word is said, and dropped again by a deferred call if it does not bind. Condition: the slices have fewer than 2^40 elements. -/
import Derived.Test.YtignchefkihdaaaSayC
namespace Go.Proofs.Ytignchefkihdaaa
open Go.ChangeShapes Go.WideShapes Go.ChangeAt Go.RowKit
set_option maxRecDepth 100000
set_option maxHeartbeats 4000000 in
theorem say_any {w : World} {B lo p n' c' : Nat} {v : Value} {A' : Option Addr} {X : List (List Int)} {f : List Int} (bx : Bx w p 87 #[v]) (h : OwnSS w lo w.heap.size v X) (hB : B ≤ lo) (hBp : B ≤ p) (hlo : lo ≤ w.heap.size) (hn : X.length ≤ 1000000000000) (hs : Hid (∀ x ∈ X, x.length ≤ 1099511627776))
    (hl' : Hid (f.length = n')) (hn' : n' ≤ 1099511627776) (hr' : Rd w B A' (ivs f)) :
    Calls Try.prog 72 #[.pointer (some ⟨p, 0, none⟩), .slice A' n' c'] w (fun e w' => e = .returned (.bool (storeB (X ++ [f]))) ∧ ∃ v', Bx w' p 87 #[v'] ∧ OwnSS w' lo w'.heap.size v' (sayX X f) ∧ Below B w w') := by
  obtain ⟨A, c, hv, _, _, _⟩ := h.rd (n := X.length) rfl
  subst hv
  have hmf : ∀ (fn : Fn) (first cap : Array Value) (w : World), (Instr.makeFunc fn first cap).run Try.prog w = .ok (.func fn first cap) w := fun _ _ _ _ => rfl
  obtain ⟨W1, hW1⟩ : ∃ u : World, u = w.alloc (Obj.cells #[Value.pointer (some ⟨p, 0, none⟩)] 138) := ⟨_, rfl⟩
  obtain ⟨W2, hW2⟩ : ∃ u : World, u = W1.alloc (Obj.cells #[Value.bool false] 4) := ⟨_, rfl⟩
  obtain ⟨W3, hW3⟩ : ∃ u : World, u = W2.alloc (Obj.cells #[Value.int .i64 (X.length : Nat)] 3) := ⟨_, rfl⟩
  have z1 : W1.heap.size = w.heap.size + 1 := by rw [hW1]; simp
  have z2 : W2.heap.size = w.heap.size + 2 := by rw [hW2]; simp [z1]
  have z3 : W3.heap.size = w.heap.size + 3 := by rw [hW3]; simp [z2]
  have n1 : Below w.heap.size w W1 := by rw [hW1]; exact alloc_new _ _
  have n2 : Below W1.heap.size W1 W2 := by rw [hW2]; exact alloc_new _ _
  have n3 : Below W2.heap.size W2 W3 := by rw [hW3]; exact alloc_new _ _
  have bA1 : Bx W1 w.heap.size 138 #[.pointer (some ⟨p, 0, none⟩)] := by rw [hW1]; exact Bx.made _ _ _
  have bB2 : Bx W2 (w.heap.size + 1) 4 #[.bool false] := by rw [hW2, ← z1]; exact Bx.made _ _ _
  have bC3 : Bx W3 (w.heap.size + 2) 3 #[.int .i64 (X.length : Nat)] := by rw [hW3, ← z2]; exact Bx.made _ _ _
  have bP2 := (bx.new n1).new n2
  have bP3 := bP2.new n3
  have bA3 := (bA1.new n2).new n3
  have bB3 := bB2.new n3
  have n13 : Below w.heap.size w W3 := (n1.trans (n2.mono (by omega))).trans (n3.mono (by omega))
  have h3 := h.new n13
  have c0 := bP2.at_ (k := 0) rfl
  rw [hW2, hW1] at c0
  have HW := Lib.hid (show ((w.alloc (Obj.cells #[Value.pointer (some ⟨p, 0, none⟩)] 138)).alloc (Obj.cells #[Value.bool false] 4)).alloc (Obj.cells #[Value.int .i64 (X.length : Nat)] 3) = W3 by rw [hW3, hW2, hW1])
  clear hW1 hW2 hW3 bA1 bB2 bP2 n1 n2 n3 z1 z2 bx h
  go_enter_defers Try.func72, Try.ntmps72
  go_wp2_with fail
  rw [HW.out]
  have ca3 := bA3.at_ (k := 0) rfl
  have cp3 := bP3.at_ (k := 0) rfl
  have HA3 := Lib.hid bA3
  have HP3 := Lib.hid bP3
  have HB3 := Lib.hid bB3
  have HC3 := Lib.hid bC3
  have HO3 := Lib.hid h3
  have HR3 := Lib.hid ((hr'.below (n13.mono (show B ≤ w.heap.size by omega))).more (show B ≤ W3.heap.size by omega))
  clear bA3 bP3 bB3 bC3 h3 hr'
  refine region_via (fun a u => ∃ (A9 : Option Addr) (c9 g9 : Nat) (A8 : Option Addr) (c8 : Nat) (w9 : World), a = { tmps := #[Value.pointer (some ⟨p, 0, none⟩), .slice A' n' c', .pointer (some ⟨w.heap.size, 0, none⟩), undef, .pointer (some ⟨w.heap.size + 1, 0, none⟩), .pointer (some ⟨w.heap.size + 1 + 1, 0, none⟩), .pointer (some ⟨p, 0, none⟩), .pointer (some ⟨p, 0, none⟩), .pointer (some ⟨p, 0, none⟩), .slice A X.length c, .int .i64 (X.length : Nat), .pointer (some ⟨p, 0, none⟩), .pointer (some ⟨p, 0, none⟩), .pointer (some ⟨p, 0, none⟩), .pointer (some ⟨p, 0, none⟩), .slice A X.length c, .slice A' n' c', .slice A9 n' c9, .slice (some ⟨g9, 0, none⟩) 1 1, .slice A8 (X.length + 1) c8, .pointer (some ⟨p, 0, none⟩), .pointer (some ⟨p, 0, none⟩), undef, undef, undef, undef, undef, undef], defers := [] } ∧ u = w9.setCell ⟨p, 0, none⟩ (.slice A8 (X.length + 1) c8) ∧ OwnSS w9 lo w9.heap.size (.slice A8 (X.length + 1) c8) (X ++ [f]) ∧ Bx w9 p 87 #[.slice A X.length c] ∧ Bx w9 w.heap.size 138 #[.pointer (some ⟨p, 0, none⟩)] ∧ Bx w9 (w.heap.size + 1) 4 #[.bool false] ∧ Bx w9 (w.heap.size + 2) 3 #[.int .i64 (X.length : Nat)] ∧ Below B w w9) ?_ ?_
  rotate_left
  · rintro a u ⟨A9, c9, g9, A8, c8, w9, rfl, rfl, hown, bp, ba, bb, bc, q⟩
    have hpa := ba.neT bp (by decide)
    have hpb := bb.neT bp (by decide)
    have hpc := bc.neT bp (by decide)
    have bp' := bp.set 0 (.slice A8 (X.length + 1) c8)
    have ba' := ba.far (p := ⟨p, 0, none⟩) hpa (.slice A8 (X.length + 1) c8)
    have bb' := bb.far (p := ⟨p, 0, none⟩) hpb (.slice A8 (X.length + 1) c8)
    have bc' := bc.far (p := ⟨p, 0, none⟩) hpc (.slice A8 (X.length + 1) c8)
    have ho' := hown.setT bp (by decide) (by decide) 0 (.slice A8 (X.length + 1) c8)
    have q' := q.setCell (p := ⟨p, 0, none⟩) hBp (.slice A8 (X.length + 1) c8)
    obtain ⟨Wa, hWa⟩ : ∃ u : World, u = w9.setCell ⟨p, 0, none⟩ (.slice A8 (X.length + 1) c8) := ⟨_, rfl⟩
    have hza : Wa.heap.size = w9.heap.size := by rw [hWa]; simp
    rw [← hWa] at bp' ba' bb' bc' ho' q' ⊢
    rw [← hza] at ho'
    clear hown bp ba bb bc q hWa HA3 HP3 HB3 HC3 HO3 HR3 ca3 cp3 c0
    have ca := ba'.at_ (k := 0) rfl
    have cp := bp'.at_ (k := 0) (v := .slice A8 (X.length + 1) c8) rfl
    obtain ⟨Ar, cr, er, hrd, _, _⟩ := ho'.rd (n := X.length + 1) (by simp)
    injection er with er1 er2 er3
    subst er1 er3
    have HRD := Lib.hid hrd
    have HSL := Lib.hid (show ∀ x ∈ X ++ [f], x.length ≤ 1099511627776 from fun x hx => by
      rcases List.mem_append.1 hx with hx | hx
      · exact hs.out x hx
      · rw [List.mem_singleton.1 hx, hl'.out]; exact hn')
    clear hrd
    go_wp2_with fail
    refine (impIsStore_any (X := X ++ [f]) (Lib.hid (by simp)) (by omega) HSL HRD.out).mono ?_
    rintro e wb ⟨rfl, r⟩
    have hBW : B ≤ Wa.heap.size := by have := q'.size; omega
    have q2 := q'.trans (r.mono hBW)
    have bpb := bp'.new r
    have bab := ba'.new r
    have bbb := bb'.new r
    have bcb := bc'.new r
    have hob := ho'.new r
    have c4 := bbb.at_ (k := 0) rfl
    have f4 := bbb.free 0
    obtain ⟨b, hb⟩ : ∃ b, b = storeB (X ++ [f]) := ⟨_, rfl⟩
    rw [← hb]
    have HB := Lib.hid hb
    clear hb
    go_wp2_with fail
    have hcb : Below B w (wb.setCell ⟨w.heap.size + 1, 0, none⟩ (.bool b)) := q2.setCell (by show B ≤ w.heap.size + 1; omega) _
    have bbc := bbb.set 0 (.bool b)
    have bac := bab.far (p := ⟨w.heap.size + 1, 0, none⟩) (bab.neT bbb (by decide)) (.bool b)
    have bpc := bpb.far (p := ⟨w.heap.size + 1, 0, none⟩) (bpb.neT bbb (by decide)) (.bool b)
    have bcc := bcb.far (p := ⟨w.heap.size + 1, 0, none⟩) (bcb.neT bbb (by decide)) (.bool b)
    have hoc := hob.setT bbb (by decide) (by decide) 0 (.bool b)
    obtain ⟨Wc, hWc⟩ : ∃ u : World, u = wb.setCell ⟨w.heap.size + 1, 0, none⟩ (.bool b) := ⟨_, rfl⟩
    have hzc : Wc.heap.size = wb.heap.size := by rw [hWc]; simp
    have hzr := r.size
    rw [← hWc] at hcb bbc bac bpc bcc hoc ⊢
    have ccc := bbc.at_ (k := 0) (v := .bool b) rfl
    have HS := Lib.hid (show sayX X f = if b then X ++ [f] else X by rw [HB.out]; rfl)
    rw [← HB.out]
    show Leaves _ _ _ _ _ .returning _
    refine leaves_cons (f := 125) (args := #[.pointer (some ⟨w.heap.size + 1, 0, none⟩), .pointer (some ⟨w.heap.size, 0, none⟩), .pointer (some ⟨w.heap.size + 2, 0, none⟩)]) (by simp) (by simp [go_sem]) ?_
    cases b with
    | true =>
      refine (sayD_true bbc).mono ?_
      rintro e u' w'' ⟨rfl, rfl, rfl⟩
      refine ⟨.bool true, ?_, rfl, _, bpc, ?_, hcb⟩
      · simp [results, Try.results72, go_sem, ccc]
      · rw [HS.out]; exact hoc.wide (Nat.le_refl _) (by omega)
    | false =>
      refine (sayD_false bbc bac bcc bpc hoc (by simp) (by omega)).mono ?_
      rintro e u' w'' ⟨rfl, rfl, v', bp2, ho2, ex⟩
      have bb2 := (ex.block _ bbc.lt (bbc.neT bpc (by decide)) (hoc.notOwn bbc (by decide))).trans bbc
      have cb2 := Bx.at_ (k := 0) (v := .bool false) bb2 rfl
      refine ⟨.bool false, ?_, rfl, v', bp2, ?_, ?_⟩
      · simp [results, Try.results72, go_sem, cb2]
      · rw [HS.out]
        have e2 : (X ++ [f]).take X.length ++ (X ++ [f]).drop (X.length + 1) = X := by
          rw [List.take_left, List.drop_eq_nil_of_le (by simp), List.append_nil]
        rw [e2] at ho2
        exact ho2.wide (Nat.le_refl _) (by have := ex.size; omega)
      · refine hcb.trans ⟨ex.os, ex.tape, ex.output, ex.size, fun b hb2 => ex.block b ?_ ?_ ?_⟩
        · have := hcb.size; omega
        · omega
        · intro e
          obtain ⟨F, ⟨v0, es, a1, a2, a3, a4, _⟩, _, hF⟩ := hoc
          have hv : v0 = .slice A8 (X.length + 1) c8 := by simpa using a1.symm
          subst hv
          have := (hF b (by rw [a4]; exact List.mem_append_left _ (by rw [show (Value.slice A8 (X.length + 1) c8).ownBlock = some b from e]; simp))).1
          omega
  go_region_law (first
    | (go_simp; go_at_call 124; refine (clone_any (xs := f) hl' hn' (by first | exact HR3.out | exact HR3.out.drewN 1)).mono ?_; rintro e u1 ⟨v1, rfl, hrow1, r⟩; obtain ⟨A9, c9, rfl, _, _, _⟩ := hrow1.rd (n := n') (by rw [ivs_len, hl'.out]); have q1 : Below W3.heap.size W3 u1 := (by first | exact r | exact (Below.refl _ _).drew.trans r); have ca4 := (HA3.out.new q1).at_ (k := 0) rfl; have cp4 := (HP3.out.new q1).at_ (k := 0) rfl; have hba := alloc_new u1 (Obj.cells #[Value.slice A9 n' c9] 25); have q2 := q1.trans (hba.mono q1.size); have ca5 := (HA3.out.new q2).at_ (k := 0) rfl; have cp5 := (HP3.out.new q2).at_ (k := 0) rfl; have HM := Lib.hid (Rd.made u1 #[Value.slice A9 n' c9] 25); have HRW := Lib.hid (hrow1.new hba))
    | (refine step_appT 85 FL_under rfl (.tmp 15) (.tmp 18) rfl (X := X) (x := f) (u := .slice A9 n' c9) (v := .slice A X.length c) (L := lo) (M := w.heap.size) (c := 1) (ad := ⟨u1.heap.size, 0, none⟩) (by simp [Act.eval]) (by simp [Act.eval]) (HO3.out.new q2) HRW.out HM.out (by have := q1.size; show w.heap.size ≤ W3.heap.size; omega) hlo (by omega) (by have := q2.size; omega) ?_; intro v9 w9 hown9 hb9 hk9; obtain ⟨A8, c8, rfl, _, _, _⟩ := hown9.rd (n := X.length + 1) (by simp); have bp9 : Bx w9 p 87 #[.slice A X.length c] := (hk9 p (HP3.out.new q2).lt ((HO3.out.new q2).notOwn (HP3.out.new q2) (by decide))).trans (HP3.out.new q2); have ba9 := (hk9 w.heap.size (HA3.out.new q2).lt ((HO3.out.new q2).notOwn (HA3.out.new q2) (by decide))).trans (HA3.out.new q2); have ca9 := Bx.at_ (k := 0) (v := .pointer (some ⟨p, 0, none⟩)) ba9 rfl; have cp9 := bp9.at_ (k := 0) rfl; have fp9 := bp9.free 0))
  all_goals exact ⟨A9, c9, u1.heap.size, A8, c8, w9, rfl, rfl, hown9, bp9, ba9, (hk9 _ (HB3.out.new q2).lt ((HO3.out.new q2).notOwn (HB3.out.new q2) (by decide))).trans (HB3.out.new q2), (hk9 _ (HC3.out.new q2).lt ((HO3.out.new q2).notOwn (HC3.out.new q2) (by decide))).trans (HC3.out.new q2), ((n13.mono (by omega)).trans (q2.mono (by omega))).trans (hb9.mono hB)⟩
end Go.Proofs.Ytignchefkihdaaa
