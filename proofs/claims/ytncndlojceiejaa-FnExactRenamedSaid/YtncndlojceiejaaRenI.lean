/- Contracts of the code's Without. Condition: the slices have at most 2^40 elements. -/
import Derived.Test.YtncndlojceiejaaRenC
namespace Go.Proofs.Ytncndlojceiejaa
open Go.ChangeShapes Go.WideShapes Go.ChangeAt Go.RowKit
set_option maxRecDepth 100000
/-- The graph without a claim, or as it was. -/
def woM (N : Int) (X : List (List Int)) (c : Int) : Int := if woB N X c then N - 1 else N
def woY (N : Int) (X : List (List Int)) (c : Int) : List (List Int) := if woB N X c then woX X c else X
theorem woB_rn {N : Int} {X : List (List Int)} {c : Int} : inr c 0 (rn N X - 1) = woB N X c := by
  unfold woB rn
  cases hg : gB N X with
  | true => rfl
  | false =>
    cases hc : inr c 0 ((if false = true then N else 0) - 1) with
    | false => rfl
    | true => simp [inr] at hc; omega
theorem Out.drew_ {lo hi : Nat} {w w' : World} (h : Out lo hi w w') : Out lo hi w w'.drew := h.drewN 1
theorem two_one {N : Int} {v : Value} (h : v.oneCell' = true) : ∀ x ∈ (#[Value.int .i64 N, v] : Array Value).toList, x.oneCell' = true := by
  intro x hx
  simp at hx
  rcases hx with rfl | rfl
  · rfl
  · exact h
/-- All stays but one block of two cells. -/
structure Kp (q : Nat) (t : TypeId) (W w : World) : Prop where
  out : Out q (q + 1) W w
  two : ∃ cs, Bx w q t cs ∧ cs.size = 2
section
variable {q : Nat} {t : TypeId} {W w w' : World}
theorem Kp.start {a b : Value} (h : Bx W q t #[a, b]) : Kp q t W W := ⟨Out.refl, _, h, rfl⟩
theorem Kp.drew_ (h : Kp q t W w) : Kp q t W w.drew := ⟨h.out.drew_, h.two⟩
theorem Kp.new (h : Kp q t W w) (hb : Below w.heap.size w w') : Kp q t W w' := ⟨h.out.trans (Out.of_below hb), by obtain ⟨cs, h1, h2⟩ := h.two; exact ⟨cs, h1.new hb, h2⟩⟩
theorem Kp.setRow (h : Kp q t W w) {cs : Array Value} (hs : cs.size = 2) : Kp q t W (w.setRow q cs) :=
  ⟨h.out.trans (setRow_out w q cs (Nat.le_refl _) (Nat.lt_succ_self _)), by obtain ⟨cs', h1, h2⟩ := h.two; exact ⟨cs, h1.setRow cs, hs⟩⟩
theorem Kp.eleven {G : Nat} {t' : TypeId} {N : Int} {f : Nat → Nat} (h : Bx W G t' (arC N f)) (hd : G ≠ q) (o : Kp q t W w') :
    Kp q t W w' ∧ w'.cell? ⟨G, 0, none⟩ = some (.int .i64 N) ∧ w'.cell? ⟨G, 1, none⟩ = some (.int .u16 (f 0 : Nat)) ∧ w'.cell? ⟨G, 2, none⟩ = some (.int .u16 (f 1 : Nat)) ∧ w'.cell? ⟨G, 3, none⟩ = some (.int .u16 (f 2 : Nat)) ∧ w'.cell? ⟨G, 4, none⟩ = some (.int .u16 (f 3 : Nat)) ∧ w'.cell? ⟨G, 5, none⟩ = some (.int .u16 (f 4 : Nat)) ∧ w'.cell? ⟨G, 6, none⟩ = some (.int .u16 (f 5 : Nat)) ∧ w'.cell? ⟨G, 7, none⟩ = some (.int .u16 (f 6 : Nat)) ∧ w'.cell? ⟨G, 8, none⟩ = some (.int .u16 (f 7 : Nat)) ∧ w'.cell? ⟨G, 9, none⟩ = some (.int .u16 (f 8 : Nat)) ∧ w'.cell? ⟨G, 10, none⟩ = some (.int .u16 (f 9 : Nat)) :=
  ⟨o, (h.out o.out (by omega)).eleven⟩
theorem Kp.store {P : Program} (h : Kp q t W w) {cs' : Array Value} (hs : cs'.size = 2) (h1 : ∀ v ∈ cs'.toList, v.oneCell' = true) : (storeCells ⟨q, 0, none⟩ cs'.toList 0).run P w = .ok () (w.setRow q cs') := by
  obtain ⟨cs, h2, h3⟩ := h.two
  exact h2.store (by rw [hs, h3]) h1
end
set_option maxHeartbeats 8000000 in
theorem impWithout_any {w : World} {A : Option Addr} {n c : Nat} {N a : Int} {X : List (List Int)} (hl : Hid (X.length = n)) (hn : n ≤ 1099511627776) (hs : Hid (∀ x ∈ X, x.length ≤ 1099511627776)) (hr : RdSS w w.heap.size A X) :
    Calls Try.prog 25 #[.agg #[.int .i64 N, .slice A n c], .int .i64 a] w (FreshGB (woM N X a) (woY N X a) (woB N X a) w) := by
  obtain ⟨W2, hW2, bx1, bx2, hb2, hs2⟩ := two_graphs w #[Value.int IntKind.i64 N, Value.slice A n c] #[Value.int IntKind.i64 0, Value.slice none 0 0] 26
  have HR := Lib.hid (hr.below hb2)
  obtain ⟨C0, C1⟩ := bx1.two
  have hW2' := hW2.symm
  have HS2 := Lib.hid hs2
  clear hW2 hr hs2
  go_enter Try.func25, Try.ntmps25
  go_wp2_with fail
  refine (rowsOf_any hl hn (HR.out.more hb2.size)).mono ?_
  rintro e w3 ⟨rfl, hb3⟩
  have hb4 := hb2.trans (hb3.mono hb2.size)
  have bx13 := bx1.new hb3
  have bx23 := bx2.new hb3
  have hs3 := hb3.size
  have r0 := (rn_le N X).1
  have r1 := (rn_le N X).2
  have hfl := rf_lt N X
  have HWO := Lib.hid (woB_rn (N := N) (X := X) (c := a))
  obtain ⟨rN, hrN⟩ : ∃ z, z = rn N X := ⟨_, rfl⟩
  obtain ⟨f, hf⟩ : ∃ f, f = rf N X := ⟨_, rfl⟩
  rw [← hrN] at r0 r1 HWO ⊢
  rw [← hf] at hfl ⊢
  have HN := Lib.hid hrN
  have HF := Lib.hid hf
  clear hrN hf hW2' C0 C1 bx1 bx2
  obtain ⟨W4, W5, hW4, hW5, bx4, bx5, hb5, hs5⟩ := new_rows w3 rN f
  rw [← arC_lit 0] at hW4
  have HX := Lib.hid hW5
  have bx15 := bx13.new hb5
  have bx25 := bx23.new hb5
  have hb6 := hb4.trans (hb5.mono hb4.size)
  have hrd5 := (HR.out.below (hb3.mono hb2.size)).below (hb5.mono hb4.size)
  have E0 := bx5.at_ (k := 0) (v := .int .i64 rN) rfl
  obtain ⟨D0, D1⟩ := bx15.two
  have HM := Lib.hid (show w.heap.size + 2 ≤ W5.heap.size by rw [hs5]; have := HS2.out; omega)
  clear hs5 hW5
  by_cases ha : inr a 0 (rN - 1) = true
  case neg =>
    have HA := Lib.hid (show inr a 0 (rN - 1) = false by simpa using ha)
    have HCf := Lib.hid (show woB N X a = false by rw [← HWO.out]; exact HA.out)
    have HLx := Lib.hid (show woY N X a = X by unfold woY; rw [HCf.out]; rfl)
    have HLm := Lib.hid (show woM N X a = N by unfold woM; rw [HCf.out]; rfl)
    clear ha
    go_wp2_with (first | (refine stAR (n := rN) (f := f) rfl (.tmp 6) (.tmp 8) rfl bx4 rfl rfl rfl ?_; rw [HX.out]) | (go_at_call 36; refine (isClaim_any (by omega) (by omega)).mono ?_; rintro e w1 ⟨he, rfl⟩; rw [HA.out] at he; subst he))
    refine (impCopy_any hl hn hs (hrd5.more hb6.size)).mono ?_
    rintro e w6 ⟨v, rfl, hown, hb7⟩
    have bx26 := bx25.new hb7
    have hv1 := hown.one
    have hk := keep_result #[.int .i64 N, v] hown (hb6.trans (hb7.mono hb6.size)) HM.out (Nat.le_trans HM.out hb7.size)
    go_wp2_with (first | (refine stGR rfl (.tmp 4) (.tmp 15) rfl bx26 rfl hv1 rfl rfl ?_))
    refine bodyPost_ret (resGB rfl (bx26.setRow _) rfl rfl rfl) rfl ⟨v, by rw [HCf.out, HLm.out]; rfl, by rw [HLx.out]; exact hk.1, hk.2⟩
  case pos =>
    have HA := Lib.hid ha
    have HCf := Lib.hid (show woB N X a = true by rw [← HWO.out]; exact ha)
    have hg : gB N X = true := by have := HCf.out; unfold woB at this; rw [Bool.and_eq_true] at this; exact this.1
    obtain ⟨m, rfl, hm, hP, _⟩ := gB_ok hg
    have e := HN.out.trans (rn_eq hg)
    subst e
    obtain ⟨a0, a1⟩ : 0 ≤ a ∧ a < m := by simp [inr] at ha; omega
    have HC := Lib.hid (without_code hg a0 a1)
    rw [← HF.out] at HC
    have HLx := Lib.hid (show woY m X a = woX X a by unfold woY; rw [HCf.out]; rfl)
    have HLm := Lib.hid (show woM m X a = ((m - 1 : Nat) : Int) by unfold woM; rw [HCf.out]; simp; omega)
    have HM1 := Lib.hid (show IntKind.i64.wrap ((m : Int) - 1) = ((m - 1 : Nat) : Int) by rw [IntWalk.i64_in _ (by omega)]; omega)
    have HNM := Lib.hid (woN_nms a0)
    have HGP := Lib.hid (att_lt16 (mapX_prs HNM.out (glK_prs f m hm)))
    have cc := bx5.eleven
    clear ha hg HN
    go_wp2_with (first | (refine stAR (n := m) (f := f) rfl (.tmp 6) (.tmp 8) rfl bx4 rfl rfl rfl ?_; rw [HX.out]) | (go_at_call 36; refine (isClaim_any (by omega) (by omega)).mono ?_; rintro e w1 ⟨he, rfl⟩; rw [HA.out] at he; subst he))
    obtain ⟨c0, c1, c2, c3, c4, c5, c6, c7, c8, c9, c10⟩ := cc
    clear hW4 bx4
    have KE : ∀ w', Kp (w.heap.size + 1) 26 W5 w' → Kp (w.heap.size + 1) 26 W5 w' ∧ w'.cell? ⟨w3.heap.size, 0, none⟩ = some (.int .i64 m) ∧ w'.cell? ⟨w3.heap.size, 1, none⟩ = some (.int .u16 (f 0 : Nat)) ∧ w'.cell? ⟨w3.heap.size, 2, none⟩ = some (.int .u16 (f 1 : Nat)) ∧ w'.cell? ⟨w3.heap.size, 3, none⟩ = some (.int .u16 (f 2 : Nat)) ∧ w'.cell? ⟨w3.heap.size, 4, none⟩ = some (.int .u16 (f 3 : Nat)) ∧ w'.cell? ⟨w3.heap.size, 5, none⟩ = some (.int .u16 (f 4 : Nat)) ∧ w'.cell? ⟨w3.heap.size, 6, none⟩ = some (.int .u16 (f 5 : Nat)) ∧ w'.cell? ⟨w3.heap.size, 7, none⟩ = some (.int .u16 (f 6 : Nat)) ∧ w'.cell? ⟨w3.heap.size, 8, none⟩ = some (.int .u16 (f 7 : Nat)) ∧ w'.cell? ⟨w3.heap.size, 9, none⟩ = some (.int .u16 (f 8 : Nat)) ∧ w'.cell? ⟨w3.heap.size, 10, none⟩ = some (.int .u16 (f 9 : Nat)) := fun w' o => Kp.eleven bx5 (by have := HS2.out; omega) o
    have K0 := Kp.start bx25
    have HK1 := Lib.hid (show w.heap.size + 2 ≤ w3.heap.size by have := HS2.out; omega)
    generalize hG : w3.heap.size = G at *
    go_region_held3 (fun w' => Kp (w.heap.size + 1) 26 W5 w' ∧ w'.cell? ⟨G, 0, none⟩ = some (.int .i64 m) ∧ w'.cell? ⟨G, 1, none⟩ = some (.int .u16 (f 0 : Nat)) ∧ w'.cell? ⟨G, 2, none⟩ = some (.int .u16 (f 1 : Nat)) ∧ w'.cell? ⟨G, 3, none⟩ = some (.int .u16 (f 2 : Nat)) ∧ w'.cell? ⟨G, 4, none⟩ = some (.int .u16 (f 3 : Nat)) ∧ w'.cell? ⟨G, 5, none⟩ = some (.int .u16 (f 4 : Nat)) ∧ w'.cell? ⟨G, 6, none⟩ = some (.int .u16 (f 5 : Nat)) ∧ w'.cell? ⟨G, 7, none⟩ = some (.int .u16 (f 6 : Nat)) ∧ w'.cell? ⟨G, 8, none⟩ = some (.int .u16 (f 7 : Nat)) ∧ w'.cell? ⟨G, 9, none⟩ = some (.int .u16 (f 8 : Nat)) ∧ w'.cell? ⟨G, 10, none⟩ = some (.int .u16 (f 9 : Nat))) (first | assumption | with_reducible exact KE _ K0 | with_reducible exact KE _ K0.drew_ | with_reducible exact KE _ k9 | with_reducible exact KE _ k9.drew_ | with_reducible exact KE _ (‹Kp (w.heap.size + 1) 26 W5 _ ∧ _›).1.drew_ | with_reducible exact KE _ (k9.setRow hz2))
      (first
      | (go_at_call 58; refine (names_any (c := a)).mono ?_; rintro e u9 ⟨rfl, hb9⟩; have k9 := (‹Kp (w.heap.size + 1) 26 W5 _ ∧ _›).1.new hb9)
      | (go_at_call 57; rw [HM1.out]; refine (renamed_any hm hfl HNM.out).mono ?_; rintro e u9 ⟨rfl, hb9⟩; have k9 := (‹Kp (w.heap.size + 1) 26 W5 _ ∧ _›).1.new hb9)
      | (go_at_call 39; refine (impGraph_any (by omega) HGP.out).mono ?_; rintro e u9 ⟨v, rfl, hown, hb9⟩; have z9 := (‹Kp (w.heap.size + 1) 26 W5 _ ∧ _›).1.out.size; have k9 := (‹Kp (w.heap.size + 1) 26 W5 _ ∧ _›).1.new hb9; have hv1 := hown.one; obtain ⟨cs2, hcs2⟩ : ∃ cs2, cs2 = #[Value.int .i64 ((m - 1 : Nat) : Int), v] := ⟨_, rfl⟩; rw [← hcs2]; have hz2 : cs2.size = 2 := (by rw [hcs2]; rfl); have hst := k9.store (P := Try.prog) (cs' := cs2) hz2 (by rw [hcs2]; exact two_one hv1); have HS2 := Lib.hid hcs2; clear hcs2))
    obtain ⟨cs9, h91, _⟩ := k9.two
    have hbx := h91.setRow cs2
    have hb11 : Below w.heap.size w u9 := hb6.trans (k9.out.below (by omega) hb6.size)
    have hk1 := HK1.out
    have hz5 := hb6.size
    have hm5 := HM.out
    have hk := keep_result cs2 hown hb11 (by omega) (by have := k9.out.size; omega)
    go_wp2_with fail
    refine bodyPost_ret (resGB rfl hbx hz2 rfl rfl) rfl ⟨v, by rw [HCf.out, HLm.out, HS2.out]; rfl, by rw [HLx.out, ← HC.out]; exact hk.1, hk.2⟩
end Go.Proofs.Ytncndlojceiejaa
