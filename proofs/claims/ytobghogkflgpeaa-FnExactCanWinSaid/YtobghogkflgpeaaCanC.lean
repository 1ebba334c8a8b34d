/- Contracts of the code's game: holds and canAnswer, which call one another and keep what they find in a map. Condition: the map's entries are right. -/
import Derived.Test.YtobghogkflgpeaaTurn
import Derived.Test.YtobghogkflgpeaaIdxFn
import Derived.Test.YtobghogkflgpeaaMg1
import Derived.Test.YtobghogkflgpeaaRenC
namespace Go.Proofs.Ytobghogkflgpeaa
open Go.ChangeShapes Go.WideShapes Go.ChangeAt Go.RowKit
set_option maxRecDepth 100000
/-- A game as cells. -/
def gmC (n : Int) (f : Nat → Nat) (B : Nat) : Array Value := #[.int .i64 n, .int .u16 (f 0 : Nat), .int .u16 (f 1 : Nat), .int .u16 (f 2 : Nat), .int .u16 (f 3 : Nat), .int .u16 (f 4 : Nat), .int .u16 (f 5 : Nat), .int .u16 (f 6 : Nat), .int .u16 (f 7 : Nat), .int .u16 (f 8 : Nat), .int .u16 (f 9 : Nat), .map (some B)]
theorem GM_info : (Try.prog.info? 73).map (·.size) = some 12 := by kernel_rfl
theorem ldGM {w : World} {ops : Array Oper} {rest : List Oper} {o : Oper} {a : Act} {Q : Exit → Act → World → Prop} {cs : Array Value} (hgd : o.guard = none) (x : Operand) (ho : o.op = .load 73 x) {g : Nat} (h : Bx w g 73 cs) (hs : cs.size = 12) (hx : a.eval x = .pointer (some ⟨g, 0, none⟩)) (K : wpList Try.prog ops Q rest (a.put o.dst (.agg cs)) w) : wpList Try.prog ops Q (o :: rest) a w :=
  wpList_load_row hgd _ x ho g hx _ cs (0, 0) _ h Try.underlying73 rfl (by rw [GM_info, hs]) K
theorem Bx.twelve {w : World} {g : Nat} {t : TypeId} {n : Int} {f : Nat → Nat} {B : Nat} (h : Bx w g t (gmC n f B)) :
    w.cell? ⟨g, 0, none⟩ = some (.int .i64 n) ∧ w.cell? ⟨g, 1, none⟩ = some (.int .u16 (f 0 : Nat)) ∧ w.cell? ⟨g, 2, none⟩ = some (.int .u16 (f 1 : Nat)) ∧ w.cell? ⟨g, 3, none⟩ = some (.int .u16 (f 2 : Nat)) ∧ w.cell? ⟨g, 4, none⟩ = some (.int .u16 (f 3 : Nat)) ∧ w.cell? ⟨g, 5, none⟩ = some (.int .u16 (f 4 : Nat)) ∧ w.cell? ⟨g, 6, none⟩ = some (.int .u16 (f 5 : Nat)) ∧ w.cell? ⟨g, 7, none⟩ = some (.int .u16 (f 6 : Nat)) ∧ w.cell? ⟨g, 8, none⟩ = some (.int .u16 (f 7 : Nat)) ∧ w.cell? ⟨g, 9, none⟩ = some (.int .u16 (f 8 : Nat)) ∧ w.cell? ⟨g, 10, none⟩ = some (.int .u16 (f 9 : Nat)) ∧ w.cell? ⟨g, 11, none⟩ = some (.map (some B)) :=
  ⟨h.at_ (k := 0) rfl, h.at_ (k := 1) rfl, h.at_ (k := 2) rfl, h.at_ (k := 3) rfl, h.at_ (k := 4) rfl, h.at_ (k := 5) rfl, h.at_ (k := 6) rfl, h.at_ (k := 7) rfl, h.at_ (k := 8) rfl, h.at_ (k := 9) rfl, h.at_ (k := 10) rfl, h.at_ (k := 11) rfl⟩
/-- What both give: the answer, and a map that is still right. -/
def Gives (N : Int) (X : List (List Int)) (B : Nat) (b : Bool) (w : World) (e : Ending) (w' : World) : Prop := e = .returned (.bool b) ∧ MapOK N X B w' ∧ Out B (B + 1) w w'
def HldS (n : Int) (X : List (List Int)) (B d : Nat) : Prop := ∀ (u c : Nat) (w : World), u < 1024 → c < 10 → freU (u ||| 2 ^ c) < d → MapOK n X B w →
  Calls Try.prog 45 #[.agg (gmC n (rf n X) B), .int .u16 (u : Nat), .int .i64 (c : Nat)] w (Gives n X B (hldV n X u c) w)
def CanS (n : Int) (X : List (List Int)) (B d : Nat) : Prop := ∀ (u c : Nat) (w : World), u < 1024 → c < 10 → freU u < d → MapOK n X B w →
  Calls Try.prog 75 #[.agg (gmC n (rf n X) B), .agg #[.int .u16 (u : Nat), .int .i64 (c : Nat)]] w (Gives n X B (canV n X u c) w)
section
variable {n : Int} {X : List (List Int)} {B d : Nat}
set_option maxHeartbeats 4000000 in
theorem clH_any (hC : CanS n X B d) {w : World} {g1 g2 v p : Nat} (h1 : Bx w g1 73 (gmC n (rf n X) B)) (h2 : Bx w g2 67 #[.int .u16 (v : Nat)]) (hv : v < 1024) (hp : p < 10) (hd : freU v < d) (hm : MapOK n X B w) :
    Calls Try.prog 74 #[.int .i64 (p : Nat), .pointer (some ⟨g1, 0, none⟩), .pointer (some ⟨g2, 0, none⟩)] w (Gives n X B (!(canV n X v p)) w) := by
  have HK := Lib.hid (hC v p w hv hp hd hm)
  have e2 := h2.at_ (k := 0) (v := .int .u16 (v : Nat)) rfl
  clear hC hm hd
  go_enter Try.func74, Try.ntmps74
  go_wp2_with (refine ldGM rfl (.tmp 1) rfl h1 rfl rfl ?_)
  refine HK.out.mono ?_
  rintro e w2 ⟨rfl, hm, ho⟩
  have HM := Lib.hid hm
  clear hm
  go_wp2_with fail
  go_ret
  exact ⟨rfl, HM.out, ho⟩
set_option maxHeartbeats 4000000 in
theorem clC_any (hH : HldS n X B d) {w : World} {g1 g2 u c p : Nat} (h1 : Bx w g1 73 (gmC n (rf n X) B)) (h2 : Bx w g2 87 #[.int .u16 (u : Nat), .int .i64 (c : Nat)]) (hu : u < 1024) (hp : p < 10) (hd : freU (u ||| 2 ^ p) < d) (hm : MapOK n X B w) :
    Calls Try.prog 89 #[.int .i64 (p : Nat), .pointer (some ⟨g1, 0, none⟩), .pointer (some ⟨g2, 0, none⟩)] w (Gives n X B (hldV n X u p) w) := by
  have HK := Lib.hid (hH u p w hu hp hd hm)
  obtain ⟨e2, _⟩ := h2.two
  clear hH hm hd
  go_enter Try.func89, Try.ntmps89
  go_wp2_with (refine ldGM rfl (.tmp 1) rfl h1 rfl rfl ?_)
  refine HK.out.mono ?_
  rintro e w2 ⟨rfl, hm, ho⟩
  have HM := Lib.hid hm
  clear hm
  go_wp2_with fail
  go_ret
  exact ⟨rfl, HM.out, ho⟩
set_option maxHeartbeats 8000000 in
theorem can_step (hH : HldS n X B d) : CanS n X B (d + 1) := by
  intro u c w hu hc hd hm
  have hBw := hm.lt
  obtain ⟨W1, hW, b1, b2, hb1, hs1⟩ := two_blocks w (gmC n (rf n X) B) #[.int .u16 (u : Nat), .int .i64 (c : Nat)] 73 87
  have hm1 := hm.new hb1
  obtain ⟨c0, c1, c2, c3, c4, c5, c6, c7, c8, c9, c10, c11⟩ := b1.twelve
  obtain ⟨d0, d1⟩ := b2.two
  have HS := Lib.hid hs1
  have HM := Lib.hid hm1
  clear hs1
  rcases hm1.look hu hc with hlk | hlk
  · clear hm hm1
    unfold tnV at hlk
    have hfl := rf_lt n X
    have HV : Hid (canV n X u c = (lsT (anB (atB (rf n X) c 10) u) 10).any fun z => hldV n X u z.toNat) := Lib.hid rfl
    have HFR := Lib.hid (fun (z : Int) (h : z ∈ lsT (anB (atB (rf n X) c 10) u) 10) => ans_free (N := n) (X := X) (c := c) hu h)
    have HLN := Lib.hid (show (lsT (anB (atB (rf n X) c 10) u) 10).length ≤ 1099511627776 by have := lsT_len (anB (atB (rf n X) c 10) u) 10; omega)
    have hmf : ∀ (fn : Fn) (first cap : Array Value) (w : World), (Instr.makeFunc fn first cap).run Try.prog w = .ok (.func fn first cap) w := fun _ _ _ _ => rfl
    go_enter Try.func75, Try.ntmps75
    go_wp2_with fail
    refine (answers_any (n := n) (f := rf n X) (c := (c : Int)) hfl (Nat.lt_trans hu (by decide))).mono ?_
    rintro e w3 ⟨v, rfl, hrow, hb3⟩
    obtain ⟨L, hL⟩ : ∃ L, L = lsT (anB (atB (rf n X) c 10) u) 10 := ⟨_, rfl⟩
    rw [← hL] at hrow HV HFR HLN
    obtain ⟨A3, k3, rfl, _, _, _⟩ := hrow.rd (n := L.length) (ivs_len L)
    have b13 := b1.new hb3
    have b23 := b2.new hb3
    have hm3 := HM.out.new hb3
    have o3 : Out B (B + 1) w w3 := (Out.of_below hb1).trans (Out.of_below hb3)
    have hs1 := HS.out
    have hz3 := hb3.size
    have HB1 := Lib.hid b13
    have HB2 := Lib.hid b23
    have HM3 := Lib.hid hm3
    have HRW := Lib.hid hrow
    have HL1 := Lib.hid (show B + 1 ≤ w.heap.size from hBw)
    clear hL c0 c1 c2 c3 c4 c5 c6 c7 c8 c9 c10 c11 d0 d1 hlk hm3 hrow b13 b23 hfl b1 b2
    go_wp2_with fail
    refine (containsC_any (zs := L) (p := fun z => hldV n X u z.toNat) (I := fun w' => MapOK n X B w' ∧ Out B (B + 1) w3 w') (B := w3.heap.size) (Lib.hid rfl) HLN.out (fun w' hi => (HRW.out.out hi.2 (.inr (by omega))).rd') ⟨HM3.out, Out.refl⟩ (fun z hz w' hi => ?_)).mono ?_
    · obtain ⟨p, rfl, hp, hbit⟩ := HFR.out z hz
      have hfr := freU_less hp hbit
      refine (clC_any hH (HB1.out.out hi.2 (.inr (by omega))) (HB2.out.out hi.2 (.inr (by omega))) hu hp (by omega) hi.1).mono ?_
      rintro e w5 ⟨rfl, hm5, ho5⟩
      exact ⟨rfl, hm5, hi.2.trans ho5⟩
    · rintro e w4 ⟨rfl, hm4, ho4⟩
      rw [← HV.out]
      obtain ⟨w5, hst, hm5, ho5⟩ := hm4.store hu hc
      unfold tnV at hst
      have c11 := (HB1.out.out ho4 (.inr (by omega))).twelve.2.2.2.2.2.2.2.2.2.2.2
      obtain ⟨d0, d1⟩ := (HB2.out.out ho4 (.inr (by omega))).two
      have HM5 := Lib.hid hm5
      have o5 := (o3.trans ho4).trans ho5
      clear hm4 hm5
      go_wp2_with fail
      go_ret
      exact ⟨rfl, HM5.out, o5⟩
  · clear hm hm1
    unfold tnV at hlk
    go_enter Try.func75, Try.ntmps75
    go_wp2_with fail
    go_ret
    exact ⟨rfl, HM.out, Out.of_below hb1⟩
set_option maxHeartbeats 8000000 in
theorem hld_step (hC : CanS n X B d) : HldS n X B d := by
  intro u c w hu hc hd hm
  have hBw := hm.lt
  obtain ⟨W1, hW, b1, b2, hb1, hs1⟩ := two_blocks w (gmC n (rf n X) B) #[.int .u16 (u : Nat)] 73 67
  have HS := Lib.hid hs1
  have HM := Lib.hid (hm.new hb1)
  have HV := Lib.hid (hldV_step n X hu hc)
  have hv := or_lt10 hu hc
  have hor := or_bit (x := u) (Nat.lt_trans hu (by decide)) hc
  have hfl := rf_lt n X
  have e2 := b2.at_ (k := 0) (v := .int .u16 (u : Nat)) rfl
  have f2 := b2.free 0
  have i0 : (0 : Int) ≤ (c : Int) := by omega
  have i1 : (c : Int) < 10 := by omega
  have hmf : ∀ (fn : Fn) (first cap : Array Value) (w : World), (Instr.makeFunc fn first cap).run Try.prog w = .ok (.func fn first cap) w := fun _ _ _ _ => rfl
  have HB1 := Lib.hid b1
  have HB2 := Lib.hid b2
  clear hs1 hm b1 b2
  go_enter Try.func45, Try.ntmps45
  go_wp2_with fail
  go_region
  obtain ⟨v, hvv⟩ : ∃ v, v = u ||| 2 ^ c := ⟨_, rfl⟩
  rw [← hvv] at hv hd HV ⊢
  have b2s := (HB2.out.set 0 (.int .u16 (v : Nat))).drew_
  have b1s := (HB1.out.far (p := ⟨w.heap.size + 1, 0, none⟩) (by show w.heap.size ≠ w.heap.size + 1; omega) (.int .u16 (v : Nat))).drew_
  have hbs : Below w.heap.size w (W1.setCell ⟨w.heap.size + 1, 0, none⟩ (.int .u16 (v : Nat))).drew := (hb1.setCell (p := ⟨w.heap.size + 1, 0, none⟩) (by show w.heap.size ≤ w.heap.size + 1; omega) _).drew
  have hms : MapOK n X B (W1.setCell ⟨w.heap.size + 1, 0, none⟩ (.int .u16 (v : Nat))).drew := by
    obtain ⟨es, clock, h1, h2⟩ := HM.out
    exact ⟨es, clock, (Below.heap_setCell W1 ⟨w.heap.size + 1, 0, none⟩ (.int .u16 (v : Nat)) B (by show B ≠ w.heap.size + 1; omega)).trans h1, h2⟩
  have hzs : (W1.setCell ⟨w.heap.size + 1, 0, none⟩ (.int .u16 (v : Nat))).drew.heap.size = w.heap.size + 2 := by have := HS.out; show (W1.setCell ⟨w.heap.size + 1, 0, none⟩ (.int .u16 (v : Nat))).heap.size = w.heap.size + 2; simp [this]
  obtain ⟨W2, hW2⟩ : ∃ z : World, z = (W1.setCell ⟨w.heap.size + 1, 0, none⟩ (.int .u16 (v : Nat))).drew := ⟨_, rfl⟩
  rw [← hW2] at b1s b2s hbs hms hzs ⊢
  obtain ⟨c0, c1, c2, c3, c4, c5, c6, c7, c8, c9, c10, c11⟩ := b1s.twelve
  have HZ := Lib.hid hzs
  have HMS := Lib.hid hms
  have hx := Nat.lt_trans (atB_lt (rf n X) c 10 (Nat.le_refl _)) (show 1024 < 65536 by decide)
  have HTM := Lib.hid (fun (z : Int) (h : z ∈ lsT (atB (rf n X) c 10) 10) => (lsT_mem _ _ _).1 h)
  have HLN := Lib.hid (show (lsT (atB (rf n X) c 10) 10).length ≤ 1099511627776 by have := lsT_len (atB (rf n X) c 10) 10; omega)
  clear hvv hW2 hms hzs HB1 HB2 HM hW e2 f2 hor
  go_wp2_with fail
  refine (atkBits_any (n := n) (f := rf n X) (c := (c : Int)) hfl).mono ?_
  rintro e w3 ⟨rfl, hb3⟩
  obtain ⟨x, hxx⟩ : ∃ x, x = atB (rf n X) c 10 := ⟨_, rfl⟩
  rw [← hxx] at hx HV HTM HLN ⊢
  clear hxx
  go_wp2_with fail
  refine (list_any hx).mono ?_
  rintro e w4 ⟨vv, rfl, hrow, hb4⟩
  obtain ⟨L, hL⟩ : ∃ L, L = lsT x 10 := ⟨_, rfl⟩
  rw [← hL] at hrow HV HTM HLN
  obtain ⟨A3, k3, rfl, _, _, _⟩ := hrow.rd (n := L.length) (ivs_len L)
  have k4 := trans_new hb3 hb4
  have HB1 := Lib.hid (b1s.new k4)
  have HB2 := Lib.hid (b2s.new k4)
  have HM4 := Lib.hid (HMS.out.new k4)
  have o4 : Out B (B + 1) w w4 := (Out.of_below hbs).trans (Out.of_below k4)
  have HRW := Lib.hid hrow
  have hz2 := HZ.out
  have hz3 := hb3.size
  clear hL hrow c0 c1 c2 c3 c4 c5 c6 c7 c8 c9 c10 c11 b1s b2s hfl
  go_wp2_with fail
  refine (containsH_any (zs := L) (p := fun z => !(canV n X v z.toNat)) (I := fun w' => MapOK n X B w' ∧ Out B (B + 1) w4 w') (B := w4.heap.size) (Lib.hid rfl) HLN.out (fun w' hi => (HRW.out.out hi.2 (.inr (by omega))).rd') ⟨HM4.out, Out.refl⟩ (fun z hz w' hi => ?_)).mono ?_
  · obtain ⟨p, hp, _, rfl⟩ := HTM.out z hz
    refine (clH_any hC (HB1.out.out hi.2 (.inr (by omega))) (HB2.out.out hi.2 (.inr (by omega))) hv hp hd hi.1).mono ?_
    rintro e w5 ⟨rfl, hm5, ho5⟩
    exact ⟨rfl, hm5, hi.2.trans ho5⟩
  · rintro e w5 ⟨rfl, hm5, ho5⟩
    have HM5 := Lib.hid hm5
    have o5 := o4.trans ho5
    have HF := Lib.hid (show (!(L.any fun z => !(canV n X v z.toNat))) = hldV n X u c by rw [HV.out, List.not_any_eq_all_not]; simp)
    clear hm5
    go_wp2_with fail
    go_ret
    exact ⟨ret_b HF.out, HM5.out, o5⟩
/-- Both contracts, for every turn. -/
theorem game_all (n : Int) (X : List (List Int)) (B : Nat) : ∀ d, CanS n X B d ∧ HldS n X B d
  | 0 => ⟨fun _ _ _ _ _ hd => absurd hd (Nat.not_lt_zero _), fun _ _ _ _ _ hd => absurd hd (Nat.not_lt_zero _)⟩
  | d + 1 => by
    have h := can_step (game_all n X B d).2
    exact ⟨h, hld_step h⟩
theorem holds_any {n : Int} {X : List (List Int)} {B u c : Nat} {w : World} (hu : u < 1024) (hc : c < 10) (hm : MapOK n X B w) :
    Calls Try.prog 45 #[.agg (gmC n (rf n X) B), .int .u16 (u : Nat), .int .i64 (c : Nat)] w (Gives n X B (hldV n X u c) w) :=
  (game_all n X B 11).2 u c w hu hc (Nat.lt_succ_of_le (freU_le _)) hm
end
end Go.Proofs.Ytobghogkflgpeaa
