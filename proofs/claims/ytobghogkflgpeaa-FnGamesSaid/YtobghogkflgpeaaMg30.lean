/- Contracts of slices.IndexFunc and slices.ContainsFunc over integers, for the two functions of the game, which may turn the world. Condition: the slice has at most 2^40 elements. -/
import Derived.Test.YtobghogkflgpeaaMg0
import Derived.Test.YtobghogkflgpeaaMg1
import Derived.Test.YtobghogkflgpeaaMg29
import Derived.Test.YtobghogkflgpeaaMg20
import Derived.Test.YtobghogkflgpeaaMg18
import Derived.Test.YtobghogkflgpeaaMg9
namespace Go.Proofs.Ytobghogkflgpeaa
open Go.ChangeShapes Go.WideShapes Go.ChangeAt Go.RowKit
set_option maxRecDepth 100000
set_option maxHeartbeats 2000000 in
theorem indexH_any {w : World} {B : Nat} {A : Option Addr} {n c : Nat} {zs : List Int} {p1 p2 : Value} {p : Int → Bool} {I : World → Prop} (hl : Hid (zs.length = n)) (hn : n ≤ 1099511627776) (hr : ∀ w', I w' → Rd w' B A (ivs zs)) (hI : I w)
    (hcall : ∀ z ∈ zs, ∀ w', I w' → Calls Try.prog 74 #[.int .i64 z, p1, p2] w' (fun e w'' => e = .returned (.bool (p z)) ∧ I w'')) :
    Calls Try.prog 88 #[.slice A n c, .func (.func 74) #[] #[p1, p2]] w (fun e w' => (∃ r, e = .returned (.int .i64 r) ∧ decide (0 ≤ r) = zs.any p) ∧ I w') := by
  have HI := Lib.hid hI
  have HR := Lib.hid hr
  have HC := Lib.hid hcall
  clear hI hr hcall
  go_enter Try.func88, Try.ntmps88
  go_wp2_with fail
  go_loopw [8] (fun i wr => ∃ k : Nat, k ≤ n ∧ i = .int .i64 k ∧ Hid (I wr) ∧ Hid ((zs.take k).any p = false)) (fun i _ => n - (intOf i).toNat)
  case atStart => exact ⟨0, Nat.zero_le _, rfl, HI, Lib.hid rfl⟩
  case round =>
    obtain ⟨k, hk, rfl, hi, hno⟩ := hrel
    by_cases hlt : k < n
    · have hkz : k < zs.length := by rw [hl.out]; exact hlt
      obtain ⟨ad, rfl, hab, hc⟩ := ivs_at (HR.out _ hi.out) hkz
      have HK := Lib.hid (HC.out zs[k] (List.getElem_mem hkz))
      have HT := Lib.hid (show (zs.take (k + 1)).any p = ((zs.take k).any p || p zs[k]) by rw [List.take_succ_eq_append_getElem hkz, List.any_append]; simp)
      have HY := Lib.hid (fun h : p zs[k] = true => show zs.any p = true from List.any_eq_true.2 ⟨_, List.getElem_mem hkz, h⟩)
      have i0 : (0 : Int) ≤ (k : Int) := by omega
      obtain ⟨x, hx⟩ : ∃ x, x = zs[k] := ⟨_, rfl⟩
      rw [← hx] at hc HK HT HY
      obtain ⟨b, hb⟩ : ∃ b, b = p x := ⟨_, rfl⟩
      rw [← hb] at HK HT HY
      clear hx hb
      go_wp2_with fail
      refine (HK.out _ hi.out).mono ?_
      rintro e w2 ⟨rfl, hi2⟩
      have HI2 := Lib.hid hi2
      clear hi2
      cases b with
      | true =>
        have HYY := Lib.hid (HY.out rfl)
        go_wp2_with fail
        go_ret
        exact ⟨⟨k, rfl, by rw [HYY.out]; exact decide_eq_true i0⟩, HI2.out⟩
      | false =>
        have HN := Lib.hid (show (zs.take (k + 1)).any p = false by rw [HT.out, hno.out]; rfl)
        go_wp2_with fail
        go_roundw
        case rel => exact ⟨k + 1, by omega, by go_num, HI2, HN⟩
        case measure => simp [intOf]; omega
    · have e : k = n := by omega
      subst e
      have HF := Lib.hid (show zs.any p = false by have := hno.out; rwa [List.take_of_length_le (by rw [hl.out]; exact Nat.le_refl _)] at this)
      go_wp2_with fail
      go_ret
      exact ⟨⟨-1, rfl, by rw [HF.out]; rfl⟩, hi.out⟩
theorem containsH_any {w : World} {B : Nat} {A : Option Addr} {n c : Nat} {zs : List Int} {p1 p2 : Value} {p : Int → Bool} {I : World → Prop} (hl : Hid (zs.length = n)) (hn : n ≤ 1099511627776) (hr : ∀ w', I w' → Rd w' B A (ivs zs)) (hI : I w)
    (hcall : ∀ z ∈ zs, ∀ w', I w' → Calls Try.prog 74 #[.int .i64 z, p1, p2] w' (fun e w'' => e = .returned (.bool (p z)) ∧ I w'')) :
    Calls Try.prog 73 #[.slice A n c, .func (.func 74) #[] #[p1, p2]] w (fun e w' => e = .returned (.bool (zs.any p)) ∧ I w') := by
  have HI := Lib.hid hI
  have HR := Lib.hid hr
  have HC := Lib.hid hcall
  clear hI hr hcall
  go_enter Try.func73, Try.ntmps73
  go_wp2_with fail
  refine (indexH_any hl hn HR.out HI.out HC.out).mono ?_
  rintro e w1 ⟨⟨r, rfl, hr2⟩, hi⟩
  have HR2 := Lib.hid hr2
  have HI2 := Lib.hid hi
  clear hr2 hi
  go_wp2_with fail
  go_ret
  exact ⟨ret_b HR2.out, HI2.out⟩
set_option maxHeartbeats 2000000 in
theorem indexC_any {w : World} {B : Nat} {A : Option Addr} {n c : Nat} {zs : List Int} {p1 p2 : Value} {p : Int → Bool} {I : World → Prop} (hl : Hid (zs.length = n)) (hn : n ≤ 1099511627776) (hr : ∀ w', I w' → Rd w' B A (ivs zs)) (hI : I w)
    (hcall : ∀ z ∈ zs, ∀ w', I w' → Calls Try.prog 89 #[.int .i64 z, p1, p2] w' (fun e w'' => e = .returned (.bool (p z)) ∧ I w'')) :
    Calls Try.prog 88 #[.slice A n c, .func (.func 89) #[] #[p1, p2]] w (fun e w' => (∃ r, e = .returned (.int .i64 r) ∧ decide (0 ≤ r) = zs.any p) ∧ I w') := by
  have HI := Lib.hid hI
  have HR := Lib.hid hr
  have HC := Lib.hid hcall
  clear hI hr hcall
  go_enter Try.func88, Try.ntmps88
  go_wp2_with fail
  go_loopw [8] (fun i wr => ∃ k : Nat, k ≤ n ∧ i = .int .i64 k ∧ Hid (I wr) ∧ Hid ((zs.take k).any p = false)) (fun i _ => n - (intOf i).toNat)
  case atStart => exact ⟨0, Nat.zero_le _, rfl, HI, Lib.hid rfl⟩
  case round =>
    obtain ⟨k, hk, rfl, hi, hno⟩ := hrel
    by_cases hlt : k < n
    · have hkz : k < zs.length := by rw [hl.out]; exact hlt
      obtain ⟨ad, rfl, hab, hc⟩ := ivs_at (HR.out _ hi.out) hkz
      have HK := Lib.hid (HC.out zs[k] (List.getElem_mem hkz))
      have HT := Lib.hid (show (zs.take (k + 1)).any p = ((zs.take k).any p || p zs[k]) by rw [List.take_succ_eq_append_getElem hkz, List.any_append]; simp)
      have HY := Lib.hid (fun h : p zs[k] = true => show zs.any p = true from List.any_eq_true.2 ⟨_, List.getElem_mem hkz, h⟩)
      have i0 : (0 : Int) ≤ (k : Int) := by omega
      obtain ⟨x, hx⟩ : ∃ x, x = zs[k] := ⟨_, rfl⟩
      rw [← hx] at hc HK HT HY
      obtain ⟨b, hb⟩ : ∃ b, b = p x := ⟨_, rfl⟩
      rw [← hb] at HK HT HY
      clear hx hb
      go_wp2_with fail
      refine (HK.out _ hi.out).mono ?_
      rintro e w2 ⟨rfl, hi2⟩
      have HI2 := Lib.hid hi2
      clear hi2
      cases b with
      | true =>
        have HYY := Lib.hid (HY.out rfl)
        go_wp2_with fail
        go_ret
        exact ⟨⟨k, rfl, by rw [HYY.out]; exact decide_eq_true i0⟩, HI2.out⟩
      | false =>
        have HN := Lib.hid (show (zs.take (k + 1)).any p = false by rw [HT.out, hno.out]; rfl)
        go_wp2_with fail
        go_roundw
        case rel => exact ⟨k + 1, by omega, by go_num, HI2, HN⟩
        case measure => simp [intOf]; omega
    · have e : k = n := by omega
      subst e
      have HF := Lib.hid (show zs.any p = false by have := hno.out; rwa [List.take_of_length_le (by rw [hl.out]; exact Nat.le_refl _)] at this)
      go_wp2_with fail
      go_ret
      exact ⟨⟨-1, rfl, by rw [HF.out]; rfl⟩, hi.out⟩
theorem containsC_any {w : World} {B : Nat} {A : Option Addr} {n c : Nat} {zs : List Int} {p1 p2 : Value} {p : Int → Bool} {I : World → Prop} (hl : Hid (zs.length = n)) (hn : n ≤ 1099511627776) (hr : ∀ w', I w' → Rd w' B A (ivs zs)) (hI : I w)
    (hcall : ∀ z ∈ zs, ∀ w', I w' → Calls Try.prog 89 #[.int .i64 z, p1, p2] w' (fun e w'' => e = .returned (.bool (p z)) ∧ I w'')) :
    Calls Try.prog 73 #[.slice A n c, .func (.func 89) #[] #[p1, p2]] w (fun e w' => e = .returned (.bool (zs.any p)) ∧ I w') := by
  have HI := Lib.hid hI
  have HR := Lib.hid hr
  have HC := Lib.hid hcall
  clear hI hr hcall
  go_enter Try.func73, Try.ntmps73
  go_wp2_with fail
  refine (indexC_any hl hn HR.out HI.out HC.out).mono ?_
  rintro e w1 ⟨⟨r, rfl, hr2⟩, hi⟩
  have HR2 := Lib.hid hr2
  have HI2 := Lib.hid hi
  clear hr2 hi
  go_wp2_with fail
  go_ret
  exact ⟨ret_b HR2.out, HI2.out⟩
end Go.Proofs.Ytobghogkflgpeaa

/- Contracts of the code's namesWithout and renamed. Conditions: at most 10 claims, rows below 2^16, names that are claims or none. -/
namespace Go.Proofs.Ytobghogkflgpeaa
open Go.ChangeShapes Go.WideShapes Go.ChangeAt Go.RowKit
set_option maxRecDepth 100000
/-- Ten names as cells. -/
def nmC (t : Nat → Int) : Array Value := #[.int .i64 (t 0), .int .i64 (t 1), .int .i64 (t 2), .int .i64 (t 3), .int .i64 (t 4), .int .i64 (t 5), .int .i64 (t 6), .int .i64 (t 7), .int .i64 (t 8), .int .i64 (t 9)]
theorem nmC_at (t : Nat → Int) {k : Nat} (hk : k < 10) : (nmC t)[k]? = some (.int .i64 (t k)) := by
  rcases lt10 hk with rfl | rfl | rfl | rfl | rfl | rfl | rfl | rfl | rfl | rfl <;> rfl
theorem nmC_lit : #[Value.int .i64 0, .int .i64 0, .int .i64 0, .int .i64 0, .int .i64 0, .int .i64 0, .int .i64 0, .int .i64 0, .int .i64 0, .int .i64 0] = nmC fun _ => 0 := rfl
theorem nmC_one (t : Nat → Int) : ∀ v ∈ (nmC t).toList, v.oneCell' = true := by simp [nmC, Value.oneCell']
theorem nmC_set (t : Nat → Int) {k : Nat} (hk : k < 10) : (nmC fun j => if j < k then t j else 0).setIfInBounds k (.int .i64 (t k)) = nmC fun j => if j < k + 1 then t j else 0 := by
  rcases lt10 hk with rfl | rfl | rfl | rfl | rfl | rfl | rfl | rfl | rfl | rfl <;> simp [nmC]
theorem nmC_all (t : Nat → Int) : nmC (fun j => if j < 10 then t j else 0) = nmC t := by simp [nmC]
section
variable {w : World} {ops : Array Oper} {rest : List Oper} {o : Oper} {a : Act} {Q : Exit → Act → World → Prop} {cs : Array Value}
end
theorem two_blocks (w : World) (c1 c2 : Array Value) (t1 t2 : TypeId) : ∃ W1 : World, (w.alloc (Obj.cells c1 t1)).alloc (Obj.cells c2 t2) = W1 ∧ Bx W1 w.heap.size t1 c1 ∧ Bx W1 (w.heap.size + 1) t2 c2 ∧ Below w.heap.size w W1 ∧ W1.heap.size = w.heap.size + 2 := by
  have a1 := (Bx.made w t1 c1).new (alloc_new _ (Obj.cells c2 t2))
  have a2 := Bx.made (w.alloc (Obj.cells c1 t1)) t2 c2
  exact ⟨_, rfl, a1, by simpa using a2, ((Below.refl _ _).alloc (Nat.le_refl _) _).alloc (by simp) _, by simp⟩
theorem setCell_out (w : World) (g k : Nat) (u : Value) : Out g (g + 1) w (w.setCell ⟨g, k, none⟩ u) :=
  ⟨rfl, rfl, rfl, by simp, fun j _ hj => Below.heap_setCell w ⟨g, k, none⟩ u j (by simp; omega)⟩
theorem three_blocks (w : World) (c1 c2 c3 : Array Value) (t1 t2 t3 : TypeId) : ∃ W1 : World, ((w.alloc (Obj.cells c1 t1)).alloc (Obj.cells c2 t2)).alloc (Obj.cells c3 t3) = W1 ∧ Bx W1 w.heap.size t1 c1 ∧ Bx W1 (w.heap.size + 1) t2 c2 ∧ Bx W1 (w.heap.size + 2) t3 c3 ∧ Below w.heap.size w W1 ∧ W1.heap.size = w.heap.size + 3 := by
  obtain ⟨W2, hW, b1, b2, hb, hs⟩ := two_blocks w c1 c2 t1 t2
  have a3 := Bx.made W2 t3 c3
  rw [hW]
  exact ⟨_, rfl, b1.new (alloc_new _ _), b2.new (alloc_new _ _), by rw [hs] at a3; exact a3, hb.alloc (by omega) _, by simp [hs]⟩
theorem rowL_take (f : Nat → Nat) (k : Nat) {j : Nat} {z : Int} (hj : j < (lsT (f k) 10).length) (hz : (lsT (f k) 10)[j] = z) : (rowL f k).take (j + 1) = (rowL f k).take j ++ [[(k : Int), z]] := by
  have h : j < (rowL f k).length := by unfold rowL; rw [List.length_map]; exact hj
  rw [List.take_succ_eq_append_getElem h]
  simp only [rowL, List.getElem_map, hz]
end Go.Proofs.Ytobghogkflgpeaa

/- Contracts of the code's game: holds and canAnswer, which call one another and keep what they find in a map. Condition: the map's entries are right. -/
namespace Go.Proofs.Ytobghogkflgpeaa
open Go.ChangeShapes Go.WideShapes Go.ChangeAt Go.RowKit
set_option maxRecDepth 100000
/-- A game as cells. -/
def gmC (n : Int) (f : Nat → Nat) (B : Nat) : Array Value := #[.int .i64 n, .int .u16 (f 0 : Nat), .int .u16 (f 1 : Nat), .int .u16 (f 2 : Nat), .int .u16 (f 3 : Nat), .int .u16 (f 4 : Nat), .int .u16 (f 5 : Nat), .int .u16 (f 6 : Nat), .int .u16 (f 7 : Nat), .int .u16 (f 8 : Nat), .int .u16 (f 9 : Nat), .map (some B)]
theorem GM_info : (Try.prog.info? 73).map (·.size) = some 12 := by kernel_rfl
theorem ldGM {w : World} {ops : Array Oper} {rest : List Oper} {o : Oper} {a : Act} {Q : Exit → Act → World → Prop} {cs : Array Value} (hgd : o.guard = none) (x : Operand) (ho : o.op = .load 73 x) {g : Nat} (h : Bx w g 73 cs) (hs : cs.size = 12) (hx : a.eval x = .pointer (some ⟨g, 0, none⟩)) (K : wpList Try.prog ops Q rest (a.put o.dst (.agg cs)) w) : wpList Try.prog ops Q (o :: rest) a w :=
  wpList_load_row hgd _ x ho g hx _ cs (0, 0) _ h Try.underlying73 rfl (by rw [GM_info, hs]) K
theorem Bx.twelve {w : World} {g : Nat} {t : TypeId} {n : Int} {f : Nat → Nat} {B : Nat} (h : Bx w g t (gmC n f B)) :
    w.cell? ⟨g, 0, none⟩ = some (.int .i64 n) ∧ w.cell? ⟨g, 1, none⟩ = some (.int .u16 (f 0 : Nat)) ∧ w.cell? ⟨g, 2, none⟩ = some (.int .u16 (f 1 : Nat)) ∧ w.cell? ⟨g, 3, none⟩ = some (.int .u16 (f 2 : Nat)) ∧ w.cell? ⟨g, 4, none⟩ = some (.int .u16 (f 3 : Nat)) ∧ w.cell? ⟨g, 5, none⟩ = some (.int .u16 (f 4 : Nat)) ∧ w.cell? ⟨g, 6, none⟩ = some (.int .u16 (f 5 : Nat)) ∧ w.cell? ⟨g, 7, none⟩ = some (.int .u16 (f 6 : Nat)) ∧ w.cell? ⟨g, 8, none⟩ = some (.int .u16 (f 7 : Nat)) ∧ w.cell? ⟨g, 9, none⟩ = some (.int .u16 (f 8 : Nat)) ∧ w.cell? ⟨g, 10, none⟩ = some (.int .u16 (f 9 : Nat)) ∧ w.cell? ⟨g, 11, none⟩ = some (.map (some B)) :=
  ⟨h.at_ (k := 0) rfl, h.at_ (k := 1) rfl, h.at_ (k := 2) rfl, h.at_ (k := 3) rfl, h.at_ (k := 4) rfl, h.at_ (k := 5) rfl, h.at_ (k := 6) rfl, h.at_ (k := 7) rfl, h.at_ (k := 8) rfl, h.at_ (k := 9) rfl, h.at_ (k := 10) rfl, h.at_ (k := 11) rfl⟩
/-- What both give: the answer, and a map that is still right. -/
def Gives (N : Int) (X : List (List Int)) (B : Nat) (b : Bool) (w : World) (e : Ending) (w' : World) : Prop := e = .returned (.bool b) ∧ MapOK N X B w' ∧ Out B (B + 1) w w'
def HldS (n : Int) (X : List (List Int)) (B d : Nat) : Prop := ∀ (u c : Nat) (w : World), u < 1024 → c < 10 → freU (u ||| 2 ^ c) < d → MapOK n X B w →
  Calls Try.prog 45 #[.agg (gmC n (rf n X) B), .int .u16 (u : Nat), .int .i64 (c : Nat)] w (Gives n X B (hldV n X u c) w)
def CanS (n : Int) (X : List (List Int)) (B d : Nat) : Prop := ∀ (u c : Nat) (w : World), u < 1024 → c < 10 → freU u < d → MapOK n X B w →
  Calls Try.prog 75 #[.agg (gmC n (rf n X) B), .agg #[.int .u16 (u : Nat), .int .i64 (c : Nat)]] w (Gives n X B (canV n X u c) w)
section
variable {n : Int} {X : List (List Int)} {B d : Nat}
set_option maxHeartbeats 4000000 in
theorem clH_any (hC : CanS n X B d) {w : World} {g1 g2 v p : Nat} (h1 : Bx w g1 73 (gmC n (rf n X) B)) (h2 : Bx w g2 67 #[.int .u16 (v : Nat)]) (hv : v < 1024) (hp : p < 10) (hd : freU v < d) (hm : MapOK n X B w) :
    Calls Try.prog 74 #[.int .i64 (p : Nat), .pointer (some ⟨g1, 0, none⟩), .pointer (some ⟨g2, 0, none⟩)] w (Gives n X B (!(canV n X v p)) w) := by
  have HK := Lib.hid (hC v p w hv hp hd hm)
  have e2 := h2.at_ (k := 0) (v := .int .u16 (v : Nat)) rfl
  clear hC hm hd
  go_enter Try.func74, Try.ntmps74
  go_wp2_with (refine ldGM rfl (.tmp 1) rfl h1 rfl rfl ?_)
  refine HK.out.mono ?_
  rintro e w2 ⟨rfl, hm, ho⟩
  have HM := Lib.hid hm
  clear hm
  go_wp2_with fail
  go_ret
  exact ⟨rfl, HM.out, ho⟩
set_option maxHeartbeats 4000000 in
theorem clC_any (hH : HldS n X B d) {w : World} {g1 g2 u c p : Nat} (h1 : Bx w g1 73 (gmC n (rf n X) B)) (h2 : Bx w g2 87 #[.int .u16 (u : Nat), .int .i64 (c : Nat)]) (hu : u < 1024) (hp : p < 10) (hd : freU (u ||| 2 ^ p) < d) (hm : MapOK n X B w) :
    Calls Try.prog 89 #[.int .i64 (p : Nat), .pointer (some ⟨g1, 0, none⟩), .pointer (some ⟨g2, 0, none⟩)] w (Gives n X B (hldV n X u p) w) := by
  have HK := Lib.hid (hH u p w hu hp hd hm)
  obtain ⟨e2, _⟩ := h2.two
  clear hH hm hd
  go_enter Try.func89, Try.ntmps89
  go_wp2_with (refine ldGM rfl (.tmp 1) rfl h1 rfl rfl ?_)
  refine HK.out.mono ?_
  rintro e w2 ⟨rfl, hm, ho⟩
  have HM := Lib.hid hm
  clear hm
  go_wp2_with fail
  go_ret
  exact ⟨rfl, HM.out, ho⟩
set_option maxHeartbeats 8000000 in
theorem can_step (hH : HldS n X B d) : CanS n X B (d + 1) := by
  intro u c w hu hc hd hm
  have hBw := hm.lt
  obtain ⟨W1, hW, b1, b2, hb1, hs1⟩ := two_blocks w (gmC n (rf n X) B) #[.int .u16 (u : Nat), .int .i64 (c : Nat)] 73 87
  have hm1 := hm.new hb1
  obtain ⟨c0, c1, c2, c3, c4, c5, c6, c7, c8, c9, c10, c11⟩ := b1.twelve
  obtain ⟨d0, d1⟩ := b2.two
  have HS := Lib.hid hs1
  have HM := Lib.hid hm1
  clear hs1
  rcases hm1.look hu hc with hlk | hlk
  · clear hm hm1
    unfold tnV at hlk
    have hfl := rf_lt n X
    have HV : Hid (canV n X u c = (lsT (anB (atB (rf n X) c 10) u) 10).any fun z => hldV n X u z.toNat) := Lib.hid rfl
    have HFR := Lib.hid (fun (z : Int) (h : z ∈ lsT (anB (atB (rf n X) c 10) u) 10) => ans_free (N := n) (X := X) (c := c) hu h)
    have HLN := Lib.hid (show (lsT (anB (atB (rf n X) c 10) u) 10).length ≤ 1099511627776 by have := lsT_len (anB (atB (rf n X) c 10) u) 10; omega)
    have hmf : ∀ (fn : Fn) (first cap : Array Value) (w : World), (Instr.makeFunc fn first cap).run Try.prog w = .ok (.func fn first cap) w := fun _ _ _ _ => rfl
    go_enter Try.func75, Try.ntmps75
    go_wp2_with fail
    refine (answers_any (n := n) (f := rf n X) (c := (c : Int)) hfl (Nat.lt_trans hu (by decide))).mono ?_
    rintro e w3 ⟨v, rfl, hrow, hb3⟩
    obtain ⟨L, hL⟩ : ∃ L, L = lsT (anB (atB (rf n X) c 10) u) 10 := ⟨_, rfl⟩
    rw [← hL] at hrow HV HFR HLN
    obtain ⟨A3, k3, rfl, _, _, _⟩ := hrow.rd (n := L.length) (ivs_len L)
    have b13 := b1.new hb3
    have b23 := b2.new hb3
    have hm3 := HM.out.new hb3
    have o3 : Out B (B + 1) w w3 := (Out.of_below hb1).trans (Out.of_below hb3)
    have hs1 := HS.out
    have hz3 := hb3.size
    have HB1 := Lib.hid b13
    have HB2 := Lib.hid b23
    have HM3 := Lib.hid hm3
    have HRW := Lib.hid hrow
    have HL1 := Lib.hid (show B + 1 ≤ w.heap.size from hBw)
    clear hL c0 c1 c2 c3 c4 c5 c6 c7 c8 c9 c10 c11 d0 d1 hlk hm3 hrow b13 b23 hfl b1 b2
    go_wp2_with fail
    refine (containsC_any (zs := L) (p := fun z => hldV n X u z.toNat) (I := fun w' => MapOK n X B w' ∧ Out B (B + 1) w3 w') (B := w3.heap.size) (Lib.hid rfl) HLN.out (fun w' hi => (HRW.out.out hi.2 (.inr (by omega))).rd') ⟨HM3.out, Out.refl⟩ (fun z hz w' hi => ?_)).mono ?_
    · obtain ⟨p, rfl, hp, hbit⟩ := HFR.out z hz
      have hfr := freU_less hp hbit
      refine (clC_any hH (HB1.out.out hi.2 (.inr (by omega))) (HB2.out.out hi.2 (.inr (by omega))) hu hp (by omega) hi.1).mono ?_
      rintro e w5 ⟨rfl, hm5, ho5⟩
      exact ⟨rfl, hm5, hi.2.trans ho5⟩
    · rintro e w4 ⟨rfl, hm4, ho4⟩
      rw [← HV.out]
      obtain ⟨w5, hst, hm5, ho5⟩ := hm4.store hu hc
      unfold tnV at hst
      have c11 := (HB1.out.out ho4 (.inr (by omega))).twelve.2.2.2.2.2.2.2.2.2.2.2
      obtain ⟨d0, d1⟩ := (HB2.out.out ho4 (.inr (by omega))).two
      have HM5 := Lib.hid hm5
      have o5 := (o3.trans ho4).trans ho5
      clear hm4 hm5
      go_wp2_with fail
      go_ret
      exact ⟨rfl, HM5.out, o5⟩
  · clear hm hm1
    unfold tnV at hlk
    go_enter Try.func75, Try.ntmps75
    go_wp2_with fail
    go_ret
    exact ⟨rfl, HM.out, Out.of_below hb1⟩
set_option maxHeartbeats 8000000 in
theorem hld_step (hC : CanS n X B d) : HldS n X B d := by
  intro u c w hu hc hd hm
  have hBw := hm.lt
  obtain ⟨W1, hW, b1, b2, hb1, hs1⟩ := two_blocks w (gmC n (rf n X) B) #[.int .u16 (u : Nat)] 73 67
  have HS := Lib.hid hs1
  have HM := Lib.hid (hm.new hb1)
  have HV := Lib.hid (hldV_step n X hu hc)
  have hv := or_lt10 hu hc
  have hor := or_bit (x := u) (Nat.lt_trans hu (by decide)) hc
  have hfl := rf_lt n X
  have e2 := b2.at_ (k := 0) (v := .int .u16 (u : Nat)) rfl
  have f2 := b2.free 0
  have i0 : (0 : Int) ≤ (c : Int) := by omega
  have i1 : (c : Int) < 10 := by omega
  have hmf : ∀ (fn : Fn) (first cap : Array Value) (w : World), (Instr.makeFunc fn first cap).run Try.prog w = .ok (.func fn first cap) w := fun _ _ _ _ => rfl
  have HB1 := Lib.hid b1
  have HB2 := Lib.hid b2
  clear hs1 hm b1 b2
  go_enter Try.func45, Try.ntmps45
  go_wp2_with fail
  go_region
  obtain ⟨v, hvv⟩ : ∃ v, v = u ||| 2 ^ c := ⟨_, rfl⟩
  rw [← hvv] at hv hd HV ⊢
  have b2s := (HB2.out.set 0 (.int .u16 (v : Nat))).drew_
  have b1s := (HB1.out.far (p := ⟨w.heap.size + 1, 0, none⟩) (by show w.heap.size ≠ w.heap.size + 1; omega) (.int .u16 (v : Nat))).drew_
  have hbs : Below w.heap.size w (W1.setCell ⟨w.heap.size + 1, 0, none⟩ (.int .u16 (v : Nat))).drew := (hb1.setCell (p := ⟨w.heap.size + 1, 0, none⟩) (by show w.heap.size ≤ w.heap.size + 1; omega) _).drew
  have hms : MapOK n X B (W1.setCell ⟨w.heap.size + 1, 0, none⟩ (.int .u16 (v : Nat))).drew := by
    obtain ⟨es, clock, h1, h2⟩ := HM.out
    exact ⟨es, clock, (Below.heap_setCell W1 ⟨w.heap.size + 1, 0, none⟩ (.int .u16 (v : Nat)) B (by show B ≠ w.heap.size + 1; omega)).trans h1, h2⟩
  have hzs : (W1.setCell ⟨w.heap.size + 1, 0, none⟩ (.int .u16 (v : Nat))).drew.heap.size = w.heap.size + 2 := by have := HS.out; show (W1.setCell ⟨w.heap.size + 1, 0, none⟩ (.int .u16 (v : Nat))).heap.size = w.heap.size + 2; simp [this]
  obtain ⟨W2, hW2⟩ : ∃ z : World, z = (W1.setCell ⟨w.heap.size + 1, 0, none⟩ (.int .u16 (v : Nat))).drew := ⟨_, rfl⟩
  rw [← hW2] at b1s b2s hbs hms hzs ⊢
  obtain ⟨c0, c1, c2, c3, c4, c5, c6, c7, c8, c9, c10, c11⟩ := b1s.twelve
  have HZ := Lib.hid hzs
  have HMS := Lib.hid hms
  have hx := Nat.lt_trans (atB_lt (rf n X) c 10 (Nat.le_refl _)) (show 1024 < 65536 by decide)
  have HTM := Lib.hid (fun (z : Int) (h : z ∈ lsT (atB (rf n X) c 10) 10) => (lsT_mem _ _ _).1 h)
  have HLN := Lib.hid (show (lsT (atB (rf n X) c 10) 10).length ≤ 1099511627776 by have := lsT_len (atB (rf n X) c 10) 10; omega)
  clear hvv hW2 hms hzs HB1 HB2 HM hW e2 f2 hor
  go_wp2_with fail
  refine (atkBits_any (n := n) (f := rf n X) (c := (c : Int)) hfl).mono ?_
  rintro e w3 ⟨rfl, hb3⟩
  obtain ⟨x, hxx⟩ : ∃ x, x = atB (rf n X) c 10 := ⟨_, rfl⟩
  rw [← hxx] at hx HV HTM HLN ⊢
  clear hxx
  go_wp2_with fail
  refine (list_any hx).mono ?_
  rintro e w4 ⟨vv, rfl, hrow, hb4⟩
  obtain ⟨L, hL⟩ : ∃ L, L = lsT x 10 := ⟨_, rfl⟩
  rw [← hL] at hrow HV HTM HLN
  obtain ⟨A3, k3, rfl, _, _, _⟩ := hrow.rd (n := L.length) (ivs_len L)
  have k4 := trans_new hb3 hb4
  have HB1 := Lib.hid (b1s.new k4)
  have HB2 := Lib.hid (b2s.new k4)
  have HM4 := Lib.hid (HMS.out.new k4)
  have o4 : Out B (B + 1) w w4 := (Out.of_below hbs).trans (Out.of_below k4)
  have HRW := Lib.hid hrow
  have hz2 := HZ.out
  have hz3 := hb3.size
  clear hL hrow c0 c1 c2 c3 c4 c5 c6 c7 c8 c9 c10 c11 b1s b2s hfl
  go_wp2_with fail
  refine (containsH_any (zs := L) (p := fun z => !(canV n X v z.toNat)) (I := fun w' => MapOK n X B w' ∧ Out B (B + 1) w4 w') (B := w4.heap.size) (Lib.hid rfl) HLN.out (fun w' hi => (HRW.out.out hi.2 (.inr (by omega))).rd') ⟨HM4.out, Out.refl⟩ (fun z hz w' hi => ?_)).mono ?_
  · obtain ⟨p, hp, _, rfl⟩ := HTM.out z hz
    refine (clH_any hC (HB1.out.out hi.2 (.inr (by omega))) (HB2.out.out hi.2 (.inr (by omega))) hv hp hd hi.1).mono ?_
    rintro e w5 ⟨rfl, hm5, ho5⟩
    exact ⟨rfl, hm5, hi.2.trans ho5⟩
  · rintro e w5 ⟨rfl, hm5, ho5⟩
    have HM5 := Lib.hid hm5
    have o5 := o4.trans ho5
    have HF := Lib.hid (show (!(L.any fun z => !(canV n X v z.toNat))) = hldV n X u c by rw [HV.out, List.not_any_eq_all_not]; simp)
    clear hm5
    go_wp2_with fail
    go_ret
    exact ⟨ret_b HF.out, HM5.out, o5⟩
/-- Both contracts, for every turn. -/
theorem game_all (n : Int) (X : List (List Int)) (B : Nat) : ∀ d, CanS n X B d ∧ HldS n X B d
  | 0 => ⟨fun _ _ _ _ _ hd => absurd hd (Nat.not_lt_zero _), fun _ _ _ _ _ hd => absurd hd (Nat.not_lt_zero _)⟩
  | d + 1 => by
    have h := can_step (game_all n X B d).2
    exact ⟨h, hld_step h⟩
theorem holds_any {n : Int} {X : List (List Int)} {B u c : Nat} {w : World} (hu : u < 1024) (hc : c < 10) (hm : MapOK n X B w) :
    Calls Try.prog 45 #[.agg (gmC n (rf n X) B), .int .u16 (u : Nat), .int .i64 (c : Nat)] w (Gives n X B (hldV n X u c) w) :=
  (game_all n X B 11).2 u c w hu hc (Nat.lt_succ_of_le (freU_le _)) hm
end
end Go.Proofs.Ytobghogkflgpeaa
