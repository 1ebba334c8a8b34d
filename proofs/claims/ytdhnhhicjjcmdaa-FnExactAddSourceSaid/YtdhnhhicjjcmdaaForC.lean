/- The code's forest of sources (chapter 26): its boxes (FR), contracts of find, root and forestOf. Condition: the slice has at most 2^40 elements. -/
import Derived.Test.YtdhnhhicjjcmdaaSrcMath
import Derived.Test.YtdhnhhicjjcmdaaHascS
import Derived.Test.YtdhnhhicjjcmdaaBxK
import Derived.Test.YtdhnhhicjjcmdaaOne
import Derived.Test.YtdhnhhicjjcmdaaDuo
import Derived.Deep.DeepCutAuto
namespace Go.Proofs.Ytdhnhhicjjcmdaa
open Go.ChangeShapes Go.WideShapes Go.ChangeAt Go.RowKit
set_option maxRecDepth 100000
theorem own_tyF {w : World} {lo n b : Nat} {t : TypeId} {v : Value} {xs : List Value} (h : w.ownsRow lo t 1 v n xs) (hb : v.ownBlock = some b) : ∃ cs, w.heap[b]? = some (.cells cs t (0, 0)) := by
  rcases h.2 with ⟨rfl, _⟩ | ⟨g, cap, cur, rfl, _, hg, _⟩
  · simp [Value.ownBlock] at hb
  · have : g = b := by simpa [Value.ownBlock] using hb
    subst this
    exact ⟨cur, hg⟩
/-- The blocks of a list of lists are none of a graph's own. -/
theorem alloc_f (w : World) (o : Obj) : Below w.heap.size w (w.alloc o) := (Below.refl _ _).alloc (Nat.le_refl _) _
def ptrV (o : Option Nat) : Value := .pointer (o.map fun b => ⟨b, 0, none⟩)
def pts (bs : List Nat) : List Value := bs.map fun b => .pointer (some ⟨b, 0, none⟩)
theorem pts_len (bs : List Nat) : (pts bs).length = bs.length := by simp [pts]
theorem pts_one {bs : List Nat} : ∀ u ∈ pts bs, u.oneCell' = true := by
  intro u hu
  obtain ⟨b, _, rfl⟩ := List.mem_map.1 hu
  rfl
theorem pts_at {w : World} {B : Nat} {A : Option Addr} {bs : List Nat} (h : Rd w B A (pts bs)) {k : Nat} (hk : k < bs.length) : ∃ ad, A = some ad ∧ ad.block < B ∧ w.cell? (ad.add k) = some (.pointer (some ⟨bs[k], 0, none⟩)) := by
  obtain ⟨ad, e, hb, hc⟩ := h.at_ (k := k) (by rw [pts_len]; exact hk)
  exact ⟨ad, e, hb, by simpa [pts] using hc⟩
/-- The boxes of the first sources of X. -/
def FR (w : World) (lo : Nat) (bs : List Nat) (X : List Src) : Prop := ∀ (k b : Nat) (x : Src), bs[k]? = some b → X[k]? = some x → lo ≤ b ∧ b < w.heap.size ∧ Bx w b 63 #[.int .i64 x.1, .int .i64 x.2.1, .int .i64 x.2.2.1, .bool x.2.2.2, ptrV ((parS X k).bind fun j => bs[j]?)]
theorem FR.new {w w' : World} {lo : Nat} {bs : List Nat} {X : List Src} (h : FR w lo bs X) (r : Below w.heap.size w w') : FR w' lo bs X := fun k b x hb hx => by
  obtain ⟨h1, h2, h3⟩ := h k b x hb hx
  exact ⟨h1, Nat.lt_of_lt_of_le h2 r.size, h3.new r⟩
theorem FR.keep {w w' : World} {lo : Nat} {bs : List Nat} {X : List Src} (h : FR w lo bs X) (hs : w.heap.size ≤ w'.heap.size) (hk : ∀ b cs, Bx w b 63 cs → w'.heap[b]? = w.heap[b]?) : FR w' lo bs X := fun k b x hb hx => by
  obtain ⟨h1, h2, h3⟩ := h k b x hb hx
  exact ⟨h1, Nat.lt_of_lt_of_le h2 hs, (hk b _ h3).trans h3⟩
theorem FR.nil {w : World} {lo : Nat} {X : List Src} : FR w lo [] X := fun k b x hb => by simp at hb
theorem FR.snoc {w : World} {lo g k : Nat} {bs : List Nat} {X : List Src} {x : Src} (h : FR w lo bs X) (hk : bs.length = k) (hx : X[k]? = some x) (hg : lo ≤ g) (hgs : g < w.heap.size)
    (bx : Bx w g 63 #[.int .i64 x.1, .int .i64 x.2.1, .int .i64 x.2.2.1, .bool x.2.2.2, ptrV ((parS X k).bind fun j => bs[j]?)]) : FR w lo (bs ++ [g]) X := fun i b y hb hy => by
  have key : ∀ i, i ≤ k → ((parS X i).bind fun j => (bs ++ [g])[j]?) = ((parS X i).bind fun j => bs[j]?) := fun i hi => by
    cases hp : parS X i with
    | none => rfl
    | some j =>
      have := par_lt hp
      simp only [Option.bind_some]
      rw [List.getElem?_append_left (by omega)]
  by_cases hik : i < bs.length
  · rw [List.getElem?_append_left hik] at hb
    rw [key i (by omega)]
    exact h i b y hb hy
  · rw [List.getElem?_append_right (by omega)] at hb
    have hi : i = k := by
      rcases Nat.lt_or_ge (i - bs.length) 1 with h1 | h1
      · omega
      · rw [List.getElem?_eq_none (by simpa using h1)] at hb; cases hb
    subst hi
    rw [hk, Nat.sub_self] at hb
    have : b = g := by simpa using hb.symm
    subst this
    rw [hx] at hy
    injection hy with hy
    subst hy
    rw [key i (Nat.le_refl _)]
    exact ⟨hg, hgs, bx⟩
/-- The boxes were made one after another. -/
def Inc (bs : List Nat) : Prop := ∀ (i j a b : Nat), i < j → bs[i]? = some a → bs[j]? = some b → a < b
theorem Inc.nil : Inc [] := fun i j a b _ h => by simp at h
theorem Inc.snoc {bs : List Nat} {g : Nat} (h : Inc bs) (hg : ∀ b ∈ bs, b < g) : Inc (bs ++ [g]) := fun i j a b hij ha hb => by
  have hj : j < (bs ++ [g]).length := (List.getElem?_eq_some_iff.1 hb).1
  rw [List.length_append, List.length_singleton] at hj
  rw [List.getElem?_append_left (by omega)] at ha
  by_cases hjb : j < bs.length
  · rw [List.getElem?_append_left hjb] at hb
    exact h i j a b hij ha hb
  · rw [List.getElem?_append_right (by omega), show j - bs.length = 0 by omega] at hb
    have : b = g := by simpa using hb.symm
    subst this
    exact hg a (List.mem_of_getElem? ha)
def blkOf : Value → Nat
  | .pointer (some a) => a.block
  | _ => 0
theorem Bx.k5 {w : World} {g : Nat} {t : TypeId} {a b c d f : Value} (h : Bx w g t #[a, b, c, d, f]) : w.cell? ⟨g, 0, none⟩ = some a ∧ w.cell? ⟨g, 1, none⟩ = some b ∧ w.cell? ⟨g, 2, none⟩ = some c ∧ w.cell? ⟨g, 3, none⟩ = some d ∧ w.cell? ⟨g, 4, none⟩ = some f := ⟨h.at_ (k := 0) rfl, h.at_ (k := 1) rfl, h.at_ (k := 2) rfl, h.at_ (k := 3) rfl, h.at_ (k := 4) rfl⟩
section
variable {w : World} {lo : Nat} {A : Option Addr} {n c : Nat} {bs : List Nat} {X : List Src}
set_option maxHeartbeats 2000000 in
theorem find_any {id : Int} (hl : Hid (bs.length = n)) (hn : n ≤ 1099511627776) (hX : n ≤ X.length) (hr : Rd w w.heap.size A (pts bs)) (hf : FR w lo bs X) :
    Calls Try.prog 44 #[.slice A n c, .int .i64 id] w (fun e w' => e = .returned (ptrV ((fndS (X.take n) id).bind fun j => bs[j]?)) ∧ w = w') := by
  have HF := Lib.hid hf
  clear hf
  go_enter Try.func44, Try.ntmps44
  go_wp2_with fail
  go_loopw [8] (fun i wr => ∃ k : Nat, k ≤ n ∧ i = .int .i64 k ∧ wr = w ∧ Hid (∀ x ∈ X.take k, x.1 ≠ id)) (fun i _ => n - (intOf i).toNat)
  case atStart => exact ⟨0, Nat.zero_le _, rfl, rfl, Lib.hid (fun x hx => by simp at hx)⟩
  case round =>
    obtain ⟨k, hk, rfl, rfl, hno⟩ := hrel
    by_cases hlt : k < n
    · have hkb : k < bs.length := by rw [hl.out]; exact hlt
      have hkx : k < X.length := by omega
      obtain ⟨ad, rfl, hab, hc⟩ := pts_at hr hkb
      obtain ⟨_, _, bx⟩ := HF.out k bs[k] X[k] (List.getElem?_eq_getElem hkb) (List.getElem?_eq_getElem hkx)
      obtain ⟨b0, _, _, _, _⟩ := bx.k5
      have HY := Lib.hid (show X[k].1 = id → ((fndS (X.take n) id).bind fun j => bs[j]?) = some bs[k] from fun he => by
        rw [fnd_some (X := X.take n) (k := k) (by rw [List.length_take]; omega) (fun x hx => by rw [List.take_take, Nat.min_eq_left (by omega)] at hx; exact hno.out x hx) (by simpa using he)]
        exact List.getElem?_eq_getElem hkb)
      have HN := Lib.hid (show X[k].1 ≠ id → ∀ x ∈ X.take (k + 1), x.1 ≠ id from fun he x hx => by
        rw [List.take_succ_eq_append_getElem hkx] at hx
        rcases List.mem_append.1 hx with h1 | h1
        · exact hno.out x h1
        · rw [List.mem_singleton.1 h1]; exact he)
      obtain ⟨b, hb⟩ : ∃ b, b = bs[k] := ⟨_, rfl⟩
      obtain ⟨y, hy⟩ : ∃ y, y = X[k].1 := ⟨_, rfl⟩
      rw [← hb] at hc b0 HY
      rw [← hy] at b0 HY HN
      have i0 : (0 : Int) ≤ (k : Int) := by omega
      have i1 : (k : Int) < (n : Int) := by omega
      clear bx hb hy
      by_cases he : y = id
      · have HV := Lib.hid (HY.out he)
        have he' : (y == id) = true := by simpa using he
        clear he
        go_wp2_with fail
        go_ret
        exact ⟨by rw [HV.out]; rfl, rfl⟩
      · have HV := Lib.hid (HN.out he)
        have he' : (y == id) = false := by simpa using he
        clear he
        go_wp2_with fail
        go_roundw
        case rel => exact ⟨k + 1, by omega, by go_num, trivial, HV⟩
        case measure => simp [intOf]; omega
    · have e : k = n := by omega
      subst e
      have HV := Lib.hid (fnd_none hno.out)
      go_wp2_with fail
      go_ret
      exact ⟨by rw [HV.out]; rfl, rfl⟩
set_option maxHeartbeats 2000000 in
theorem root_any {k : Nat} {b : Nat} (hX : bs.length ≤ X.length) (hb : Hid (bs[k]? = some b)) (hf : FR w lo bs X) (hi : Inc bs) :
    Calls Try.prog 45 #[.pointer (some ⟨b, 0, none⟩)] w (fun e w' => ∃ b', e = .returned (.pointer (some ⟨b', 0, none⟩)) ∧ bs[rootS X k]? = some b' ∧ w = w') := by
  have HF := Lib.hid hf
  have HI := Lib.hid hi
  clear hf hi
  go_enter Try.func45, Try.ntmps45
  go_wp2_with fail
  go_loopw [3] (fun t wr => ∃ j b2 : Nat, t = .pointer (some ⟨b2, 0, none⟩) ∧ Hid (bs[j]? = some b2) ∧ Hid (rootS X j = rootS X k) ∧ wr = w) (fun t _ => blkOf t)
  case atStart => exact ⟨k, b, rfl, hb, Lib.hid rfl, rfl⟩
  case round =>
    obtain ⟨j, b2, rfl, hj, hrt, rfl⟩ := hrel
    have hjb : j < bs.length := (List.getElem?_eq_some_iff.1 hj.out).1
    obtain ⟨_, _, bx⟩ := HF.out j b2 X[j] hj.out (List.getElem?_eq_getElem (by omega))
    cases hp : parS X j with
    | none =>
      rw [hp] at bx
      have bx' : Bx wr b2 63 #[.int .i64 X[j].1, .int .i64 X[j].2.1, .int .i64 X[j].2.2.1, .bool X[j].2.2.2, .pointer none] := bx
      obtain ⟨_, _, _, _, b4⟩ := bx'.k5
      have HV := Lib.hid (show bs[rootS X k]? = some b2 by rw [← hrt.out, root_none hp]; exact hj.out)
      clear bx bx' hp
      go_wp2_with fail
      go_ret
      exact ⟨b2, rfl, HV.out, rfl⟩
    | some i =>
      have hij := par_lt hp
      obtain ⟨b3, hb3⟩ : ∃ b3, bs[i]? = some b3 := ⟨_, List.getElem?_eq_getElem (show i < bs.length by omega)⟩
      rw [hp] at bx
      have bx' : Bx wr b2 63 #[.int .i64 X[j].1, .int .i64 X[j].2.1, .int .i64 X[j].2.2.1, .bool X[j].2.2.2, .pointer (some ⟨b3, 0, none⟩)] := by
        have e : ptrV ((some i).bind fun j => bs[j]?) = .pointer (some ⟨b3, 0, none⟩) := by simp [ptrV, hb3]
        rw [e] at bx
        exact bx
      obtain ⟨_, _, _, _, b4⟩ := bx'.k5
      have HV := Lib.hid (show rootS X i = rootS X k by rw [← hrt.out, root_some hp])
      have HB3 := Lib.hid hb3
      have hlt := HI.out i j b3 b2 hij hb3 hj.out
      clear bx bx' hp hb3
      go_wp2_with fail
      go_roundw
      case rel => exact ⟨i, b3, rfl, HB3, HV, trivial⟩
      case measure => simpa [blkOf] using hlt
theorem ptr_info : (Try.prog.info? 60).map (fun i => (i.zero, i.size, i.bytes)) = some (some (.pointer none), 1, 8) := by kernel_rfl
def Forest (X : List Src) (w : World) (e : Ending) (w' : World) : Prop := Below w.heap.size w w' ∧ ((srcB X = false ∧ e = .returned (.tuple #[.slice none 0 0, .bool false])) ∨
  (srcB X = true ∧ ∃ (v : Value) (bs : List Nat), e = .returned (.tuple #[v, .bool true]) ∧ bs.length = X.length ∧ Row w' w.heap.size w'.heap.size 60 v (pts bs) ∧ FR w' w.heap.size bs X ∧ Inc bs))
set_option maxHeartbeats 8000000 in
theorem forestOf_any (hl : Hid (X.length = n)) (hn : n ≤ 1099511627776) (hr : Rd w w.heap.size A (flE srcE X)) :
    Calls Try.prog 42 #[.slice A n c] w (Forest X w) := by
  have hud : ∀ b : Bool, (some undef = some (Value.bool b)) = False := fun b => by simp [undef]
  obtain ⟨ti, hti, hz0, hz1, hz2⟩ := info_parts ptr_info
  by_cases hbig : 15 < n
  · have HV := Lib.hid (src_big (X := X) (by rw [hl.out]; exact hbig))
    have i1 : decide ((15 : Int) < (n : Int)) = true := decide_eq_true (by omega)
    go_enter Try.func42, Try.ntmps42
    go_wp2_with fail
    go_ret2
    exact ⟨Below.refl _ _, .inl ⟨HV.out, rfl⟩⟩
  have i9 : decide ((15 : Int) < (n : Int)) = false := decide_eq_false (by omega)
  cases hasc : ascB (X.map (·.1)) with
  | false =>
    have HV := Lib.hid (src_noasc hasc)
    have HA := Lib.hid hasc
    clear hasc
    go_enter Try.func42, Try.ntmps42
    go_wp2_with fail
    refine (src_asc hl hn hr).mono ?_
    rintro e w1 ⟨rfl, hb⟩
    rw [HA.out]
    go_wp2_with fail
    go_ret2
    exact ⟨hb, .inl ⟨HV.out, rfl⟩⟩
  | true =>
    have HA := Lib.hid hasc
    clear hasc
    go_enter Try.func42, Try.ntmps42
    go_wp2_with fail
    refine (src_asc hl hn hr).mono ?_
    rintro e w1 ⟨rfl, hb1⟩
    rw [HA.out]
    have HROW0 := Lib.hid (((Row.made (w := w1) w1.heap.size #[] 0 60 (Nat.le_refl _) rfl (Nat.zero_le _)).wide hb1.size (hi' := (w1.alloc (Obj.cells #[] 60)).heap.size) (by simp)))
    have hb2 := hb1.trans ((alloc_f w1 (Obj.cells #[] 60)).mono hb1.size)
    clear hb1
    go_wp2_with fail
    go_loopw [4, 19] (fun v i wr => ∃ (k : Nat) (bs : List Nat), k ≤ n ∧ i = .int .i64 k ∧ Hid (bs.length = k) ∧ Hid (Row wr w.heap.size wr.heap.size 60 v (pts bs)) ∧ Hid (FR wr w.heap.size bs X ∧ Inc bs) ∧ Hid ((List.range k).all (srcAt X) = true) ∧ Below w.heap.size w wr) (fun _ i _ => n - (intOf i).toNat)
    case atStart => exact ⟨0, [], Nat.zero_le _, rfl, Lib.hid rfl, HROW0, Lib.hid ⟨FR.nil, Inc.nil⟩, Lib.hid rfl, hb2⟩
    case round =>
      obtain ⟨k, bs, hk, rfl, hbl, hrow, hfr, hall, hb⟩ := hrel
      clear hb2 HROW0
      by_cases hlt : k < n
      · have hkz : k < X.length := by rw [hl.out]; exact hlt
        obtain ⟨ad, p, rfl, hp, hab, h0, h1, h2, h3⟩ := src_cells ((hr.below hb).more hb.size) hkz
        have HAT := Lib.hid (show srcAt X k = (inr X[k].2.2.1 1 10 && (X[k].2.1 == 0 || (parS X k).isSome)) by unfold srcAt; rw [getS hkz])
        have HPK := Lib.hid (show fndS (X.take k) X[k].2.1 = parS X k by unfold parS; rw [getS hkz])
        have HXK := Lib.hid (List.getElem?_eq_getElem hkz)
        obtain ⟨x, hx⟩ : ∃ x, x = X[k] := ⟨_, rfl⟩
        rw [← hx] at h0 h1 h2 h3 HAT HPK HXK
        have i0 : (0 : Int) ≤ (k : Int) := by omega
        have i1 : (k : Int) < (n : Int) := by omega
        have hsz := hb.size
        have bx := Bx.made wr 40 #[.int .i64 x.1, .int .i64 x.2.1, .int .i64 x.2.2.1, .bool x.2.2.2]
        have bA := alloc_f wr (Obj.cells #[.int .i64 x.1, .int .i64 x.2.1, .int .i64 x.2.2.1, .bool x.2.2.2] 40)
        obtain ⟨W1, hW⟩ : ∃ W1, wr.alloc (Obj.cells #[.int .i64 x.1, .int .i64 x.2.1, .int .i64 x.2.2.1, .bool x.2.2.2] 40) = W1 := ⟨_, rfl⟩
        rw [hW] at bx bA
        obtain ⟨b0, b1, b2, b3⟩ := bx.k4
        have HW := Lib.hid hW
        have sA := bA.size
        have HB1 := Lib.hid (hb.trans (bA.mono hsz))
        have HRA := Lib.hid ((hrow.out.new bA).wide (Nat.le_refl _) sA)
        have HFA := Lib.hid (hfr.out.1.new bA)
        have HINC := Lib.hid hfr.out.2
        obtain ⟨Av, cv, rfl, hrdv, _, _⟩ := HRA.out.rd (n := k) (by rw [pts_len]; exact hbl.out)
        have HRD := Lib.hid hrdv
        have s1 := HB1.out.size
        obtain ⟨o, ho⟩ : ∃ o, ((parS X k).bind fun j => bs[j]?) = o := ⟨_, rfl⟩
        have HO := Lib.hid (show ((fndS (X.take k) x.2.1).bind fun j => bs[j]?) = o by rw [HPK.out]; exact ho)
        have HO2 := Lib.hid ho
        have HSO := Lib.hid (show (parS X k).isSome = o.isSome by
          rw [← ho]
          cases hq : parS X k with
          | none => rfl
          | some j =>
            have := par_lt hq
            simp only [Option.bind_some, Option.isSome_some]
            rw [List.getElem?_eq_getElem (by rw [hbl.out]; exact this)]
            rfl)
        have hbn : bs.length ≤ X.length := by rw [hbl.out]; omega
        clear hx hW bx bA hrdv ho
        cases hw : inr x.2.2.1 1 10 with
        | false =>
          have HV := Lib.hid (src_no hkz (by rw [HAT.out, hw]; rfl))
          have HWT := Lib.hid hw
          clear hw
          go_upto_region 8 with fail
          rw [HW.out]
          go_wp2_with fail
          refine (find_any (X := X) hbl (by omega) (by omega) HRD.out HFA.out).mono ?_
          rintro e u ⟨rfl, rfl⟩
          rw [HO.out]
          go_wp2_with fail
          refine (inRange_any _ _ _ _).mono ?_
          rintro e u ⟨rfl, rfl⟩
          rw [HWT.out]
          go_wp2_with fail
          go_ret2
          exact ⟨HB1.out, .inl ⟨HV.out, rfl⟩⟩
        | true =>
          have HWT := Lib.hid hw
          clear hw
          by_cases hz : x.2.1 = 0
          · have HZ := Lib.hid hz
            have e0 : (x.2.1 != 0) = false := by simpa using hz
            clear hz
            cases o with
            | none =>
              have HP := Lib.hid (src_snoc hall.out (show srcAt X k = true by rw [HAT.out, HWT.out]; rw [HZ.out]; rfl))
              have bB := alloc_f W1 (Obj.cells #[.int .i64 x.1, .int .i64 x.2.1, .int .i64 x.2.2.1, .bool x.2.2.2, .pointer none] 63)
              have bxB := Bx.made W1 63 #[.int .i64 x.1, .int .i64 x.2.1, .int .i64 x.2.2.1, .bool x.2.2.2, .pointer none]
              obtain ⟨W2, hW2⟩ : ∃ W2, W1.alloc (Obj.cells #[.int .i64 x.1, .int .i64 x.2.1, .int .i64 x.2.2.1, .bool x.2.2.2, .pointer none] 63) = W2 := ⟨_, rfl⟩
              have z2 : W2.heap.size = W1.heap.size + 1 := by rw [← hW2]; simp
              rw [hW2] at bB bxB
              have bC := alloc_f W2 (Obj.cells #[.pointer (some ⟨W1.heap.size, 0, none⟩)] 60)
              have HMADE := Lib.hid (show Rd _ _ (some ⟨W2.heap.size, 0, none⟩) (pts [W1.heap.size]) from Rd.made W2 #[.pointer (some ⟨W1.heap.size, 0, none⟩)] 60)
              obtain ⟨W3, hW3⟩ : ∃ W3, W2.alloc (Obj.cells #[.pointer (some ⟨W1.heap.size, 0, none⟩)] 60) = W3 := ⟨_, rfl⟩
              rw [hW3] at bC HMADE
              rw [z2] at HMADE
              have HWW := Lib.hid (show (W1.alloc (Obj.cells #[.int .i64 x.1, .int .i64 x.2.1, .int .i64 x.2.2.1, .bool x.2.2.2, .pointer none] 63)).alloc (Obj.cells #[.pointer (some ⟨W1.heap.size, 0, none⟩)] 60) = W3 by rw [hW2, hW3])
              have b12 := trans_new bB bC
              have HR3 := Lib.hid (HRA.out.new b12)
              have HF3 := Lib.hid (HFA.out.new b12)
              have HBX3 := Lib.hid (bxB.new bC)
              have HB3 := Lib.hid (HB1.out.trans (b12.mono s1))
              have s3 := b12.size
              have g3 : W1.heap.size < W3.heap.size := by have := bC.size; omega
              have L3 := Lib.hid (show (pts bs).length + 1 ≤ maxLen ∧ ((pts bs).length + 1) * 8 ≤ 140737488355328 by rw [pts_len, hbl.out]; unfold maxLen; omega)
              have hs3 : w.heap.size ≤ W3.heap.size := by omega
              clear bB bxB hW2 bC hW3 b12 z2
              go_upto_region 8 with fail
              rw [HW.out]
              go_wp2_with fail
              refine (find_any (X := X) hbl (by omega) (by omega) HRD.out HFA.out).mono ?_
              rintro e u ⟨rfl, rfl⟩
              rw [HO.out]
              rw [show ptrV none = .pointer none from rfl]
              go_wp2_with fail
              refine (inRange_any _ _ _ _).mono ?_
              rintro e u ⟨rfl, rfl⟩
              rw [HWT.out]
              go_wp2_with (rw [HWW.out]; at_builtin; (refine wpList_appD rfl (.tmp 43) (.tmp 48) 56 rfl 60 ti _ 8 Try.underlying56 hti hz0 hz1 hz2 rfl (v := .slice Av k cv) (ad := ⟨W1.heap.size + 1, 0, none⟩) (m := 1) (c := 1) rfl rfl HR3.out rfl HMADE.out pts_one L3.out.1 L3.out.2 hs3 ?_; intro v9 w9 hrow9 hsz9 hb9 hk9 ho9))
              rw [show pts bs ++ pts [W1.heap.size] = pts (bs ++ [W1.heap.size]) by simp [pts]] at hrow9
              have keep9 : ∀ b cs, Bx W3 b 63 cs → w9.heap[b]? = W3.heap[b]? := fun b cs hbx => hk9 b hbx.lt (fun hown => by
                obtain ⟨cs', hcs'⟩ := own_tyF HR3.out.1 hown
                have : some (Obj.cells cs 63 (0, 0)) = some (Obj.cells cs' 60 (0, 0)) := hbx.symm.trans hcs'
                simp at this)
              have HFR9 := Lib.hid (show FR w9 w.heap.size (bs ++ [W1.heap.size]) X ∧ Inc (bs ++ [W1.heap.size]) from ⟨(HF3.out.keep hsz9 keep9).snoc hbl.out HXK.out s1 (Nat.lt_of_lt_of_le g3 hsz9) (by rw [HO2.out]; exact (keep9 _ _ HBX3.out).trans HBX3.out), HINC.out.snoc (fun b hb => by
                obtain ⟨i, hi, rfl⟩ := List.getElem_of_mem hb
                exact (HFA.out i bs[i] X[i] (List.getElem?_eq_getElem hi) (List.getElem?_eq_getElem (by omega))).2.1)⟩)
              have hb10 := HB3.out.trans hb9
              have HROW9 := Lib.hid hrow9
              clear keep9 hk9 ho9 hrow9 hb9
              go_roundw
              case rel => exact ⟨k + 1, bs ++ [W1.heap.size], by omega, by go_num, Lib.hid (by rw [List.length_append, hbl.out]; rfl), HROW9, HFR9, HP, hb10⟩
              case measure => simp [intOf]; omega
            | some b =>
              have HP := Lib.hid (src_snoc hall.out (show srcAt X k = true by rw [HAT.out, HWT.out]; rw [HZ.out]; rfl))
              have bB := alloc_f W1 (Obj.cells #[.int .i64 x.1, .int .i64 x.2.1, .int .i64 x.2.2.1, .bool x.2.2.2, .pointer (some ⟨b, 0, none⟩)] 63)
              have bxB := Bx.made W1 63 #[.int .i64 x.1, .int .i64 x.2.1, .int .i64 x.2.2.1, .bool x.2.2.2, .pointer (some ⟨b, 0, none⟩)]
              obtain ⟨W2, hW2⟩ : ∃ W2, W1.alloc (Obj.cells #[.int .i64 x.1, .int .i64 x.2.1, .int .i64 x.2.2.1, .bool x.2.2.2, .pointer (some ⟨b, 0, none⟩)] 63) = W2 := ⟨_, rfl⟩
              have z2 : W2.heap.size = W1.heap.size + 1 := by rw [← hW2]; simp
              rw [hW2] at bB bxB
              have bC := alloc_f W2 (Obj.cells #[.pointer (some ⟨W1.heap.size, 0, none⟩)] 60)
              have HMADE := Lib.hid (show Rd _ _ (some ⟨W2.heap.size, 0, none⟩) (pts [W1.heap.size]) from Rd.made W2 #[.pointer (some ⟨W1.heap.size, 0, none⟩)] 60)
              obtain ⟨W3, hW3⟩ : ∃ W3, W2.alloc (Obj.cells #[.pointer (some ⟨W1.heap.size, 0, none⟩)] 60) = W3 := ⟨_, rfl⟩
              rw [hW3] at bC HMADE
              rw [z2] at HMADE
              have HWW := Lib.hid (show (W1.alloc (Obj.cells #[.int .i64 x.1, .int .i64 x.2.1, .int .i64 x.2.2.1, .bool x.2.2.2, .pointer (some ⟨b, 0, none⟩)] 63)).alloc (Obj.cells #[.pointer (some ⟨W1.heap.size, 0, none⟩)] 60) = W3 by rw [hW2, hW3])
              have b12 := trans_new bB bC
              have HR3 := Lib.hid (HRA.out.new b12)
              have HF3 := Lib.hid (HFA.out.new b12)
              have HBX3 := Lib.hid (bxB.new bC)
              have HB3 := Lib.hid (HB1.out.trans (b12.mono s1))
              have s3 := b12.size
              have g3 : W1.heap.size < W3.heap.size := by have := bC.size; omega
              have L3 := Lib.hid (show (pts bs).length + 1 ≤ maxLen ∧ ((pts bs).length + 1) * 8 ≤ 140737488355328 by rw [pts_len, hbl.out]; unfold maxLen; omega)
              have hs3 : w.heap.size ≤ W3.heap.size := by omega
              clear bB bxB hW2 bC hW3 b12 z2
              go_upto_region 8 with fail
              rw [HW.out]
              go_wp2_with fail
              refine (find_any (X := X) hbl (by omega) (by omega) HRD.out HFA.out).mono ?_
              rintro e u ⟨rfl, rfl⟩
              rw [HO.out]
              rw [show ptrV (some b) = .pointer (some ⟨b, 0, none⟩) from rfl]
              go_wp2_with fail
              refine (inRange_any _ _ _ _).mono ?_
              rintro e u ⟨rfl, rfl⟩
              rw [HWT.out]
              go_wp2_with (rw [HWW.out]; at_builtin; (refine wpList_appD rfl (.tmp 43) (.tmp 48) 56 rfl 60 ti _ 8 Try.underlying56 hti hz0 hz1 hz2 rfl (v := .slice Av k cv) (ad := ⟨W1.heap.size + 1, 0, none⟩) (m := 1) (c := 1) rfl rfl HR3.out rfl HMADE.out pts_one L3.out.1 L3.out.2 hs3 ?_; intro v9 w9 hrow9 hsz9 hb9 hk9 ho9))
              rw [show pts bs ++ pts [W1.heap.size] = pts (bs ++ [W1.heap.size]) by simp [pts]] at hrow9
              have keep9 : ∀ b cs, Bx W3 b 63 cs → w9.heap[b]? = W3.heap[b]? := fun b cs hbx => hk9 b hbx.lt (fun hown => by
                obtain ⟨cs', hcs'⟩ := own_tyF HR3.out.1 hown
                have : some (Obj.cells cs 63 (0, 0)) = some (Obj.cells cs' 60 (0, 0)) := hbx.symm.trans hcs'
                simp at this)
              have HFR9 := Lib.hid (show FR w9 w.heap.size (bs ++ [W1.heap.size]) X ∧ Inc (bs ++ [W1.heap.size]) from ⟨(HF3.out.keep hsz9 keep9).snoc hbl.out HXK.out s1 (Nat.lt_of_lt_of_le g3 hsz9) (by rw [HO2.out]; exact (keep9 _ _ HBX3.out).trans HBX3.out), HINC.out.snoc (fun b hb => by
                obtain ⟨i, hi, rfl⟩ := List.getElem_of_mem hb
                exact (HFA.out i bs[i] X[i] (List.getElem?_eq_getElem hi) (List.getElem?_eq_getElem (by omega))).2.1)⟩)
              have hb10 := HB3.out.trans hb9
              have HROW9 := Lib.hid hrow9
              clear keep9 hk9 ho9 hrow9 hb9
              go_roundw
              case rel => exact ⟨k + 1, bs ++ [W1.heap.size], by omega, by go_num, Lib.hid (by rw [List.length_append, hbl.out]; rfl), HROW9, HFR9, HP, hb10⟩
              case measure => simp [intOf]; omega
          · have e0 : (x.2.1 != 0) = true := by simpa using hz
            have e1 : (x.2.1 == 0) = false := by simpa using hz
            have HE1 := Lib.hid e1
            clear hz e1
            cases o with
            | none =>
              have HV := Lib.hid (src_no hkz (by rw [HAT.out, HWT.out, HE1.out, HSO.out]; rfl))
              go_upto_region 8 with fail
              rw [HW.out]
              go_wp2_with fail
              refine (find_any (X := X) hbl (by omega) (by omega) HRD.out HFA.out).mono ?_
              rintro e u ⟨rfl, rfl⟩
              rw [HO.out]
              rw [show ptrV none = .pointer none from rfl]
              go_wp2_with fail
              refine (inRange_any _ _ _ _).mono ?_
              rintro e u ⟨rfl, rfl⟩
              rw [HWT.out]
              go_wp2_with fail
              go_ret2
              exact ⟨HB1.out, .inl ⟨HV.out, rfl⟩⟩
            | some b =>
              have HP := Lib.hid (src_snoc hall.out (show srcAt X k = true by rw [HAT.out, HWT.out]; rw [HE1.out, HSO.out]; rfl))
              have bB := alloc_f W1 (Obj.cells #[.int .i64 x.1, .int .i64 x.2.1, .int .i64 x.2.2.1, .bool x.2.2.2, .pointer (some ⟨b, 0, none⟩)] 63)
              have bxB := Bx.made W1 63 #[.int .i64 x.1, .int .i64 x.2.1, .int .i64 x.2.2.1, .bool x.2.2.2, .pointer (some ⟨b, 0, none⟩)]
              obtain ⟨W2, hW2⟩ : ∃ W2, W1.alloc (Obj.cells #[.int .i64 x.1, .int .i64 x.2.1, .int .i64 x.2.2.1, .bool x.2.2.2, .pointer (some ⟨b, 0, none⟩)] 63) = W2 := ⟨_, rfl⟩
              have z2 : W2.heap.size = W1.heap.size + 1 := by rw [← hW2]; simp
              rw [hW2] at bB bxB
              have bC := alloc_f W2 (Obj.cells #[.pointer (some ⟨W1.heap.size, 0, none⟩)] 60)
              have HMADE := Lib.hid (show Rd _ _ (some ⟨W2.heap.size, 0, none⟩) (pts [W1.heap.size]) from Rd.made W2 #[.pointer (some ⟨W1.heap.size, 0, none⟩)] 60)
              obtain ⟨W3, hW3⟩ : ∃ W3, W2.alloc (Obj.cells #[.pointer (some ⟨W1.heap.size, 0, none⟩)] 60) = W3 := ⟨_, rfl⟩
              rw [hW3] at bC HMADE
              rw [z2] at HMADE
              have HWW := Lib.hid (show (W1.alloc (Obj.cells #[.int .i64 x.1, .int .i64 x.2.1, .int .i64 x.2.2.1, .bool x.2.2.2, .pointer (some ⟨b, 0, none⟩)] 63)).alloc (Obj.cells #[.pointer (some ⟨W1.heap.size, 0, none⟩)] 60) = W3 by rw [hW2, hW3])
              have b12 := trans_new bB bC
              have HR3 := Lib.hid (HRA.out.new b12)
              have HF3 := Lib.hid (HFA.out.new b12)
              have HBX3 := Lib.hid (bxB.new bC)
              have HB3 := Lib.hid (HB1.out.trans (b12.mono s1))
              have s3 := b12.size
              have g3 : W1.heap.size < W3.heap.size := by have := bC.size; omega
              have L3 := Lib.hid (show (pts bs).length + 1 ≤ maxLen ∧ ((pts bs).length + 1) * 8 ≤ 140737488355328 by rw [pts_len, hbl.out]; unfold maxLen; omega)
              have hs3 : w.heap.size ≤ W3.heap.size := by omega
              clear bB bxB hW2 bC hW3 b12 z2
              go_upto_region 8 with fail
              rw [HW.out]
              go_wp2_with fail
              refine (find_any (X := X) hbl (by omega) (by omega) HRD.out HFA.out).mono ?_
              rintro e u ⟨rfl, rfl⟩
              rw [HO.out]
              rw [show ptrV (some b) = .pointer (some ⟨b, 0, none⟩) from rfl]
              go_wp2_with fail
              refine (inRange_any _ _ _ _).mono ?_
              rintro e u ⟨rfl, rfl⟩
              rw [HWT.out]
              go_wp2_with (rw [HWW.out]; at_builtin; (refine wpList_appD rfl (.tmp 43) (.tmp 48) 56 rfl 60 ti _ 8 Try.underlying56 hti hz0 hz1 hz2 rfl (v := .slice Av k cv) (ad := ⟨W1.heap.size + 1, 0, none⟩) (m := 1) (c := 1) rfl rfl HR3.out rfl HMADE.out pts_one L3.out.1 L3.out.2 hs3 ?_; intro v9 w9 hrow9 hsz9 hb9 hk9 ho9))
              rw [show pts bs ++ pts [W1.heap.size] = pts (bs ++ [W1.heap.size]) by simp [pts]] at hrow9
              have keep9 : ∀ b cs, Bx W3 b 63 cs → w9.heap[b]? = W3.heap[b]? := fun b cs hbx => hk9 b hbx.lt (fun hown => by
                obtain ⟨cs', hcs'⟩ := own_tyF HR3.out.1 hown
                have : some (Obj.cells cs 63 (0, 0)) = some (Obj.cells cs' 60 (0, 0)) := hbx.symm.trans hcs'
                simp at this)
              have HFR9 := Lib.hid (show FR w9 w.heap.size (bs ++ [W1.heap.size]) X ∧ Inc (bs ++ [W1.heap.size]) from ⟨(HF3.out.keep hsz9 keep9).snoc hbl.out HXK.out s1 (Nat.lt_of_lt_of_le g3 hsz9) (by rw [HO2.out]; exact (keep9 _ _ HBX3.out).trans HBX3.out), HINC.out.snoc (fun b hb => by
                obtain ⟨i, hi, rfl⟩ := List.getElem_of_mem hb
                exact (HFA.out i bs[i] X[i] (List.getElem?_eq_getElem hi) (List.getElem?_eq_getElem (by omega))).2.1)⟩)
              have hb10 := HB3.out.trans hb9
              have HROW9 := Lib.hid hrow9
              clear keep9 hk9 ho9 hrow9 hb9
              go_roundw
              case rel => exact ⟨k + 1, bs ++ [W1.heap.size], by omega, by go_num, Lib.hid (by rw [List.length_append, hbl.out]; rfl), HROW9, HFR9, HP, hb10⟩
              case measure => simp [intOf]; omega
      · have e : k = n := by omega
        subst e
        have HV := Lib.hid (src_yes (X := X) (by rw [hl.out]; omega) HA.out (by rw [hl.out]; exact hall.out))
        go_wp2_with fail
        go_ret2
        exact ⟨hb, .inr ⟨HV.out, _, bs, rfl, by rw [hbl.out, hl.out], hrow.out, hfr.out.1, hfr.out.2⟩⟩
end
end Go.Proofs.Ytdhnhhicjjcmdaa
