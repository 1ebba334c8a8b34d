/- Contracts of DecodeInts (its closure among them) and of its model. No conditions but that each byte lies in 0 to 255 and that the slice has at most 2^45 elements. -/
import Derived.Test.YtmjnlhejdjkoaaaEnc
namespace Go.Proofs.Ytmjnlhejdjkoaaa
open Go.ChangeShapes Go.WideShapes Go.ChangeAt Go.RowKit
theorem ivs_snoc (zs : List Int) (x : Int) : ivs zs ++ [Value.int .i64 x] = ivs (zs ++ [x]) := by simp [ivs]
/-- What DecodeInts answers. -/
def deAt (zs : List Int) (o n : Int) : Option (List Int × Int) := if (0 ≤ n ∧ n ≤ 100) ∧ (0 ≤ o ∧ o ≤ zs.length) then decAt zs n.toNat o else none
theorem deAt_len {zs ys : List Int} {o n r : Int} (h : deAt zs o n = some (ys, r)) : ys.length ≤ 100 := by
  unfold deAt at h
  split at h
  · rename_i h1
    have := decAt_len _ _ _ _ _ h
    omega
  · cases h
def DecP (R : Option (List Int × Int)) (w : World) (e : Ending) (w' : World) : Prop :=
  match R with
  | none => Fresh3 3 (ivs []) (.int .i64 0) (.bool false) w e w'
  | some (l, o) => Fresh3 3 (ivs l) (.int .i64 o) (.bool true) w e w'
theorem DecP.no {R : Option (List Int × Int)} {w w' : World} (h : R = none) (hb : Below w.heap.size w w') {cs : Array Value} (hcs : cs = #[]) : DecP R w (.returned (.tuple #[.slice (some ⟨w'.heap.size, 0, none⟩) 0 0, .int .i64 0, .bool false])) (w'.alloc (.cells cs 3)) := by
  subst h
  exact Fresh3.nil hb hcs
theorem DecP.no' {R : Option (List Int × Int)} {w w' : World} {G : Nat} (h : R = none) (hb : Below w.heap.size w w') (hG : w'.heap.size = G) : DecP R w (.returned (.tuple #[.slice (some ⟨G, 0, none⟩) 0 0, .int .i64 0, .bool false])) (w'.alloc (.cells #[] 3)) := by
  subst hG
  exact DecP.no h hb rfl
theorem DecP.yes {R : Option (List Int × Int)} {w w' : World} {l : List Int} {o : Int} {v : Value} (h : R = some (l, o)) (hr : Row w' w.heap.size w'.heap.size 3 v (ivs l)) (hb : Below w.heap.size w w') : DecP R w (.returned (.tuple #[v, .int .i64 o, .bool true])) w' := by
  subst h
  exact ⟨v, rfl, hr, hb⟩
theorem decOff {zs : List Int} {o m : Int} {j : Nat} (hz : ∀ x ∈ zs, 0 ≤ x ∧ x ≤ 255) (h : rvAt zs o = some (m, j)) : 0 ≤ o ∧ o + j ≤ zs.length ∧ 0 ≤ m ∧ m ≤ 1000000000000 := by
  obtain ⟨h1, _, h3, h4, h5, _, _⟩ := uvr_rvAt zs o m j hz h
  exact ⟨h1, by omega, h4, h5⟩
set_option maxHeartbeats 1600000 in
theorem specDecodeInts_any {w : World} {A : Option Addr} {n c : Nat} {zs : List Int} {o q : Int} {R : Option (List Int × Int)} (hl : Hid (zs.length = n)) (hn : n ≤ 35184372088832) (hr : Rd w w.heap.size A (bvs zs)) (hb : ∀ x ∈ zs, 0 ≤ x ∧ x ≤ 255) (hR : Hid (deAt zs o q = R)) :
    Calls Try.prog 37 #[.slice A n c, .int .i64 o, .int .i64 q] w (DecP R w) := by
  obtain ⟨i0, hi, hz0, hz1, hz2⟩ := info_parts IntS_info
  have hR2 := hR.out
  unfold deAt at hR2
  rw [hl.out] at hR2
  have hrow0 := Row.made (w := w) w.heap.size #[] 0 3 (Nat.le_refl _) rfl (Nat.zero_le _)
  have hb0 : Below w.heap.size w (w.alloc (Obj.cells #[] 3)) := (Below.refl _ _).alloc (Nat.le_refl _) _
  by_cases h1 : 0 ≤ q ∧ q ≤ 100
  · by_cases h2 : 0 ≤ o ∧ o ≤ (n : Int)
    · rw [if_pos ⟨h1, h2⟩] at hR2
      have e1 := inr_t h1.1 h1.2
      have e2 := inr_t h2.1 h2.2
      obtain ⟨N, rfl⟩ := Int.eq_ofNat_of_zero_le h1.1
      obtain ⟨_, h1⟩ := h1
      obtain ⟨h2, h3⟩ := h2
      have HR : Hid (pre [] (decAt zs (N - 0) o) = R) := Lib.hid (by rw [← hR2, pre_nil]; rfl)
      clear hR2 hR
      go_enter Try.func37, Try.ntmps37
      go_wp2_with (first
        | (go_at_call 53; refine (l1In_any _ _ _ _).mono ?_; rintro e w9 ⟨rfl, rfl⟩))
      go_loopw [1, 9, 10] (fun at_ b i wr => ∃ (k : Nat) (p : Int) (done : List Int), k ≤ N ∧ i = .int .i64 k ∧ at_ = .int .i64 p ∧ 0 ≤ p ∧ p ≤ n ∧ done.length ≤ k ∧ Hid (pre done (decAt zs (N - k) p) = R) ∧ Row wr w.heap.size wr.heap.size 3 b (ivs done) ∧ Below w.heap.size w wr) (fun _ _ i _ => N - (intOf i).toNat)
      case atStart => exact ⟨0, o, [], Nat.zero_le _, rfl, rfl, h2, h3, Nat.zero_le _, HR, hrow0.wide (Nat.le_refl _) (by simp), hb0⟩
      case round =>
        obtain ⟨k, p, done, hk, rfl, rfl, hp0, hp1, hdl, hpre, hrow, hbw⟩ := hrel
        have hsz := hbw.size
        clear hrow0 hb0 HR e1 e2
        by_cases hlt : k < N
        · have C := specReadUvarint_any (c := c) (o := p) hl (by omega) ((hr.below hbw).more hbw.size) hb (by omega) (by omega)
          rcases hv : rvAt zs p with _ | ⟨m, j⟩
          · rw [hv] at C
            have C' : Calls Try.prog 18 #[.slice A n c, .int .i64 p] wr (fun e w' => e = .returned (.tuple #[.int .i64 0, .int .i64 0, .bool false]) ∧ wr = w') := C
            have HC := Lib.hid C'
            have H2 := Lib.hid (pre_none hpre.out hlt hv)
            clear C C' hv hr hb
            go_wp2_with (go_at_call 18; refine HC.out.mono ?_; rintro e w1 ⟨rfl, rfl⟩)
            go_ret3
            exact DecP.no H2.out hbw rfl
          · rw [hv] at C
            have C' : Calls Try.prog 18 #[.slice A n c, .int .i64 p] wr (fun e w' => e = .returned (.tuple #[.int .i64 m, .int .i64 (p + (j : Int)), .bool true]) ∧ wr = w') := C
            have HC := Lib.hid C'
            have H2 := Lib.hid (pre_some hpre.out hlt hv)
            obtain ⟨_, d2, _, _⟩ := decOff hb hv
            rw [hl.out] at d2
            obtain ⟨p', hp'⟩ : ∃ p' : Int, p' = p + (j : Int) := ⟨_, rfl⟩
            rw [← hp'] at HC H2 d2
            have d3 : 0 ≤ p' := by omega
            clear C C' hv hp' hr hb
            have hbl : Below wr.heap.size wr (wr.alloc (Obj.cells #[Value.int .i64 m] 3)) := (Below.refl _ _).alloc (Nat.le_refl _) _
            have hrow2 := hrow.new hbl
            have hmade := Rd.made wr #[Value.int .i64 m] 3
            have l1 : (ivs done).length + 1 ≤ maxLen ∧ ((ivs done).length + 1) * 8 ≤ 140737488355328 := by rw [ivs_len]; unfold maxLen; omega
            have L1 := Lib.hid l1
            clear l1
            go_wp2_with (first
              | (go_at_call 18; refine HC.out.mono ?_; rintro e w1 ⟨rfl, rfl⟩)
              | (at_builtin; refine wpList_app rfl (.tmp 41) (.tmp 43) 35 rfl 3 i0 _ 8 Try.underlying35 hi hz0 hz1 hz2 rfl rfl rfl hrow2 rfl hmade (by simp [Value.oneCell']) L1.out.1 L1.out.2 (by simp; omega) ?_; intro v1 w1 hrow1 ho1))
            go_roundw
            case rel => exact ⟨k + 1, p', done ++ [m], by omega, by go_num, rfl, d3, d2, by simp; omega, H2, by rw [← ivs_snoc]; exact hrow1, hbw.trans ((hbl.mono hsz).trans (ho1.below (Nat.le_refl _) (by simp; omega)))⟩
            case measure => simp [intOf]; omega
        · have H2 := Lib.hid (pre_end hpre.out (by omega))
          go_wp2
          go_ret3
          exact DecP.yes H2.out hrow hbw
    · rw [if_neg (fun h => h2 h.2)] at hR2
      have e1 := inr_t h1.1 h1.2
      have e2 := inr_f (n := o) (lo := 0) (hi := n) (by omega)
      have HR := Lib.hid hR2.symm
      clear hR2 h2 h1
      go_enter Try.func37, Try.ntmps37
      go_wp2_with (first
        | (go_at_call 53; refine (l1In_any _ _ _ _).mono ?_; rintro e w9 ⟨rfl, rfl⟩))
      go_ret3
      exact DecP.no HR.out (Below.refl _ _) rfl
  · rw [if_neg (fun h => h1 h.1)] at hR2
    have e1 := inr_f (n := q) (lo := 0) (hi := 100) (by omega)
    have HR := Lib.hid hR2.symm
    clear hR2 h1
    go_enter Try.func37, Try.ntmps37
    go_wp2_with (first
      | (go_at_call 53; refine (l1In_any _ _ _ _).mono ?_; rintro e w9 ⟨rfl, rfl⟩))
    go_ret3
    exact DecP.no HR.out (Below.refl _ _) rfl
/-- Block g is one cell of type t that holds v. -/
def One (w : World) (g : Nat) (t : TypeId) (v : Value) : Prop := w.heap[g]? = some (.cells #[v] t (0, 0))
section
variable {w w' : World} {g : Nat} {t : TypeId} {v : Value}
theorem One.lt (h : One w g t v) : g < w.heap.size := (Array.getElem?_eq_some_iff.1 h).1
theorem One.cell (h : One w g t v) : w.cell? ⟨g, 0, none⟩ = some v := by rw [cell_of_row w g 0 #[v] t (0, 0) h]; rfl
theorem One.free (h : One w g t v) : w.frozen? ⟨g, 0, none⟩ = false := frozen_of_row w g 0 #[v] t h
theorem One.new (w : World) (t : TypeId) (v : Value) : One (w.alloc (.cells #[v] t)) w.heap.size t v := heap_alloc_new w _
theorem One.set (h : One w g t v) (u : Value) : One (w.setCell ⟨g, 0, none⟩ u) g t u := heap_setCell_same w g 0 #[v] t u h
theorem One.keep (h : One w g t v) (hk : w'.heap[g]? = w.heap[g]?) : One w' g t v := hk.trans h
theorem One.below {B : Nat} (h : One w g t v) (hb : Below B w w') (hg : g < B) : One w' g t v := h.keep (hb.block g hg)
theorem One.newer (h : One w g t v) (hb : Below w.heap.size w w') : One w' g t v := h.keep (hb.block g h.lt)
theorem One.out {lo hi : Nat} (h : One w g t v) (o : Out lo hi w w') (hd : g < lo ∨ hi ≤ g) : One w' g t v := h.keep (o.block g h.lt hd)
theorem One.far (h : One w g t v) {p : Addr} (hp : g ≠ p.block) (u : Value) : One (w.setCell p u) g t v := h.keep (Below.heap_setCell w p u g hp)
theorem Out.setCell {g lo hi : Nat} (w : World) (h1 : lo ≤ g) (h2 : g < hi) (k : Nat) (u : Value) : Out lo hi w (w.setCell ⟨g, k, none⟩ u) :=
  ⟨rfl, rfl, rfl, by simp, fun b _ hb => Below.heap_setCell w ⟨g, k, none⟩ u b (by simp; omega)⟩
end
/-- The closure answered: the integer and whether there is one; 'next' is what it is then; nothing else that was there has turned. -/
def Nexts (x p : Int) (ok : Bool) (Bn : Nat) (w : World) (e : Ending) (w' : World) : Prop :=
  e = .returned (.tuple #[.int .i64 x, .bool ok]) ∧ One w' Bn 3 (.int .i64 p) ∧ Out Bn (Bn + 1) w w'
set_option maxHeartbeats 1600000 in
theorem next_none {w : World} {A : Option Addr} {n c Bb Bn : Nat} {zs : List Int} {o : Int} (hl : Hid (zs.length = n)) (hn : n ≤ 35184372088832) (hcap : n ≤ c) (hr : Rd w w.heap.size A (bvs zs)) (hb : ∀ x ∈ zs, 0 ≤ x ∧ x ≤ 255)
    (ho : 0 ≤ o) (ho2 : o ≤ n) (h1 : One w Bb 22 (.slice A n c)) (h2 : One w Bn 3 (.int .i64 o)) (hv : Hid (rvAt zs o = none)) :
    Calls Try.prog 52 #[.pointer (some ⟨Bb, 0, none⟩), .pointer (some ⟨Bn, 0, none⟩)] w (Nexts 0 0 false Bn w) := by
  have C := impReadUvarint_any (o := o) hl (by omega) hcap hr hb (by omega) (by omega)
  rw [hv.out] at C
  have C' : Calls Try.prog 15 #[.slice A n c, .int .i64 o] w (fun e w' => e = .returned (.tuple #[.int .i64 0, .int .i64 0, .bool false]) ∧ Below w.heap.size w w') := C
  have HC := Lib.hid C'
  have c1 := h1.cell
  have c2 := h2.cell
  have hlt := h2.lt
  clear C C' hr hb
  go_enter Try.func52, Try.ntmps52
  go_wp2_with (go_at_call 15; refine HC.out.mono ?_; rintro e w1 ⟨rfl, hb1⟩; have k2 := h2.newer hb1; have k3 := k2.cell; have k4 := k2.free)
  go_ret2
  have h3 := h2.newer hb1
  exact ⟨rfl, h3.set _, (Out.of_below hb1).trans (Out.setCell w1 (Nat.le_refl _) (by omega) 0 _)⟩
set_option maxHeartbeats 1600000 in
theorem next_some {w : World} {A : Option Addr} {n c Bb Bn : Nat} {zs : List Int} {o m p : Int} (hl : Hid (zs.length = n)) (hn : n ≤ 35184372088832) (hcap : n ≤ c) (hr : Rd w w.heap.size A (bvs zs)) (hb : ∀ x ∈ zs, 0 ≤ x ∧ x ≤ 255)
    (ho : 0 ≤ o) (ho2 : o ≤ n) (h1 : One w Bb 22 (.slice A n c)) (h2 : One w Bn 3 (.int .i64 o)) (hv : Hid (rvVal o (rvAt zs o) = .tuple #[.int .i64 m, .int .i64 p, .bool true])) :
    Calls Try.prog 52 #[.pointer (some ⟨Bb, 0, none⟩), .pointer (some ⟨Bn, 0, none⟩)] w (Nexts m p true Bn w) := by
  have C := impReadUvarint_any (o := o) hl (by omega) hcap hr hb (by omega) (by omega)
  rw [hv.out] at C
  have HC := Lib.hid C
  have c1 := h1.cell
  have c2 := h2.cell
  have hlt := h2.lt
  clear C hr hb
  go_enter Try.func52, Try.ntmps52
  go_wp2_with (go_at_call 15; refine HC.out.mono ?_; rintro e w1 ⟨rfl, hb1⟩; have k2 := h2.newer hb1; have k3 := k2.cell; have k4 := k2.free)
  go_ret2
  have h3 := h2.newer hb1
  exact ⟨rfl, h3.set _, (Out.of_below hb1).trans (Out.setCell w1 (Nat.le_refl _) (by omega) 0 _)⟩
set_option maxHeartbeats 1600000 in
theorem impDecodeInts_any {w : World} {A : Option Addr} {n c : Nat} {zs : List Int} {o q : Int} {R : Option (List Int × Int)} (hl : Hid (zs.length = n)) (hn : n ≤ 35184372088832) (hcap : n ≤ c) (hr : Rd w w.heap.size A (bvs zs)) (hb : ∀ x ∈ zs, 0 ≤ x ∧ x ≤ 255) (hR : Hid (deAt zs o q = R)) :
    Calls Try.prog 24 #[.slice A n c, .int .i64 o, .int .i64 q] w (DecP R w) := by
  obtain ⟨i0, hi, hz0, hz1, hz2⟩ := info_parts IntS_info
  have hR2 := hR.out
  unfold deAt at hR2
  rw [hl.out] at hR2
  by_cases h1 : 0 ≤ q ∧ q ≤ 100
  · by_cases h2 : 0 ≤ o ∧ o ≤ (n : Int)
    · rw [if_pos ⟨h1, h2⟩] at hR2
      have e1 := inr_t h1.1 h1.2
      have e2 := inr_t h2.1 h2.2
      obtain ⟨N, rfl⟩ := Int.eq_ofNat_of_zero_le h1.1
      obtain ⟨_, h1⟩ := h1
      obtain ⟨h2, h3⟩ := h2
      have HR : Hid (pre [] (decAt zs (N - 0) o) = R) := Lib.hid (by rw [← hR2, pre_nil]; rfl)
      clear hR2 hR
      go_enter Try.func24, Try.ntmps24
      go_wp2_with (first
        | (go_at_call 47; refine (inRange_any _ _ _ _).mono ?_; rintro e w9 ⟨rfl, rfl⟩))
      have o1 : One (((w.alloc (Obj.cells #[Value.slice A n c] 22)).alloc (Obj.cells #[Value.int .i64 o] 3)).alloc (Obj.cells #[] 3)) w.heap.size 22 (.slice A n c) :=
        ((One.new w 22 (.slice A n c)).newer ((Below.refl _ _).alloc (Nat.le_refl _) _)).newer ((Below.refl _ _).alloc (Nat.le_refl _) _)
      have o2 : One (((w.alloc (Obj.cells #[Value.slice A n c] 22)).alloc (Obj.cells #[Value.int .i64 o] 3)).alloc (Obj.cells #[] 3)) (w.heap.size + 1) 3 (.int .i64 o) := by
        have h := (One.new (w.alloc (Obj.cells #[Value.slice A n c] 22)) 3 (.int .i64 o)).newer ((Below.refl _ _).alloc (Nat.le_refl _) (Obj.cells #[] 3))
        simpa using h
      have hrow0 : Row (((w.alloc (Obj.cells #[Value.slice A n c] 22)).alloc (Obj.cells #[Value.int .i64 o] 3)).alloc (Obj.cells #[] 3)) (w.heap.size + 1 + 1) (w.heap.size + 1 + 1 + 1) 3 (.slice (some ⟨w.heap.size + 1 + 1, 0, none⟩) 0 0) (ivs []) := by
        have h := Row.made (w := (w.alloc (Obj.cells #[Value.slice A n c] 22)).alloc (Obj.cells #[Value.int .i64 o] 3)) (w.heap.size + 1 + 1) #[] 0 3 (by simp) rfl (Nat.zero_le _)
        simpa [ivs] using h
      have hb0 : Below w.heap.size w (((w.alloc (Obj.cells #[Value.slice A n c] 22)).alloc (Obj.cells #[Value.int .i64 o] 3)).alloc (Obj.cells #[] 3)) := (((Below.refl _ _).alloc (Nat.le_refl _) _).alloc (by simp) _).alloc (by simp; omega) _
      go_loopw [11, 29] (fun b i wr => ∃ (k : Nat) (p : Int) (done : List Int), k ≤ N ∧ i = .int .i64 k ∧ 0 ≤ p ∧ p ≤ n ∧ done.length ≤ k ∧ Hid (pre done (decAt zs (N - k) p) = R) ∧ One wr w.heap.size 22 (.slice A n c) ∧ One wr (w.heap.size + 1) 3 (.int .i64 p) ∧ Row wr (w.heap.size + 1 + 1) wr.heap.size 3 b (ivs done) ∧ Below w.heap.size w wr) (fun _ i _ => N - (intOf i).toNat)
      case atStart => exact ⟨0, o, [], Nat.zero_le _, rfl, h2, h3, Nat.zero_le _, HR, o1, o2, hrow0.wide (Nat.le_refl _) (by simp), hb0⟩
      case round =>
        obtain ⟨k, p, done, hk, rfl, hp0, hp1, hdl, hpre, ob, on, hrow, hbw⟩ := hrel
        have hsz := hbw.size
        have hsn := on.lt
        clear hrow0 hb0 HR e1 e2 o1 o2
        by_cases hlt : k < N
        · rcases hv : rvAt zs p with _ | ⟨m, j⟩
          · have HC := Lib.hid (next_none hl hn hcap ((hr.below hbw).more hbw.size) hb hp0 hp1 ob on hv)
            have H2 := Lib.hid (pre_none hpre.out hlt hv)
            clear hv hr hb
            go_wp2_with (go_at_call 52; refine HC.out.mono ?_; rintro e w1 ⟨rfl, on1, ho1⟩)
            go_ret3
            exact DecP.no' H2.out (hbw.trans (ho1.below (by omega) (by omega))) rfl
          · obtain ⟨_, d2, _, _⟩ := decOff hb hv
            rw [hl.out] at d2
            have H2 := Lib.hid (pre_some hpre.out hlt hv)
            obtain ⟨p', hp'⟩ : ∃ p' : Int, p' = p + (j : Int) := ⟨_, rfl⟩
            have HC := Lib.hid (next_some (m := m) (p := p') hl hn hcap ((hr.below hbw).more hbw.size) hb hp0 hp1 ob on (Lib.hid (by rw [hv, hp']; rfl)))
            rw [← hp'] at H2 d2
            have d3 : 0 ≤ p' := by omega
            clear hv hp' hr hb
            have l1 : (ivs done).length + 1 ≤ maxLen ∧ ((ivs done).length + 1) * 8 ≤ 140737488355328 := by rw [ivs_len]; unfold maxLen; omega
            have L1 := Lib.hid l1
            clear l1
            go_wp2_with (first
              | (go_at_call 52; refine HC.out.mono ?_; rintro e w1 ⟨rfl, on1, ho1⟩; have hs1 := ho1.size; have hbl : Below w1.heap.size w1 (w1.alloc (Obj.cells #[Value.int .i64 m] 3)) := (Below.refl _ _).alloc (Nat.le_refl _) _; have hrow2 := (hrow.out ho1 (by omega)).new hbl; have hmade := Rd.made w1 #[Value.int .i64 m] 3)
              | (at_builtin; refine wpList_app rfl (.tmp 39) (.tmp 41) 35 rfl 3 i0 _ 8 Try.underlying35 hi hz0 hz1 hz2 rfl rfl rfl hrow2 rfl hmade (by simp [Value.oneCell']) L1.out.1 L1.out.2 (by simp; omega) ?_; intro v1 w2 hrow1 ho2))
            have hs2 := ho2.size
            go_roundw
            case rel => exact ⟨k + 1, p', done ++ [m], by omega, by go_num, d3, d2, by simp; omega, H2, ((ob.out ho1 (by omega)).newer hbl).out ho2 (by omega), (on1.newer hbl).out ho2 (by omega), by rw [← ivs_snoc]; exact hrow1, ((hbw.trans (ho1.below (by omega) (by omega))).trans (hbl.mono (by omega))).trans (ho2.below (by omega) (by simp; omega))⟩
            case measure => simp [intOf]; omega
        · have H2 := Lib.hid (pre_end hpre.out (by omega))
          have c1 := on.cell
          go_wp2
          go_quiet (fail)
          go_wp2
          go_ret3
          exact DecP.yes H2.out ((hrow.wide (by omega) (Nat.le_refl _)).drewN _) (below_drewN hbw _)
    · rw [if_neg (fun h => h2 h.2)] at hR2
      have e1 := inr_t h1.1 h1.2
      have e2 := inr_f (n := o) (lo := 0) (hi := n) (by omega)
      have HR := Lib.hid hR2.symm
      clear hR2 h2 h1
      go_enter Try.func24, Try.ntmps24
      go_wp2_with (first
        | (go_at_call 47; refine (inRange_any _ _ _ _).mono ?_; rintro e w9 ⟨rfl, rfl⟩))
      go_ret3
      exact DecP.no' HR.out ((Below.refl _ _).alloc (Nat.le_refl _) _) (by simp)
  · rw [if_neg (fun h => h1 h.1)] at hR2
    have e1 := inr_f (n := q) (lo := 0) (hi := 100) (by omega)
    have HR := Lib.hid hR2.symm
    clear hR2 h1
    go_enter Try.func24, Try.ntmps24
    go_wp2_with (first
      | (go_at_call 47; refine (inRange_any _ _ _ _).mono ?_; rintro e w9 ⟨rfl, rfl⟩))
    go_ret3
    exact DecP.no' HR.out ((Below.refl _ _).alloc (Nat.le_refl _) _) (by simp)
end Go.Proofs.Ytmjnlhejdjkoaaa
