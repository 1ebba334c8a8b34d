/- Contracts of the code's storeOf, Say, TakeBack. Condition: the slices have fewer than 2^40 elements. -/
import Derived.Test.YtignchefkihdaaaSayC2
namespace Go.Proofs.Ytignchefkihdaaa
open Go.ChangeShapes Go.WideShapes Go.ChangeAt Go.RowKit
set_option maxRecDepth 100000
theorem ST_info : (Try.prog.info? 87).map (·.size) = some 1 := by kernel_rfl
theorem resST {w : World} {fn : Func} {p : Tmp} {tmps : Array Value} {g : Nat} {cs : Array Value} (h : fn.results = #[.cell p 87]) (hb : Bx w g 87 cs) (hs : cs.size = 1) (hp : tmps.getD p undef = .pointer (some ⟨g, 0, none⟩)) : (results fn tmps).run Try.prog w = .ok (.agg cs) w :=
  results_cell_row h tmps w g _ cs (0, 0) _ hp hb Try.underlying87 rfl (by rw [ST_info, hs])
section
variable {w : World} {A A' : Option Addr} {n c n' c' : Nat} {X : List (List Int)} {f : List Int}
theorem storeOf_any (hl : Hid (X.length = n)) (hn : n ≤ 1099511627776) (hs : Hid (∀ x ∈ X, x.length ≤ 1099511627776)) (hr : RdSS w w.heap.size A X) :
    Calls Try.prog 71 #[.slice A n c] w (fun e w' => ∃ v, e = .returned (.agg #[v]) ∧ OwnSS w' (w.heap.size + 1) w'.heap.size v X ∧ Below w.heap.size w w') := by
  have bx := Bx.made w 87 #[.slice none 0 0]
  have hb := alloc_new w (Obj.cells #[.slice none 0 0] 87)
  obtain ⟨W1, hW⟩ : ∃ v : World, v = w.alloc (Obj.cells #[.slice none 0 0] 87) := ⟨_, rfl⟩
  have hsz : W1.heap.size = w.heap.size + 1 := by rw [hW]; simp
  rw [← hW] at bx hb
  have HW := Lib.hid hW.symm
  have HR := Lib.hid ((hr.below hb).more hb.size)
  clear hW hr
  go_enter Try.func71, Try.ntmps71
  go_wp2_with fail
  rw [HW.out]
  refine (copyLists_any hl hn hs HR.out).mono ?_
  rintro e w2 ⟨v, rfl, ho, r⟩
  obtain ⟨A2, c2, rfl, _, _, _⟩ := ho.rd hl.out
  have bx2 := bx.new r
  have c2' := bx2.at_ (k := 0) rfl
  have f2 := bx2.free 0
  have HO := Lib.hid ho
  have HB := Lib.hid bx2
  have q := hb.trans (r.mono hb.size)
  have hz := r.size
  clear ho bx2
  go_wp2_with fail
  refine bodyPost_ret (resST rfl (HB.out.set 0 (.slice A2 n c2)) rfl rfl) rfl ⟨_, rfl, ?_, q.setCell (Nat.le_refl _) _⟩
  rw [hsz] at HO
  exact (HO.out.setFar (.inl (Nat.lt_succ_self _)) _).wide (Nat.le_refl _) (by simp)
set_option maxHeartbeats 2000000 in
theorem impSay_any (hl : Hid (X.length = n)) (hn : n ≤ 1000000000000) (hs : Hid (∀ x ∈ X, x.length ≤ 1099511627776)) (hr : RdSS w w.heap.size A X) (hl' : Hid (f.length = n')) (hn' : n' ≤ 1099511627776) (hr' : Rd w w.heap.size A' (ivs f)) :
    Calls Try.prog 15 #[.slice A n c, .slice A' n' c'] w (fun e w' => ∃ v, e = .returned (.tuple #[v, .bool (storeB (X ++ [f]))]) ∧ OwnSS w' w.heap.size w'.heap.size v (sayX X f) ∧ Below w.heap.size w w') := by
  have HR' := Lib.hid hr'
  clear hr'
  go_enter Try.func15, Try.ntmps15
  go_wp2_with fail
  refine (storeOf_any hl (by omega) hs hr).mono ?_
  rintro e w2 ⟨v, rfl, ho, r⟩
  obtain ⟨A2, c2, rfl, _, _, _⟩ := ho.rd hl.out
  have bx := Bx.made w2 87 #[.slice A2 n c2]
  have hb := alloc_new w2 (Obj.cells #[.slice A2 n c2] 87)
  obtain ⟨W3, hW⟩ : ∃ v : World, v = w2.alloc (Obj.cells #[.slice A2 n c2] 87) := ⟨_, rfl⟩
  have hsz : W3.heap.size = w2.heap.size + 1 := by rw [hW]; simp
  rw [← hW] at bx hb
  have HW := Lib.hid hW.symm
  have ho3 := (ho.new hb).wide (Nat.le_succ w.heap.size) (show w2.heap.size ≤ W3.heap.size by omega)
  have q := r.trans (hb.mono r.size)
  have HO := Lib.hid ho3
  have hz := r.size
  have HR3 := Lib.hid (HR'.out.below q)
  have HBX := Lib.hid bx
  clear hW ho ho3 bx
  go_wp2_with fail
  rw [HW.out]
  refine (say_any (B := w.heap.size) (lo := w.heap.size) (X := X) (f := f) HBX.out HO.out (Nat.le_refl _) hz (by omega) (by rw [hl.out]; exact hn) hs hl' hn' HR3.out).mono ?_
  rintro e w4 ⟨rfl, v', bp, ho4, r4⟩
  have HO4 := Lib.hid ho4
  obtain ⟨A4, c4, rfl, _, _, _⟩ := ho4.rd rfl
  have cp := bp.at_ (k := 0) rfl
  clear ho4 bp
  go_wp2_with fail
  go_ret2
  exact ⟨_, rfl, HO4.out, q.trans r4⟩
set_option maxHeartbeats 2000000 in
theorem impTakeBack_any (hl : Hid (X.length = n)) (hn : n ≤ 1099511627776) (hs : Hid (∀ x ∈ X, x.length ≤ 1099511627776)) (hr : RdSS w w.heap.size A X) (hl' : Hid (f.length = n')) (hn' : n' ≤ 1099511627776) (hr' : Rd w w.heap.size A' (ivs f)) :
    Calls Try.prog 18 #[.slice A n c, .slice A' n' c'] w (fun e w' => ∃ v, e = .returned (.tuple #[v, .bool (tbB X f)]) ∧ OwnSS w' w.heap.size w'.heap.size v (tbX X f) ∧ Below w.heap.size w w') := by
  have HR' := Lib.hid hr'
  clear hr'
  go_enter Try.func18, Try.ntmps18
  go_wp2_with fail
  refine (storeOf_any hl hn hs hr).mono ?_
  rintro e w2 ⟨v, rfl, ho, r⟩
  obtain ⟨A2, c2, rfl, _, _, _⟩ := ho.rd hl.out
  have bx := Bx.made w2 87 #[.slice A2 n c2]
  have hb := alloc_new w2 (Obj.cells #[.slice A2 n c2] 87)
  obtain ⟨W3, hW⟩ : ∃ v : World, v = w2.alloc (Obj.cells #[.slice A2 n c2] 87) := ⟨_, rfl⟩
  have hsz : W3.heap.size = w2.heap.size + 1 := by rw [hW]; simp
  rw [← hW] at bx hb
  have HW := Lib.hid hW.symm
  have ho3 := (ho.new hb).wide (Nat.le_succ w.heap.size) (show w2.heap.size ≤ W3.heap.size by omega)
  have q := r.trans (hb.mono r.size)
  have HO := Lib.hid ho3
  have hz := r.size
  have HR3 := Lib.hid ((HR'.out.below q).more q.size)
  have HBX := Lib.hid bx
  have cx := bx.at_ (k := 0) (v := .slice A2 n c2) rfl
  clear hW ho ho3 bx
  go_wp2_with fail
  rw [HW.out]
  go_wp2_with fail
  refine (placeOf_any (X := X) (f := f) hl hn hs HO.out.rd' hl' hn' HR3.out).mono ?_
  rintro e w4 ⟨rfl, r4⟩
  have bx4 := HBX.out.new r4
  have cx4 := bx4.at_ (k := 0) (v := .slice A2 n c2) rfl
  have q4 := q.trans (r4.mono q.size)
  have HO4 := Lib.hid (HO.out.new r4)
  have HBX4 := Lib.hid bx4
  clear bx4
  rcases tb_cases X f with ⟨hf, hB, hT⟩ | ⟨k, hk, hf, hB, hT⟩
  · have HD := Lib.hid hB
    have HN := Lib.hid hT
    rw [hf]
    clear hB hT
    go_wp2_with fail
    go_ret2
    refine ⟨_, by rw [HD.out]; rfl, ?_, q4⟩
    rw [HN.out]
    exact HO4.out.wide (Nat.le_refl _) r4.size
  · have HD := Lib.hid hB
    have HN := Lib.hid hT
    rw [hf]
    have k0 : (0 : Int) ≤ (k : Int) := by omega
    clear hB hT
    go_wp2_with fail
    refine (drop_any HBX4.out HO4.out hl.out (by rw [← hl.out]; exact hk) hn).mono ?_
    rintro e w5 ⟨rfl, v', bp, ho5, ex⟩
    have HO5 := Lib.hid ho5
    obtain ⟨A5, c5, rfl, _, _, _⟩ := ho5.rd (n := X.length - 1) (by simp; omega)
    have cp := bp.at_ (k := 0) rfl
    have hq5 : Below w.heap.size w w5 := by
      refine q4.trans ⟨ex.os, ex.tape, ex.output, by have := q4.size; have := ex.size; omega, fun b hb2 => ex.block b ?_ ?_ ?_⟩
      · have := q4.size; omega
      · omega
      · intro e
        obtain ⟨F, ⟨v0, es, a1, a2, a3, a4, _⟩, _, hF⟩ := HO4.out
        have hv : v0 = .slice A2 n c2 := by simpa using a1.symm
        subst hv
        have := (hF b (by rw [a4]; exact List.mem_append_left _ (by rw [show (Value.slice A2 n c2).ownBlock = some b from e]; simp))).1
        omega
    have hsz5 := ex.size
    clear ho5 bp ex
    go_wp2_with fail
    go_ret2
    refine ⟨_, by rw [HD.out]; rfl, ?_, hq5⟩
    rw [HN.out]
    exact HO5.out.wide (Nat.le_refl _) (by have := r4.size; omega)
end
end Go.Proofs.Ytignchefkihdaaa
