/- Contracts of Encrypt's and Decrypt's code (the key stream's closure among them). No conditions but that the slices have at most 2^40 elements. -/
import Derived.Test.YtmemjapmkoenmaaHashC
import Derived.Test.YtmemjapmkoenmaaCipher
import Derived.Test.YtmemjapmkoenmaaOne
namespace Go.Proofs.Ytmemjapmkoenmaa
open Go.ChangeShapes Go.WideShapes Go.ChangeAt Go.RowKit
theorem copyB_any {w : World} {A : Option Addr} {n c : Nat} {zs : List Int} (hl : Hid (zs.length = n)) (hn : n ≤ 35184372088832) (hr : Rd w w.heap.size A (bvs zs)) :
    Calls Try.prog 65 #[.slice A n c] w (Fresh 5 (bvs zs) w) := by
  obtain ⟨i0, hi, hz0, hz1, hz2⟩ := info_parts ByteS_info
  have hb0 : Below w.heap.size w (w.alloc (Obj.cells #[] 5)) := (Below.refl _ _).alloc (Nat.le_refl _) _
  have hrow0 := Row.made (w := w) w.heap.size #[] 0 5 (Nat.le_refl _) rfl (Nat.zero_le _)
  have hr1 := hr.below hb0
  have HL := Lib.hid (show (bvs zs).length = n by rw [bvs_len, hl.out])
  clear hr
  go_enter Try.func65, Try.ntmps65
  go_wp2_with (first
    | (at_builtin; refine wpList_app rfl (.tmp 3) (.tmp 4) 22 rfl 5 i0 _ 1 Try.underlying22 hi hz0 hz1 hz2 rfl rfl rfl hrow0 HL.out hr1 int_one (by simp; unfold maxLen; omega) (by simp; omega) (by simp) ?_; intro v1 w1 hrow1 ho1))
  go_ret
  exact ⟨v1, rfl, by simpa using hrow1, hb0.trans (ho1.below (Nat.le_refl _) (by simp))⟩
/-- A function that gives the key stream's bytes was returned: the key and the index lie in two new blocks. -/
def Stream (q : Int) (w : World) (e : Ending) (w' : World) : Prop :=
  e = .returned (.func (.func 91) #[] #[.pointer (some ⟨w.heap.size, 0, none⟩), .pointer (some ⟨w.heap.size + 1, 0, none⟩)]) ∧ One w' w.heap.size 3 (.int .i64 q) ∧ One w' (w.heap.size + 1) 3 (.int .i64 0) ∧ Below w.heap.size w w' ∧ w'.heap.size = w.heap.size + 2
theorem keyStream_any (q : Int) (w : World) : Calls Try.prog 64 #[.int .i64 q] w (Stream q w) := by
  have hmf : ∀ (fn : Fn) (first cap : Array Value) (w : World), (Instr.makeFunc fn first cap).run Try.prog w = .ok (.func fn first cap) w := fun _ _ _ _ => rfl
  go_enter Try.func64, Try.ntmps64
  go_wp2
  go_ret
  have a1 : Below w.heap.size w (w.alloc (Obj.cells #[Value.int .i64 q] 3)) := (Below.refl _ _).alloc (Nat.le_refl _) _
  have o1 := One.new w 3 (.int .i64 q)
  have o2 := One.new (w.alloc (Obj.cells #[Value.int .i64 q] 3)) 3 (.int .i64 0)
  obtain ⟨W1, hW⟩ : ∃ u : World, u = w.alloc (Obj.cells #[Value.int IntKind.i64 q] 3) := ⟨_, rfl⟩
  have hs : W1.heap.size = w.heap.size + 1 := by rw [hW]; simp
  rw [← hW] at a1 o1 o2 ⊢
  have a2 : Below W1.heap.size W1 (W1.alloc (Obj.cells #[Value.int .i64 0] 3)) := (Below.refl _ _).alloc (Nat.le_refl _) _
  rw [hs] at o2
  refine ⟨rfl, ?_, ?_, ?_, ?_⟩
  · first | exact (o1.newer a2).far (by simp) _ | exact o1.newer a2
  · first | exact o2.set _ | exact o2
  · first | exact ((Out.of_below (lo := w.heap.size) (hi := w.heap.size + 2) (a1.trans (a2.mono a1.size))).trans (Out.setCell _ (by omega) (by omega) 0 _)).below (Nat.le_refl _) (Nat.le_refl _) | exact a1.trans (a2.mono a1.size)
  · simp [hs]
/-- The closure gave the next byte. -/
def NextB (x : Int) (k Bi : Nat) (w : World) (e : Ending) (w' : World) : Prop :=
  e = .returned (.int .u8 x) ∧ One w' Bi 3 (.int .i64 ((k + 1 : Nat) : Int)) ∧ Out Bi (Bi + 1) w w'
theorem keyNext_any {w : World} {Bk Bi k : Nat} {q : Int} (hk : k ≤ 35184372088832) (h1 : One w Bk 3 (.int .i64 q)) (h2 : One w Bi 3 (.int .i64 k)) :
    Calls Try.prog 91 #[.pointer (some ⟨Bk, 0, none⟩), .pointer (some ⟨Bi, 0, none⟩)] w (NextB (kst q k % 256) k Bi w) := by
  have c1 := h1.cell
  have c2 := h2.cell
  have hlt := h2.lt
  obtain ⟨h0, h1'⟩ := kst_range q k
  obtain ⟨h, hh⟩ : ∃ h, h = kst q k := ⟨_, rfl⟩
  rw [← hh] at h0 h1' ⊢
  have HH := Lib.hid hh
  clear hh
  have hbl : Below w.heap.size w (w.alloc (Obj.cells #[Value.int .i64 k] 3)) := (Below.refl _ _).alloc (Nat.le_refl _) _
  go_enter Try.func91, Try.ntmps91
  go_wp2_with (go_at_call 21; refine (impKeyedHash_any (zs := [(k : Int)]) (q := q) (Lib.hid rfl) (by simp) (by exact (Rd.made w #[Value.int .i64 k] 3).more (by simp))).mono ?_; rintro e w1 ⟨he, hb1⟩; rw [show hsh (q :: [(k : Int)] ++ [q]) = h from HH.out.symm] at he; subst he; have k2 := (h2.newer hbl).newer hb1; have k3 := k2.cell; have k4 := k2.free)
  go_ret
  have h3 := (h2.newer hbl).newer hb1
  have hs := hb1.size
  simp only [World.size_alloc] at hs
  exact ⟨rfl, h3.set _, (Out.of_below (hbl.trans (hb1.mono hbl.size))).trans (Out.setCell w1 (Nat.le_refl _) (by omega) 0 _)⟩
theorem mix_step {xs zs : List Int} {k : Nat} (y : Int) (hx : xs.length = k) (hk : k < zs.length) : (bvs (xs ++ zs.drop k)).set k (.int .u8 y) = bvs ((xs ++ [y]) ++ zs.drop (k + 1)) ∧ (bvs (xs ++ zs.drop k))[k]? = some (.int .u8 zs[k]) := by
  rw [List.drop_eq_getElem_cons hk]
  subst hx
  constructor
  · unfold bvs
    rw [List.map_append, List.set_append_right _ _ (by simp), List.map_cons]
    simp only [List.length_map, Nat.sub_self, List.set_cons_zero, List.map_append, List.map_cons, List.append_assoc, List.cons_append, List.nil_append]
  · unfold bvs
    rw [List.map_append, List.getElem?_append_right (by simp), List.map_cons]
    simp only [List.length_map, Nat.sub_self]
    rfl
theorem cell_out {w w' : World} {lo hi : Nat} {a : Addr} {v : Value} (h : w.cell? a = some v) (o : Out lo hi w w') (hd : a.block < lo ∨ hi ≤ a.block) : w'.cell? a = some v :=
  (World.cell?_of_block (o.block _ (cell_lt h) hd)).trans h
theorem free_out {w w' : World} {lo hi : Nat} {a : Addr} {v : Value} (h : w.frozen? a = false) (hc : w.cell? a = some v) (o : Out lo hi w w') (hd : a.block < lo ∨ hi ≤ a.block) : w'.frozen? a = false :=
  (World.frozen?_of_block (o.block _ (cell_lt hc) hd)).trans h
theorem enc_wrap (x h : Int) : IntKind.u8.wrap (x + h % 256) = (x + h) % 256 := by
  simp [IntKind.wrap, IntKind.bits, IntKind.signed]
theorem dec_wrap (x h : Int) : IntKind.u8.wrap (x - h % 256) = (x - h) % 256 := by
  simp [IntKind.wrap, IntKind.bits, IntKind.signed]
theorem row_store {w : World} {lo hi g n cap : Nat} {t : TypeId} {xs : List Value} (h : Row w lo hi t (.slice (some ⟨g, 0, none⟩) n cap) xs) (hn : xs.length = n) (k : Nat) (u : Value) : Row (w.setCell ⟨g, k, none⟩ u) lo hi t (.slice (some ⟨g, 0, none⟩) n cap) (xs.set k u) :=
  ⟨by rw [List.length_set, hn]; exact ((h.own hn).stored k u).1, fun g' hg' => h.2 g' hg'⟩
theorem One.drew_ {w : World} {g : Nat} {t : TypeId} {v : Value} (h : One w g t v) : One w.drew g t v := h
theorem Row.drew_ {w : World} {lo hi : Nat} {t : TypeId} {v : Value} {xs : List Value} (h : Row w lo hi t v xs) : Row w.drew lo hi t v xs := h
set_option maxRecDepth 100000 in
set_option maxHeartbeats 3200000 in
theorem impEncrypt_any {w : World} {A : Option Addr} {n c : Nat} {zs : List Int} {q : Int} (hl : Hid (zs.length = n)) (hn : n ≤ 35184372088832) (hr : Rd w w.heap.size A (bvs zs)) (hb : ∀ x ∈ zs, 0 ≤ x ∧ x ≤ 255) :
    Calls Try.prog 19 #[.int .i64 q, .slice A n c] w (Fresh 5 (bvs (encB q zs)) w) := by
  go_enter Try.func19, Try.ntmps19
  go_wp2_with fail
  refine (keyStream_any q w).mono ?_
  rintro e w1 ⟨rfl, ok1, oi1, hb1, hs1⟩
  have hr1 := (hr.below hb1).more hb1.size
  clear hr
  go_wp2_with fail
  refine (copyB_any hl (by omega) hr1).mono ?_
  rintro e w2 ⟨v, rfl, hrow, hb2⟩
  obtain ⟨A2, c2, rfl, _, _, _⟩ := hrow.rd (n := n) (by rw [bvs_len, hl.out])
  have ok2 := ok1.newer hb2
  have oi2 := oi1.newer hb2
  have hb12 := hb1.trans (hb2.mono hb1.size)
  have hs2 := hb2.size
  clear hr1 ok1 oi1 hb1 hb2
  go_wp2
  go_loopw [14] (fun i wr => ∃ k : Nat, k ≤ n ∧ i = .int .i64 k ∧ Row wr w1.heap.size w2.heap.size 5 (.slice A2 n c2) (bvs (encT q zs k ++ zs.drop k)) ∧ One wr w.heap.size 3 (.int .i64 q) ∧ One wr (w.heap.size + 1) 3 (.int .i64 k) ∧ Below w.heap.size w wr ∧ w2.heap.size ≤ wr.heap.size) (fun i _ => n - (intOf i).toNat)
  case atStart => exact ⟨0, Nat.zero_le _, rfl, by simpa [encT] using hrow, ok2, oi2, hb12, Nat.le_refl _⟩
  case round =>
    obtain ⟨k, hk, rfl, hrw, ok, oi, hbw, hsz⟩ := hrel
    clear hrow ok2 oi2 hb12
    by_cases hlt : k < n
    · have hkz : k < zs.length := by rw [hl.out]; exact hlt
      obtain ⟨hx0, hx1⟩ := hb zs[k] (List.getElem_mem _)
      have hown := hrw.own (n := n) (by rw [bvs_len, List.length_append, encT_len, List.length_drop, hl.out]; omega)
      have hgh := hrw.2
      rcases hown.2 with ⟨h1, h2⟩ | ⟨g, cap, cur, h1, hlo, _, _, _, _, _⟩
      · exfalso
        omega
      · injection h1 with e1 _ e3
        subst e1 e3
        have hhi : g < w2.heap.size := hgh g rfl
        obtain ⟨m1, m2⟩ := mix_step (xs := encT q zs k) ((zs.getD k 0 + kst q k) % 256) (encT_len q zs k) hkz
        rw [← encT_succ] at m1
        obtain ⟨hst, hgs⟩ := hown.stored k (.int .u8 ((zs.getD k 0 + kst q k) % 256))
        rw [m1] at hst
        have HM := Lib.hid m1
        have hcA := hown.cellAt k (by omega)
        rw [m2] at hcA
        have hfA := hown.frozenAt k
        rw [getDi_at hkz] at hst hgs
        obtain ⟨x, hx⟩ : ∃ x, x = zs[k] := ⟨_, rfl⟩
        rw [← hx] at hcA hx0 hx1 hst hgs
        obtain ⟨h, hh⟩ : ∃ h, h = kst q k := ⟨_, rfl⟩
        have hh0 : 0 ≤ h := by rw [hh]; exact (kst_range q k).1
        have HN := Lib.hid hlo
        have hk2 : k ≤ 35184372088832 := by omega
        have i1 : (0 : Int) ≤ (k : Int) := by omega
        have i2 : (k : Int) < (n : Int) := by omega
        have hgb : g < w.heap.size + 1 ∨ w.heap.size + 1 + 1 ≤ g := by omega
        have HH := Lib.hid hh
        rw [getDi_at hkz, ← hx, ← hh] at HM
        have hbi : w.heap.size + 1 < w1.heap.size := by omega
        clear hst hgs m1 m2 hx hh hgh
        go_wp2_with fail
        go_region_law (first | (go_simp; go_at_call 91; refine (keyNext_any (k := k) (q := q) hk2 (by exact ok) (by exact oi)).mono ?_; rintro e w3 ⟨rfl, oi3, ho3⟩; rw [← HH.out]; have c3 : w3.cell? ⟨g, k, none⟩ = some (.int .u8 x) := cell_out (by exact hcA) ho3 hgb; have f3 : w3.frozen? ⟨g, k, none⟩ = false := free_out (by exact hfA) (by exact hcA) ho3 hgb))
        all_goals
          have hb3 : Below w.heap.size w w3 := hbw.drew.trans (ho3.below (by omega) (by have := hbw.size; exact this))
          have hs3 := ho3.size
          have ok3 := ok.drew_.out ho3 (.inl (by omega))
          have r3 := row_store (hrw.drew_.out ho3 (.inr (by omega))) (by rw [bvs_len, List.length_append, encT_len, List.length_drop, hl.out]; omega) k (.int .u8 (IntKind.u8.wrap (x + h % 256)))
          rw [enc_wrap, HM.out] at r3
          have HR := Lib.hid r3
          have hsz3 : w2.heap.size ≤ w3.heap.size := Nat.le_trans hsz hs3
          clear r3
          go_wp2
          go_roundw
          case rel =>
            exact ⟨k + 1, by omega, by go_num, by rw [show (x + h % 256) % 256 = (x + h) % 256 by omega]; exact HR.out, ok3.far (by simp; omega) _, oi3.far (by simp; omega) _, hb3.trans ((Out.setCell w3 (lo := g) (Nat.le_refl _) (Nat.lt_succ_self _) k _).below (by omega) hb3.size), by simpa using hsz3⟩
          case measure => simp [intOf]; omega
    · have e : k = n := by omega
      subst e
      have H1 := Lib.hid (show encT q zs k ++ zs.drop k = encB q zs by rw [encB, hl.out, List.drop_of_length_le (by have := hl.out; omega), List.append_nil])
      go_wp2
      go_ret
      exact ⟨_, rfl, by rw [← H1.out]; exact hrw.wide (by omega) hsz, hbw⟩
set_option maxRecDepth 100000 in
set_option maxHeartbeats 3200000 in
theorem impDecrypt_any {w : World} {A : Option Addr} {n c : Nat} {zs : List Int} {q : Int} (hl : Hid (zs.length = n)) (hn : n ≤ 35184372088832) (hr : Rd w w.heap.size A (bvs zs)) (hb : ∀ x ∈ zs, 0 ≤ x ∧ x ≤ 255) :
    Calls Try.prog 18 #[.int .i64 q, .slice A n c] w (Fresh 5 (bvs (decB q zs)) w) := by
  go_enter Try.func18, Try.ntmps18
  go_wp2_with fail
  refine (keyStream_any q w).mono ?_
  rintro e w1 ⟨rfl, ok1, oi1, hb1, hs1⟩
  have hr1 := (hr.below hb1).more hb1.size
  clear hr
  go_wp2_with fail
  refine (copyB_any hl (by omega) hr1).mono ?_
  rintro e w2 ⟨v, rfl, hrow, hb2⟩
  obtain ⟨A2, c2, rfl, _, _, _⟩ := hrow.rd (n := n) (by rw [bvs_len, hl.out])
  have ok2 := ok1.newer hb2
  have oi2 := oi1.newer hb2
  have hb12 := hb1.trans (hb2.mono hb1.size)
  have hs2 := hb2.size
  clear hr1 ok1 oi1 hb1 hb2
  go_wp2
  go_loopw [14] (fun i wr => ∃ k : Nat, k ≤ n ∧ i = .int .i64 k ∧ Row wr w1.heap.size w2.heap.size 5 (.slice A2 n c2) (bvs (decT q zs k ++ zs.drop k)) ∧ One wr w.heap.size 3 (.int .i64 q) ∧ One wr (w.heap.size + 1) 3 (.int .i64 k) ∧ Below w.heap.size w wr ∧ w2.heap.size ≤ wr.heap.size) (fun i _ => n - (intOf i).toNat)
  case atStart => exact ⟨0, Nat.zero_le _, rfl, by simpa [decT] using hrow, ok2, oi2, hb12, Nat.le_refl _⟩
  case round =>
    obtain ⟨k, hk, rfl, hrw, ok, oi, hbw, hsz⟩ := hrel
    clear hrow ok2 oi2 hb12
    by_cases hlt : k < n
    · have hkz : k < zs.length := by rw [hl.out]; exact hlt
      obtain ⟨hx0, hx1⟩ := hb zs[k] (List.getElem_mem _)
      have hown := hrw.own (n := n) (by rw [bvs_len, List.length_append, decT_len, List.length_drop, hl.out]; omega)
      have hgh := hrw.2
      rcases hown.2 with ⟨h1, h2⟩ | ⟨g, cap, cur, h1, hlo, _, _, _, _, _⟩
      · exfalso
        omega
      · injection h1 with e1 _ e3
        subst e1 e3
        have hhi : g < w2.heap.size := hgh g rfl
        obtain ⟨m1, m2⟩ := mix_step (xs := decT q zs k) ((zs.getD k 0 - kst q k) % 256) (decT_len q zs k) hkz
        rw [← decT_succ] at m1
        obtain ⟨hst, hgs⟩ := hown.stored k (.int .u8 ((zs.getD k 0 - kst q k) % 256))
        rw [m1] at hst
        have HM := Lib.hid m1
        have hcA := hown.cellAt k (by omega)
        rw [m2] at hcA
        have hfA := hown.frozenAt k
        rw [getDi_at hkz] at hst hgs
        obtain ⟨x, hx⟩ : ∃ x, x = zs[k] := ⟨_, rfl⟩
        rw [← hx] at hcA hx0 hx1 hst hgs
        obtain ⟨h, hh⟩ : ∃ h, h = kst q k := ⟨_, rfl⟩
        have hh0 : 0 ≤ h := by rw [hh]; exact (kst_range q k).1
        have HN := Lib.hid hlo
        have hk2 : k ≤ 35184372088832 := by omega
        have i1 : (0 : Int) ≤ (k : Int) := by omega
        have i2 : (k : Int) < (n : Int) := by omega
        have hgb : g < w.heap.size + 1 ∨ w.heap.size + 1 + 1 ≤ g := by omega
        have HH := Lib.hid hh
        rw [getDi_at hkz, ← hx, ← hh] at HM
        have hbi : w.heap.size + 1 < w1.heap.size := by omega
        clear hst hgs m1 m2 hx hh hgh
        go_wp2_with fail
        go_region_law (first | (go_simp; go_at_call 91; refine (keyNext_any (k := k) (q := q) hk2 (by exact ok) (by exact oi)).mono ?_; rintro e w3 ⟨rfl, oi3, ho3⟩; rw [← HH.out]; have c3 : w3.cell? ⟨g, k, none⟩ = some (.int .u8 x) := cell_out (by exact hcA) ho3 hgb; have f3 : w3.frozen? ⟨g, k, none⟩ = false := free_out (by exact hfA) (by exact hcA) ho3 hgb))
        all_goals
          have hb3 : Below w.heap.size w w3 := hbw.drew.trans (ho3.below (by omega) (by have := hbw.size; exact this))
          have hs3 := ho3.size
          have ok3 := ok.drew_.out ho3 (.inl (by omega))
          have r3 := row_store (hrw.drew_.out ho3 (.inr (by omega))) (by rw [bvs_len, List.length_append, decT_len, List.length_drop, hl.out]; omega) k (.int .u8 (IntKind.u8.wrap (x - h % 256)))
          rw [dec_wrap, HM.out] at r3
          have HR := Lib.hid r3
          have hsz3 : w2.heap.size ≤ w3.heap.size := Nat.le_trans hsz hs3
          clear r3
          go_wp2
          go_roundw
          case rel =>
            exact ⟨k + 1, by omega, by go_num, by rw [show (x - h % 256) % 256 = (x - h) % 256 by omega]; exact HR.out, ok3.far (by simp; omega) _, oi3.far (by simp; omega) _, hb3.trans ((Out.setCell w3 (lo := g) (Nat.le_refl _) (Nat.lt_succ_self _) k _).below (by omega) hb3.size), by simpa using hsz3⟩
          case measure => simp [intOf]; omega
    · have e : k = n := by omega
      subst e
      have H1 := Lib.hid (show decT q zs k ++ zs.drop k = decB q zs by rw [decB, hl.out, List.drop_of_length_le (by have := hl.out; omega), List.append_nil])
      go_wp2
      go_ret
      exact ⟨_, rfl, by rw [← H1.out]; exact hrw.wide (by omega) hsz, hbw⟩
end Go.Proofs.Ytmemjapmkoenmaa
