/- Contracts of the draw of HitBy, and of the law's contains and ascends. Condition: the code's bytes lie in old memory. -/
import Derived.Test.YtncndlojceiejaaDrawG3
namespace Go.Proofs.Ytncndlojceiejaa
open Go.ChangeShapes Go.WideShapes Go.ChangeAt Go.RowKit
set_option maxRecDepth 100000
/-- A graph and a set were drawn; nothing old has turned. -/
def DrewGS (w : World) (e : Ending) (w' : World) : Prop :=
  ∃ (N : Int) (X : List (List Int)) (v : Value) (zs : List Int) (u : Value), GOK 10 X ∧ zs.length ≤ 12 ∧ e = .returned (.tuple #[.agg #[.int .i64 N, v], u]) ∧ OwnSS w' w.heap.size w'.heap.size v X ∧ Row w' w.heap.size w'.heap.size 3 u (ivs zs) ∧ Below w.heap.size w w'
/-- The same; the set's row lies behind the graph's. -/
def DrewGS2 (k : Nat) (w : World) (e : Ending) (w' : World) : Prop :=
  ∃ (N : Int) (X : List (List Int)) (v : Value) (zs : List Int) (u : Value) (M : Nat), GOK 10 X ∧ zs.length ≤ k ∧ e = .returned (.tuple #[.agg #[.int .i64 N, v], u]) ∧ w.heap.size ≤ M ∧ M ≤ w'.heap.size ∧ OwnSS w' w.heap.size M v X ∧ Row w' M w'.heap.size 3 u (ivs zs) ∧ Below w.heap.size w w'
set_option maxHeartbeats 1000000 in
theorem drawHit2 {w : World} {A : Option Addr} {n c : Nat} (h : Code8 w A n) :
    Calls Try.prog 21 #[.slice A n c] w (DrewGS2 12 w) := by
  have bx0 := Bx.made w 26 #[Value.int .i64 0, .slice none 0 0]
  have hb0 : Below w.heap.size w (w.alloc (Obj.cells #[Value.int .i64 0, .slice none 0 0] 26)) := (Below.refl _ _).alloc (Nat.le_refl _) _
  have h0 := h.below hb0
  have hs0 : (w.alloc (Obj.cells #[Value.int .i64 0, .slice none 0 0] 26)).heap.size = w.heap.size + 1 := by simp
  go_enter Try.func21, Try.ntmps21
  go_wp2_with fail
  refine (new_any h0).mono ?_
  rintro e w1 ⟨rfl, hb1, cur1⟩
  have br1 := bx0.new hb1
  have hz1 := hb1.size
  have hbw1 := hb0.trans (hb1.mono hb0.size)
  rw [hs0] at hz1 cur1 ⊢
  go_wp2_with fail
  refine (any4_any cur1).mono ?_
  rintro e w2 ⟨N, X, v, _, hok, rfl, hown2, hg2, cur2⟩
  obtain ⟨Av, cv, rfl, _, _, _⟩ := hown2.rd (n := X.length) rfl
  have hl1 := cur1.lt
  have hz2 := hg2.size
  have br2 := br1.only hg2 (by omega)
  have hbw2 := cur_below hbw1 hg2 (by omega)
  have k3 : Below w2.heap.size w2 (w2.alloc (Obj.cells #[Value.int .i64 N, .slice Av X.length cv] 26)) := (Below.refl _ _).alloc (Nat.le_refl _) _
  have br3 := br2.new k3
  have bg3 := Bx.made w2 26 #[Value.int .i64 N, .slice Av X.length cv]
  have ho3 := (hown2.new k3).wide (hi' := (w2.alloc (Obj.cells #[Value.int .i64 N, .slice Av X.length cv] 26)).heap.size) (Nat.le_refl _) k3.size
  have cur3 := cur2.below k3
  have hbw3 := hbw2.trans (k3.mono hbw2.size)
  have HOK := Lib.hid hok
  have hx3 : (w2.alloc (Obj.cells #[Value.int .i64 N, .slice Av X.length cv] 26)).heap.size = w2.heap.size + 1 := by simp
  obtain ⟨w3, hw3⟩ : ∃ u : World, u = w2.alloc (Obj.cells #[Value.int .i64 N, .slice Av X.length cv] 26) := ⟨_, rfl⟩
  rw [← hw3] at br3 bg3 ho3 cur3 hbw3 hx3
  obtain ⟨g, hg⟩ : ∃ g, g = w2.heap.size := ⟨_, rfl⟩
  have hHW := Lib.hid hw3.symm
  clear bx0 hb0 h0 br1 hb1 hbw1 cur1 br2 hbw2 k3 hown2 hg2 cur2 hok hw3 hs0
  go_wp2_with fail
  rw [hHW.out]
  clear hHW
  rw [← hg] at bg3 hx3 hz2 ⊢
  clear hg
  have hHB := Lib.hid bg3
  have HR := Lib.hid br3
  have HO := Lib.hid ho3
  have HC := Lib.hid cur3
  obtain ⟨D0, D1⟩ := bg3.two
  have hBg : w.heap.size + 1 ≠ g := by omega
  have hBr : w.heap.size + 1 ≠ w.heap.size := by omega
  clear bg3 br3 ho3 cur3
  go_region_law (first
    | (go_simp; go_at_call 52; refine (set4_any (HC.out.drew_)).mono ?_; rintro e w7 ⟨zs, u, hzl, rfl, hrow7, hg7, cur7⟩; have bg7 := hHB.out.drew_.only hg7 hBg; have br7 := HR.out.drew_.only hg7 hBr; have ho7 := (HO.out.new ((Below.refl _ _).drew)).only hg7 (by omega); have hz7 : w3.heap.size ≤ w7.heap.size := hg7.size; have hbw7 : Below w.heap.size w w7 := cur_below hbw3.drew hg7 (by omega); obtain ⟨E0, E1⟩ := bg7.two; obtain ⟨R0, R1⟩ := br7.two; have r0 := br7.free 0; have r1 := br7.free 1; have hrw7 : Row w7 w3.heap.size w7.heap.size 3 u (ivs zs) := hrow7))
  all_goals
    go_wp2
    have hk := cells_result (a := .int .i64 N) (b := .slice Av X.length cv) (ho7.wide (Nat.le_refl _) hz7) hbw7 (by omega)
    have hk2 := ((ho7.setFar (p := ⟨w.heap.size, 0, none⟩) (.inl (by simp; omega)) (.int .i64 N)).setFar (p := ⟨w.heap.size, 1, none⟩) (.inl (by simp; omega)) (.slice Av X.length cv)).wide (lo' := w.heap.size) (by omega) (Nat.le_refl _)
    refine bodyPost_ret (resGB rfl ((br7.set 0 _).set 1 _) rfl rfl rfl) rfl ⟨N, X, .slice Av X.length cv, zs, u, w3.heap.size, HOK.out, hzl, rfl, hbw3.size, by simpa using hz7, hk2, ?_, hk.2⟩
    exact ((hrw7.out (Out.setCell w7 (lo := w.heap.size) (hi := w.heap.size + 1) (Nat.le_refl _) (Nat.lt_succ_self _) 0 _) (.inr (by omega))).out (Out.setCell _ (lo := w.heap.size) (hi := w.heap.size + 1) (Nat.le_refl _) (Nat.lt_succ_self _) 1 _) (.inr (by omega))).wide (Nat.le_refl _) (by simp)
theorem drawHit {w : World} {A : Option Addr} {n c : Nat} (h : Code8 w A n) :
    Calls Try.prog 21 #[.slice A n c] w (DrewGS w) := (drawHit2 h).mono fun _ _ ⟨N, X, v, zs, u, _, hok, hz, he, h1, h2, hs, hr, hb⟩ => ⟨N, X, v, zs, u, hok, hz, he, hs.wide (Nat.le_refl _) h2, hr.wide h1 (Nat.le_refl _), hb⟩
theorem contains_any {w : World} {A : Option Addr} {n c : Nat} {a : Int} {S : List Int} (hl : Hid (S.length = n)) (hn : n ≤ 1099511627776) (hr : Rd w w.heap.size A (ivs S)) :
    Calls Try.prog 18 #[.slice A n c, .int .i64 a] w (fun e w' => e = .returned (.bool (S.contains a)) ∧ w = w') := by
  go_enter Try.func18, Try.ntmps18
  go_wp2_with fail
  go_loopw [5] (fun i wr => ∃ k : Nat, k ≤ n ∧ i = .int .i64 k ∧ wr = w ∧ Hid ((S.take k).contains a = false)) (fun i _ => n - (intOf i).toNat)
  case atStart => exact ⟨0, Nat.zero_le _, rfl, rfl, Lib.hid rfl⟩
  case round =>
    obtain ⟨k, hk, rfl, rfl, hno⟩ := hrel
    by_cases hlt : k < n
    · have hkz : k < S.length := by rw [hl.out]; exact hlt
      obtain ⟨ad, rfl, hab, hc⟩ := ivs_at hr hkz
      have i0 : (0 : Int) ≤ (k : Int) := by omega
      by_cases h1 : S[k] = a
      · have HY := Lib.hid (show S.contains a = true by rw [List.contains_iff_mem]; exact h1 ▸ List.getElem_mem hkz)
        rw [h1] at hc
        clear h1
        go_wp2_with fail
        go_ret
        exact ⟨ret_b HY.out.symm, rfl⟩
      · have HN := Lib.hid (show (S.take (k + 1)).contains a = false by
          rw [List.take_succ_eq_append_getElem hkz]
          have := hno.out
          simp only [List.contains_eq_mem, decide_eq_false_iff_not, List.mem_append, List.mem_singleton, not_or] at this ⊢
          exact ⟨this, fun e => h1 e.symm⟩)
        have h1' : (S[k] == a) = false := by simpa using h1
        obtain ⟨z, hz⟩ : ∃ z, z = S[k] := ⟨_, rfl⟩
        rw [← hz] at hc h1 h1'
        clear hz
        go_wp2_with fail
        go_roundw
        case rel => exact ⟨k + 1, by omega, by go_num, trivial, HN⟩
        case measure => simp [intOf]; omega
    · have e : k = n := by omega
      subst e
      have HF := Lib.hid (show S.contains a = false by have := hno.out; rwa [List.take_of_length_le (by rw [hl.out]; exact Nat.le_refl _)] at this)
      go_wp2_with fail
      go_ret
      exact ⟨ret_b HF.out.symm, rfl⟩
theorem ascends_any {w : World} {A : Option Addr} {n c : Nat} {S : List Int} (hl : Hid (S.length = n)) (hn : n ≤ 1099511627776) (ha : S.Pairwise (· < ·)) (hr : Rd w w.heap.size A (ivs S)) :
    Calls Try.prog 23 #[.slice A n c] w (Tells true w) := by
  rw [List.pairwise_iff_getElem] at ha
  have HA := Lib.hid ha
  clear ha
  go_enter Try.func23, Try.ntmps23
  go_wp2_with fail
  go_loopw [3] (fun i wr => ∃ k m : Nat, (k ≤ n ∨ k = 1) ∧ 1 ≤ k ∧ i = .int .i64 k ∧ wr = w.drewN m) (fun i _ => n - (intOf i).toNat)
  case atStart => exact ⟨1, 0, .inr rfl, Nat.le_refl _, rfl, rfl⟩
  case round =>
    obtain ⟨k, m, hk, hk1, rfl, rfl⟩ := hrel
    by_cases hlt : k < n
    · have hkz : k < S.length := by rw [hl.out]; exact hlt
      have hkp : 0 < k := by omega
      have hk2 : k - 1 < S.length := by omega
      obtain ⟨ad, rfl, hab, hc⟩ := ivs_at hr hkz
      obtain ⟨ad', e', hab', hc'⟩ := ivs_at hr hk2
      injection e' with e'
      subst e'
      have hlt2 := HA.out (k - 1) k hk2 hkz (by omega)
      obtain ⟨y, hy⟩ : ∃ y, y = S[k - 1] := ⟨_, rfl⟩
      obtain ⟨z, hz⟩ : ∃ z, z = S[k] := ⟨_, rfl⟩
      rw [← hz] at hc hlt2
      rw [← hy] at hc' hlt2
      have hnge : ¬ z ≤ y := by omega
      have d1 : decide (z ≤ y) = false := decide_eq_false hnge
      clear hy hz hab hab'
      go_wp2
      go_quiet (fail)
      go_wp2
      go_roundw
      case rel => exact ⟨k + 1, _, .inl (by omega), by omega, by go_num, rfl⟩
      case measure => simp [intOf]; omega
    · go_wp2
      go_ret
      exact ⟨rfl, below_drewN (Below.refl _ _) m⟩
end Go.Proofs.Ytncndlojceiejaa
