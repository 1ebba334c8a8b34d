/- Contracts of the draws of AddAttack and HitBy. Condition: the code's bytes lie in old memory. -/
import Derived.Test.YtejncjjkcmhmbaaDrawG2
import Derived.Test.YtejncjjkcmhmbaaMg1
namespace Go.Proofs.Ytejncjjkcmhmbaa
open Go.ChangeShapes Go.WideShapes Go.ChangeAt Go.RowKit
set_option maxRecDepth 100000
theorem mn12 (N : Int) : mn 12 N ≤ 12 := by unfold mn; split <;> omega
/-- A set was drawn; its memory is new. -/
def DrewS (B : Nat) (A : Option Addr) (n c : Nat) (w : World) (e : Ending) (w' : World) : Prop :=
  ∃ (zs : List Int) (v : Value), zs.length ≤ 12 ∧ e = .returned v ∧ Row w' w.heap.size w'.heap.size 3 v (ivs zs) ∧ w.grownBy w' (some B) ∧ Cur w' B A n c
/-- A graph and an integer were drawn; nothing old has turned. -/
def DrewGI (w : World) (e : Ending) (w' : World) : Prop :=
  ∃ (N : Int) (X : List (List Int)) (v : Value) (x : Int), GOK 10 X ∧ e = .returned (.tuple #[.agg #[.int .i64 N, v], .int .i64 x]) ∧ OwnSS w' w.heap.size w'.heap.size v X ∧ Below w.heap.size w w'
theorem drew_result {w w2 : World} {M : Nat} {v : Value} {X : List (List Int)} (cs : Array Value) (hown : OwnSS w2 M w2.heap.size v X) (hb : Below w.heap.size w w2) (hM : w.heap.size + 1 ≤ M) (hz : w.heap.size ≤ w2.heap.size) :
    OwnSS (w2.setRow w.heap.size cs) w.heap.size (w2.setRow w.heap.size cs).heap.size v X ∧ Below w.heap.size w (w2.setRow w.heap.size cs) :=
  ⟨(hown.out (setRow_out w2 _ cs (Nat.le_refl _) (Nat.lt_succ_self _)) (.inr hM)).wide (by omega) (by simp [World.setRow]), hb.trans ((setRow_out w2 _ cs (Nat.le_refl _) (Nat.lt_succ_self _)).below (Nat.le_refl _) hz)⟩
theorem cells_result {w w2 : World} {M : Nat} {v a b : Value} {X : List (List Int)} (hown : OwnSS w2 M w2.heap.size v X) (hb : Below w.heap.size w w2) (hM : w.heap.size + 1 ≤ M) :
    OwnSS ((w2.setCell ⟨w.heap.size, 0, none⟩ a).setCell ⟨w.heap.size, 1, none⟩ b) w.heap.size ((w2.setCell ⟨w.heap.size, 0, none⟩ a).setCell ⟨w.heap.size, 1, none⟩ b).heap.size v X ∧ Below w.heap.size w ((w2.setCell ⟨w.heap.size, 0, none⟩ a).setCell ⟨w.heap.size, 1, none⟩ b) :=
  ⟨((hown.setFar (p := ⟨w.heap.size, 0, none⟩) (.inl hM) _).setFar (p := ⟨w.heap.size, 1, none⟩) (.inl hM) _).wide (by omega) (by simp), (hb.setCell (Nat.le_refl _) _).setCell (Nat.le_refl _) _⟩
theorem results_cell_tmp2 {fn : Func} {p u v : Tmp} {ty : TypeId} (h : fn.results = #[.cell p ty, .tmp u, .tmp v]) (tmps : Array Value) (P : Program) (w : World) :
    (results fn tmps).run P w = ((asAddr (tmps.getD p undef)).run P w).andThen fun a w₁ => ((loadVar ty a).run P w₁).andThen fun x w₂ => .ok (.tuple #[x, tmps.getD u undef, tmps.getD v undef]) w₂ := by
  simp only [results, h]
  simp [Sem.run_bind, Result.andThen]
theorem resGII {w : World} {fn : Func} {p u v : Tmp} {tmps : Array Value} {g : Nat} {cs : Array Value} {x y : Value} (h : fn.results = #[.cell p 27, .tmp u, .tmp v]) (hb : Bx w g 27 cs) (hs : cs.size = 2) (hp : tmps.getD p undef = .pointer (some ⟨g, 0, none⟩)) (hu : tmps.getD u undef = x) (hv : tmps.getD v undef = y) : (results fn tmps).run Try.prog w = .ok (.tuple #[.agg cs, x, y]) w := by
  rw [results_cell_tmp2 h, hp, hu, hv]
  simp [asAddr, run_loadVar_row w g _ _ cs (0, 0) _ hb Try.underlying27 rfl (by rw [GR_info, hs])]
end Go.Proofs.Ytejncjjkcmhmbaa

/- Contracts of the draw of HitBy, and of the law's contains and ascends. Condition: the code's bytes lie in old memory. -/
namespace Go.Proofs.Ytejncjjkcmhmbaa
open Go.ChangeShapes Go.WideShapes Go.ChangeAt Go.RowKit
set_option maxRecDepth 100000
/-- A graph and a set were drawn; nothing old has turned. -/
def DrewGS (w : World) (e : Ending) (w' : World) : Prop :=
  ∃ (N : Int) (X : List (List Int)) (v : Value) (zs : List Int) (u : Value), GOK 10 X ∧ zs.length ≤ 12 ∧ e = .returned (.tuple #[.agg #[.int .i64 N, v], u]) ∧ OwnSS w' w.heap.size w'.heap.size v X ∧ Row w' w.heap.size w'.heap.size 3 u (ivs zs) ∧ Below w.heap.size w w'
/-- The same; the set's row lies behind the graph's. -/
def DrewGS2 (k : Nat) (w : World) (e : Ending) (w' : World) : Prop :=
  ∃ (N : Int) (X : List (List Int)) (v : Value) (zs : List Int) (u : Value) (M : Nat), GOK 10 X ∧ zs.length ≤ k ∧ e = .returned (.tuple #[.agg #[.int .i64 N, v], u]) ∧ w.heap.size ≤ M ∧ M ≤ w'.heap.size ∧ OwnSS w' w.heap.size M v X ∧ Row w' M w'.heap.size 3 u (ivs zs) ∧ Below w.heap.size w w'
theorem contains_any {w : World} {A : Option Addr} {n c : Nat} {a : Int} {S : List Int} (hl : Hid (S.length = n)) (hn : n ≤ 1099511627776) (hr : Rd w w.heap.size A (ivs S)) :
    Calls Try.prog 38 #[.slice A n c, .int .i64 a] w (fun e w' => e = .returned (.bool (S.contains a)) ∧ w = w') := by
  go_enter Try.func38, Try.ntmps38
  go_wp2_with fail
  go_loopw [5] (fun i wr => ∃ k : Nat, k ≤ n ∧ i = .int .i64 k ∧ wr = w ∧ Hid ((S.take k).contains a = false)) (fun i _ => n - (intOf i).toNat)
  case atStart => exact ⟨0, Nat.zero_le _, rfl, rfl, Lib.hid rfl⟩
  case round =>
    obtain ⟨k, hk, rfl, rfl, hno⟩ := hrel
    by_cases hlt : k < n
    · have hkz : k < S.length := by rw [hl.out]; exact hlt
      obtain ⟨ad, rfl, hab, hc⟩ := ivs_at hr hkz
      have i0 : (0 : Int) ≤ (k : Int) := by omega
      by_cases h1 : S[k] = a
      · have HY := Lib.hid (show S.contains a = true by rw [List.contains_iff_mem]; exact h1 ▸ List.getElem_mem hkz)
        rw [h1] at hc
        clear h1
        go_wp2_with fail
        go_ret
        exact ⟨ret_b HY.out.symm, rfl⟩
      · have HN := Lib.hid (show (S.take (k + 1)).contains a = false by
          rw [List.take_succ_eq_append_getElem hkz]
          have := hno.out
          simp only [List.contains_eq_mem, decide_eq_false_iff_not, List.mem_append, List.mem_singleton, not_or] at this ⊢
          exact ⟨this, fun e => h1 e.symm⟩)
        have h1' : (S[k] == a) = false := by simpa using h1
        obtain ⟨z, hz⟩ : ∃ z, z = S[k] := ⟨_, rfl⟩
        rw [← hz] at hc h1 h1'
        clear hz
        go_wp2_with fail
        go_roundw
        case rel => exact ⟨k + 1, by omega, by go_num, trivial, HN⟩
        case measure => simp [intOf]; omega
    · have e : k = n := by omega
      subst e
      have HF := Lib.hid (show S.contains a = false by have := hno.out; rwa [List.take_of_length_le (by rw [hl.out]; exact Nat.le_refl _)] at this)
      go_wp2_with fail
      go_ret
      exact ⟨ret_b HF.out.symm, rfl⟩
theorem ascends_any {w : World} {A : Option Addr} {n c : Nat} {S : List Int} (hl : Hid (S.length = n)) (hn : n ≤ 1099511627776) (ha : S.Pairwise (· < ·)) (hr : Rd w w.heap.size A (ivs S)) :
    Calls Try.prog 57 #[.slice A n c] w (Tells true w) := by
  rw [List.pairwise_iff_getElem] at ha
  have HA := Lib.hid ha
  clear ha
  go_enter Try.func57, Try.ntmps57
  go_wp2_with fail
  go_loopw [3] (fun i wr => ∃ k m : Nat, (k ≤ n ∨ k = 1) ∧ 1 ≤ k ∧ i = .int .i64 k ∧ wr = w.drewN m) (fun i _ => n - (intOf i).toNat)
  case atStart => exact ⟨1, 0, .inr rfl, Nat.le_refl _, rfl, rfl⟩
  case round =>
    obtain ⟨k, m, hk, hk1, rfl, rfl⟩ := hrel
    by_cases hlt : k < n
    · have hkz : k < S.length := by rw [hl.out]; exact hlt
      have hkp : 0 < k := by omega
      have hk2 : k - 1 < S.length := by omega
      obtain ⟨ad, rfl, hab, hc⟩ := ivs_at hr hkz
      obtain ⟨ad', e', hab', hc'⟩ := ivs_at hr hk2
      injection e' with e'
      subst e'
      have hlt2 := HA.out (k - 1) k hk2 hkz (by omega)
      obtain ⟨y, hy⟩ : ∃ y, y = S[k - 1] := ⟨_, rfl⟩
      obtain ⟨z, hz⟩ : ∃ z, z = S[k] := ⟨_, rfl⟩
      rw [← hz] at hc hlt2
      rw [← hy] at hc' hlt2
      have hnge : ¬ z ≤ y := by omega
      have d1 : decide (z ≤ y) = false := decide_eq_false hnge
      clear hy hz hab hab'
      go_wp2
      go_quiet (fail)
      go_wp2
      go_roundw
      case rel => exact ⟨k + 1, _, .inl (by omega), by omega, by go_num, rfl⟩
      case measure => simp [intOf]; omega
    · go_wp2
      go_ret
      exact ⟨rfl, below_drewN (Below.refl _ _) m⟩
end Go.Proofs.Ytejncjjkcmhmbaa

/- Contracts of the draws of chapters 5 and 6: IsGraph, IsSet, IsStable, Grounded; of the law's within. Condition: the code's bytes lie in old memory. -/
namespace Go.Proofs.Ytejncjjkcmhmbaa
open Go.ChangeShapes Go.WideShapes Go.ChangeAt Go.RowKit
set_option maxRecDepth 100000
theorem within_any {w : World} {A A' : Option Addr} {n c n' c' : Nat} {S T : List Int} (hl : Hid (S.length = n)) (hn : n ≤ 1099511627776) (hl' : Hid (T.length = n')) (hn' : n' ≤ 1099511627776) (hr : Rd w w.heap.size A (ivs S)) (hr' : Rd w w.heap.size A' (ivs T)) :
    Calls Try.prog 34 #[.slice A n c, .slice A' n' c'] w (fun e w' => e = .returned (.bool (S.all fun z => T.contains z)) ∧ w = w') := by
  go_enter Try.func34, Try.ntmps34
  go_wp2_with fail
  go_loopw [5] (fun i wr => ∃ k : Nat, k ≤ n ∧ i = .int .i64 k ∧ wr = w ∧ Hid ((S.take k).all (fun z => T.contains z) = true)) (fun i _ => n - (intOf i).toNat)
  case atStart => exact ⟨0, Nat.zero_le _, rfl, rfl, Lib.hid rfl⟩
  case round =>
    obtain ⟨k, hk, rfl, rfl, hno⟩ := hrel
    by_cases hlt : k < n
    · have hkz : k < S.length := by rw [hl.out]; exact hlt
      obtain ⟨ad, rfl, hab, hc⟩ := ivs_at hr hkz
      have i0 : (0 : Int) ≤ (k : Int) := by omega
      have HT := Lib.hid (show (S.take (k + 1)).all (fun z => T.contains z) = T.contains S[k] by
        rw [List.take_succ_eq_append_getElem hkz, List.all_append, hno.out]; simp)
      have HM := Lib.hid (List.getElem_mem hkz)
      obtain ⟨z, hz⟩ : ∃ z, z = S[k] := ⟨_, rfl⟩
      rw [← hz] at hc HT HM
      clear hz
      by_cases h1 : T.contains z = true
      · have H1 := Lib.hid h1
        have HN := Lib.hid (HT.out.trans h1)
        clear h1
        go_wp2_with fail
        refine (contains_any hl' hn' hr').mono ?_
        rintro e w5 ⟨rfl, rfl⟩
        rw [H1.out]
        go_wp2_with fail
        go_roundw
        case rel => exact ⟨k + 1, by omega, by go_num, trivial, HN⟩
        case measure => simp [intOf]; omega
      · have h1' : T.contains z = false := by simpa using h1
        have H1 := Lib.hid h1'
        have HF := Lib.hid (show (S.all fun z => T.contains z) = false by
          rw [List.all_eq_false]
          exact ⟨z, HM.out, by rw [h1']; simp⟩)
        clear h1 h1'
        go_wp2_with fail
        refine (contains_any hl' hn' hr').mono ?_
        rintro e w5 ⟨rfl, rfl⟩
        rw [H1.out]
        go_wp2_with fail
        go_ret
        exact ⟨ret_b HF.out.symm, rfl⟩
    · have e : k = n := by omega
      subst e
      have HF := Lib.hid (show (S.all fun z => T.contains z) = true by have := hno.out; rwa [List.take_of_length_le (by rw [hl.out]; exact Nat.le_refl _)] at this)
      go_wp2_with fail
      go_ret
      exact ⟨ret_b HF.out.symm, rfl⟩
end Go.Proofs.Ytejncjjkcmhmbaa
