/- The sets of speakers of chapter 15: maps whose keys are the speakers; contract of the code's speakersOf. Conditions: ints of 64 bits; the lists have at most 2^40 elements in all. -/
import Derived.Test.YtignchefkihdaaaOrdA
import Derived.Test.YtignchefkihdaaaIntSS
import Derived.Maps.Own
import Derived.Maps.Views
namespace Go.Proofs.Ytignchefkihdaaa
open Go.ChangeShapes Go.WideShapes Go.ChangeAt Go.RowKit
set_option maxRecDepth 100000
theorem spk_law : Maps.Keyed Try.prog 3 := Maps.int_keyed Try.underlying3
theorem bool0 (w : World) : (zeroValue 4).run Try.prog w = .ok (.bool false) w := by kernel_rfl
def InI (a : Int) : Prop := IntKind.i64.min ≤ a ∧ a ≤ IntKind.i64.max
theorem inI_wf {a : Int} (h : InI a) : (Lit.int .i64 a).wf = true := by
  unfold InI at h
  simp only [Lit.wf, Bool.and_eq_true, decide_eq_true_eq]
  exact h
theorem inI_key {a : Int} (h : InI a) : keyOf Try.prog 3 (.int .i64 a) = some (.int .i64 a) := Maps.keyOf_int_mk Try.underlying3 (inI_wf h)
/-- Block B is a map with at most n entries whose keys are the elements of S. -/
def Spk (S : List Int) (B n : Nat) (w : World) : Prop := ∃ D : DataW Unit, w.ownsMap Try.prog 3 (plainElem (H := Unit) Try.prog 4) B n D ∧ Maps.Tidy D ∧ (∀ a, D.atKey (.int .i64 a) (.lit (.bool false)) = .lit (.bool (S.contains a))) ∧ (∀ a, Maps.has D (.int .i64 a) = S.contains a) ∧ Maps.size D ≤ S.length ∧ (Maps.size D = S.length ↔ S.Nodup)
theorem nd_snoc {S : List Int} {a : Int} : (S ++ [a]).Nodup ↔ S.Nodup ∧ S.contains a = false := by
  rw [List.nodup_append]
  simp only [List.contains_eq_mem, decide_eq_false_iff_not]
  constructor
  · rintro ⟨h1, _, h3⟩
    exact ⟨h1, fun h => h3 a h a (by simp) rfl⟩
  · rintro ⟨h1, h2⟩
    refine ⟨h1, by simp, fun z hz u hu e => ?_⟩
    rw [List.mem_singleton] at hu
    subst hu
    subst e
    exact h2 hz
section
variable {S : List Int} {B n : Nat} {w w' : World} {a : Int}
theorem Spk.lt (h : Spk S B n w) : B < w.heap.size := by
  obtain ⟨D, ho, _⟩ := h
  exact ho.lt
theorem Spk.kept (h : Spk S B n w) (hb : w'.heap[B]? = w.heap[B]?) : Spk S B n w' := by
  obtain ⟨D, ⟨es, clock, h1, h2⟩, h3⟩ := h
  exact ⟨D, ⟨es, clock, hb.trans h1, h2⟩, h3⟩
theorem Spk.new (h : Spk S B n w) (hb : Below w.heap.size w w') : Spk S B n w' := h.kept (hb.block B h.lt)
theorem Spk.made (w : World) : Spk [] w.heap.size 0 (w.alloc (.map #[] 0)) := ⟨.map [], World.ownsMap_made w _ _ _, Maps.tidy_empty, fun _ => rfl, fun _ => rfl, Nat.le_refl _, by simp [Maps.size]⟩
/-- How many different speakers there are. -/
theorem Spk.len (h : Spk S B n w) (ty : TypeId) : ∃ m : Nat, (Builtin.len_ #[127] ty #[.map (some B)]).run Try.prog w = .ok (.int .i64 (m : Int)) w ∧ m ≤ S.length ∧ (m = S.length ↔ S.Nodup) := by
  obtain ⟨D, ⟨es, clock, hb, _, _, hD⟩, _, _, _, h1, h2⟩ := h
  have e : Maps.size D = es.size := by
    rw [hD, Maps.size_eq, length_sorted]
    simp
  rw [e] at h1 h2
  refine ⟨es.size, ?_, h1, h2⟩
  simp [Builtin.len_, run_underlying Try.underlying127, MapKept.run_getObj_map hb, goInt]
theorem Spk.look (h : Spk S B n w) (ha : InI a) : (Instr.lookup 127 (.map (some B)) (.int .i64 a) false).run Try.prog w = .ok (.bool (S.contains a)) w := by
  obtain ⟨D, ho, hm, hat, _⟩ := h
  obtain ⟨v, ps, hrun, hv⟩ := ho.lookup spk_law Try.underlying127 (bool0 w) (plainElem_bool Try.underlying4 false) (inI_key ha)
  rw [hat a] at hv
  rw [hrun]
  unfold plainElem at hv
  rw [Try.underlying4] at hv
  cases v <;> simp at hv
  rw [hv.1, List.contains_eq_mem]
theorem Spk.store (h : Spk S B n w) (hn : n < 1099511627776) (ha : InI a) :
    ∃ w', (Instr.mapUpdate 127 (.map (some B)) (.int .i64 a) (.bool true)).run Try.prog w = .ok () w' ∧ Spk (S ++ [a]) B (n + 1) w' ∧ Out B (B + 1) w w' := by
  obtain ⟨D, ho, htd, hat, hhas, hsz, hnd⟩ := h
  have hm := htd.isMap
  have hkl : WideAt.IsKeyLit (.int .i64 a) := trivial
  obtain ⟨w', hrun, ho', hg⟩ := ho.update spk_law Try.underlying127 (by unfold maxLen; omega) (inI_key ha) (plainElem_bool Try.underlying4 true)
  refine ⟨w', hrun, ⟨_, ho', htd.put hkl _, fun b => ?_, fun b => ?_, ?_, ?_⟩, ⟨hg.os, hg.tape, hg.output, hg.size, fun k hk hd => hg.block k hk (by simp; omega)⟩⟩
  · by_cases e : b = a
    · subst e
      rw [Maps.atKey_put_same hm (show WideAt.IsKeyLit (.int .i64 b) from trivial)]
      simp
    · rw [Maps.atKey_put_other (by simpa using e), hat b]
      congr 2
      rw [Bool.eq_iff_iff]
      simp [e]
  · by_cases e : b = a
    · subst e
      rw [Maps.has_put_same hm hkl]
      simp
    · rw [Maps.has_put_other (by simpa using e), hhas b]
      rw [Bool.eq_iff_iff]
      simp [e]
  · rw [Maps.size_put htd, hhas a, List.length_append]
    split <;> simp <;> omega
  · rw [Maps.size_put htd, hhas a, List.length_append, nd_snoc]
    split
    · rename_i hc
      rw [hc]
      simp
      omega
    · rename_i hc
      have hc : S.contains a = false := by simpa using hc
      rw [hc]
      simpa using hnd
end
set_option maxHeartbeats 4000000 in
theorem speakersOf_any {w : World} {A : Option Addr} {n c : Nat} {X : List (List Int)} (hl : Hid (X.length = n)) (hn : n ≤ 1099511627776) (hI : Hid (∀ x ∈ X, ∀ a ∈ x, InI a)) (hp : Hid (X.flatten.length ≤ 1099511627776)) (hr : RdSS w w.heap.size A X) :
    Calls Try.prog 111 #[.slice A n c] w (fun e w' => e = .returned (.map (some w.heap.size)) ∧ Spk X.flatten w.heap.size X.flatten.length w' ∧ Below w.heap.size w w') := by
  have hm0 := Spk.made w
  have hb0 : Below w.heap.size w (w.alloc (.map #[] 0)) := (Below.refl _ _).alloc (Nat.le_refl _) _
  have HR := Lib.hid hr
  clear hr
  have hmm := @run_makeMap Try.prog
  go_enter Try.func111, Try.ntmps111
  go_wp2_with fail
  go_loopw [11] (fun i wr => ∃ k : Nat, k ≤ n ∧ i = .int .i64 k ∧ Spk (X.take k).flatten w.heap.size (X.take k).flatten.length wr ∧ Below w.heap.size w wr) (fun i _ => n - (intOf i).toNat)
  case atStart => exact ⟨0, Nat.zero_le _, rfl, hm0, hb0⟩
  case round =>
    obtain ⟨k, hk, rfl, hm, hb⟩ := hrel
    clear hm0 hb0
    have hsz := hb.size
    by_cases hlt : k < n
    · have hkz : k < X.length := by rw [hl.out]; exact hlt
      obtain ⟨ad, Aj, cj, rfl, hab, hc, _, _, hrd⟩ := HR.out.at_ hkz
      replace hc := (hb.cell (p := ad.add k) (by rw [add_blk]; exact hab)).trans hc
      have i0 : (0 : Int) ≤ (k : Int) := by omega
      have i1 : (k : Int) < (n : Int) := by omega
      have HT := Lib.hid (show (X.take (k + 1)).flatten = (X.take k).flatten ++ X[k] by rw [List.take_succ_eq_append_getElem hkz, List.flatten_append, List.flatten_singleton])
      have HX := Lib.hid (hI.out X[k] (List.getElem_mem _))
      have HL := Lib.hid (show (X.take k).flatten.length + X[k].length ≤ 1099511627776 by
        have h1 : ((X.take (k + 1)).flatten).length ≤ X.flatten.length := by
          conv => rhs; rw [← List.take_append_drop (k + 1) X]
          rw [List.flatten_append, List.length_append]; omega
        rw [HT.out, List.length_append] at h1
        have := hp.out
        omega)
      obtain ⟨x, hx⟩ : ∃ x, x = X[k] := ⟨_, rfl⟩
      rw [← hx] at hc hrd HT HX HL
      obtain ⟨Y, hY⟩ : ∃ Y, Y = (X.take k).flatten := ⟨_, rfl⟩
      rw [← hY] at HT HL hm
      have HM := Lib.hid hm
      have hln := HL.out
      have HRX := Lib.hid hrd
      have hlw := hm.lt
      clear hx hY hm hrd
      go_wp2_with fail
      go_loopw [17] (fun i wq => ∃ j : Nat, j ≤ x.length ∧ i = .int .i64 j ∧ Spk (Y ++ x.take j) w.heap.size (Y.length + j) wq ∧ Below w.heap.size w wq) (fun i _ => x.length - (intOf i).toNat)
      case atStart => exact ⟨0, Nat.zero_le _, rfl, by simpa using HM.out, hb⟩
      case round =>
        obtain ⟨j, hj, rfl, hq, hbq⟩ := hrel
        by_cases hlj : j < x.length
        · obtain ⟨ad2, rfl, _, hc2⟩ := ivs_at (HRX.out.below hbq) hlj
          have ha := HX.out x[j] (List.getElem_mem _)
          have HT2 := Lib.hid (List.take_succ_eq_append_getElem hlj)
          obtain ⟨a, haa⟩ : ∃ a, a = x[j] := ⟨_, rfl⟩
          rw [← haa] at hc2 ha HT2
          obtain ⟨w9, hrun, hm9, ho9⟩ := hq.store (by omega) ha
          have j0 : (0 : Int) ≤ (j : Int) := by omega
          have j1 : (j : Int) < (x.length : Int) := by omega
          have HM9 := Lib.hid hm9
          clear haa hm9
          go_wp2_with fail
          go_roundw
          case rel => exact ⟨j + 1, by omega, by go_num, by rw [HT2.out, ← List.append_assoc]; exact HM9.out, hbq.trans (ho9.below (Nat.le_refl _) hbq.size)⟩
          case measure => simp [intOf]; omega
        · have e : j = x.length := by omega
          subst e
          rw [List.take_of_length_le (Nat.le_refl _)] at hq
          have HQ := Lib.hid hq
          clear hq
          go_wp2_with fail
          go_roundw
          case rel => exact ⟨k + 1, by omega, by go_num, by rw [HT.out, List.length_append]; exact HQ.out, hbq⟩
          case measure => simp [intOf]; omega
    · have e : k = n := by omega
      subst e
      rw [List.take_of_length_le (by rw [hl.out]; exact Nat.le_refl _)] at hm
      have HM := Lib.hid hm
      clear hm
      go_wp2_with fail
      go_ret
      exact ⟨rfl, HM.out, hb⟩
end Go.Proofs.Ytignchefkihdaaa
