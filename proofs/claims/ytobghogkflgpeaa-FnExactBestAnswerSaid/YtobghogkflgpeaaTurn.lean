/- The map of the game: turns as keys, and a map all of whose entries are right. -/
import Derived.Test.YtobghogkflgpeaaHldMath
import Derived.Test.YtobghogkflgpeaaRenMath
import Derived.Test.YtobghogkflgpeaaMg3
import Derived.Maps.Keyed
import Derived.Maps.Own
import Derived.DeepKeys4
namespace Go.Proofs.Ytobghogkflgpeaa
open Go.ChangeShapes Go.WideShapes Go.ChangeAt Go.RowKit
set_option maxRecDepth 100000
theorem turn_row : (87 : TypeId) < Try.prog.types.size := of_decide_eq_true (by kernel_rfl)
theorem turn_wide : (match Try.prog.underlying 87 with | some (.array _ _) | some (.struct _) => true | _ => false) = true := by rw [Try.underlying87]
theorem game_laid : laidOutB Try.prog = true := by kernel_rfl
theorem turn_law : Maps.Keyed Try.prog 87 := Maps.Keyed.of_law (deep_law_laid game_laid (m := 3) (by omega) turn_row (by kernel_rfl) turn_wide)
theorem turn_cells : Try.prog.cellsOf 87 = 2 := by kernel_rfl
theorem bits_cells : Try.prog.cellsOf 67 = 1 := by kernel_rfl
theorem int_cells : Try.prog.cellsOf 3 = 1 := by kernel_rfl
theorem turn_kt : Try.prog.keyType 87 = true := by kernel_rfl
/-- A turn. -/
def tnV (u c : Nat) : Value := .agg #[.int .u16 (u : Nat), .int .i64 (c : Nat)]
theorem u16_wf {u : Nat} (h : u < 1024) : (Lit.int .u16 (u : Nat)).wf = true := by
  have e1 : IntKind.u16.min = 0 := by decide
  have e2 : IntKind.u16.max = 65535 := by decide
  simp [Lit.wf, e1, e2]
  omega
theorem i64_wf {c : Nat} (h : c < 10) : (Lit.int .i64 (c : Nat)).wf = true := by
  have e1 : IntKind.i64.min = -9223372036854775808 := by decide
  have e2 : IntKind.i64.max = 9223372036854775807 := by decide
  simp [Lit.wf, e1, e2]
  omega
theorem turn_key {u c : Nat} (hu : u < 1024) (hc : c < 10) : ∃ kl, keyOf Try.prog 87 (tnV u c) = some kl := by
  have hrow := turn_row
  obtain ⟨m, hm⟩ : ∃ m, Try.prog.types.size = m + 1 := by
    cases h : Try.prog.types.size with
    | zero => rw [h] at hrow; exact absurd hrow (Nat.not_lt_zero _)
    | succ m => exact ⟨m, rfl⟩
  obtain ⟨k, rfl⟩ : ∃ k, m = k + 1 := by
    cases m with
    | zero => rw [hm] at hrow; exact absurd hrow (by decide)
    | succ k => exact ⟨k, rfl⟩
  unfold keyOf tnV
  simp only [Try.underlying87]
  rw [if_pos (by simp [turn_kt, Value.formed, Try.underlying87, turn_cells]), hm]
  unfold Program.keyLits
  simp only [Try.underlying87, Value.cells]
  rw [if_pos (by rw [turn_cells]; exact ⟨rfl, by kernel_rfl⟩)]
  simp [List.mapM_cons, Program.keyLits, Try.underlying67, Try.underlying3, u16_wf hu, i64_wf hc, bits_cells, int_cells]
theorem tnV_inj {u c u' c' : Nat} (h : tnV u c = tnV u' c') : u = u' ∧ c = c' := by
  unfold tnV at h
  injection h with h
  have h := congrArg Array.toList h
  simp at h
  exact ⟨by omega, by omega⟩
theorem boolZ (w : World) : (zeroValue 4).run Try.prog w = .ok (.bool false) w := by kernel_rfl
/-- Block B is a map in which every entry is right. -/
def MapOK (N : Int) (X : List (List Int)) (B : Nat) (w : World) : Prop :=
  ∃ es clock, w.heap[B]? = some (.map es clock) ∧ Go.WideElems.Fit Try.prog 87 (plainElem (H := Unit) Try.prog 4) es clock ∧
    ∀ x ∈ es.toList, ∃ u c : Nat, u < 1024 ∧ c < 10 ∧ x.key = tnV u c ∧ x.val = .bool (canV N X u c)
section
variable {N : Int} {X : List (List Int)} {B : Nat} {w w' : World}
theorem MapOK.lt (h : MapOK N X B w) : B < w.heap.size := by
  obtain ⟨es, clock, hb, _⟩ := h
  exact (Array.getElem?_eq_some_iff.1 hb).1
theorem MapOK.new (h : MapOK N X B w) (hb : Below w.heap.size w w') : MapOK N X B w' := by
  have hlt := h.lt
  obtain ⟨es, clock, h1, h2⟩ := h
  exact ⟨es, clock, (hb.block B hlt).trans h1, h2⟩
theorem MapOK.drew (h : MapOK N X B w) : MapOK N X B w.drew := h
theorem MapOK.made (w : World) : MapOK N X w.heap.size (w.alloc (.map #[] 0)) :=
  ⟨#[], 0, (MapKept.heap_alloc w _).1, ⟨by simp, MapKept.stamped_empty 0, by simp⟩, by simp⟩
theorem entries_few {es : Array MapEntry} {clock : Nat} (F : Go.WideElems.Fit Try.prog 87 (plainElem (H := Unit) Try.prog 4) es clock) (h : ∀ x ∈ es.toList, ∃ u c : Nat, u < 1024 ∧ c < 10 ∧ x.key = tnV u c ∧ x.val = .bool (canV N X u c)) : es.size ≤ 10240 := by
  let code : MapEntry → Int := fun x => match x.key with | .agg cs => (match cs.toList with | [.int _ a, .int _ b] => a * 10 + b | _ => 0) | _ => 0
  have hcode : ∀ {x : MapEntry} {u c : Nat}, x.key = tnV u c → code x = (u : Int) * 10 + c := fun {x u c} e => by simp only [code, e, tnV]
  have hnd : (es.toList.map code).Nodup := by
    have hk := F.stamped.2.2
    rw [List.nodup_iff_pairwise_ne, List.pairwise_map] at hk ⊢
    refine hk.imp_of_mem fun {x y} hx hy hne e => hne ?_
    obtain ⟨u, c, _, hc, e1, _⟩ := h x hx
    obtain ⟨u', c', _, hc', e2, _⟩ := h y hy
    rw [hcode e1, hcode e2] at e
    rw [e1, e2, show u = u' by omega, show c = c' by omega]
  have := nd_len (R := rngI 10240) hnd fun z hz => by
    obtain ⟨x, hx, rfl⟩ := List.mem_map.1 hz
    obtain ⟨u, c, hu, hc, e1, _⟩ := h x hx
    rw [hcode e1, rngI_mem]
    omega
  rw [List.length_map, rngI_len] at this
  simpa using this
/-- A turn is looked up: unknown, or known and right. -/
theorem MapOK.look (h : MapOK N X B w) {u c : Nat} (hu : u < 1024) (hc : c < 10) :
    (Instr.lookup 71 (.map (some B)) (tnV u c) true).run Try.prog w = .ok (.tuple #[.bool false, .bool false]) w ∨
    (Instr.lookup 71 (.map (some B)) (tnV u c) true).run Try.prog w = .ok (.tuple #[.bool (canV N X u c), .bool true]) w := by
  obtain ⟨es, clock, hb, F, hall⟩ := h
  obtain ⟨kl, hkl⟩ := turn_key hu hc
  rcases Maps.fit_look true turn_law Try.underlying71 (boolZ w) hb F hkl with ⟨h1, _⟩ | ⟨e0, y, hm, hk, h1, _⟩
  · exact .inl (by simpa using h1)
  · refine .inr ?_
    obtain ⟨u', c', _, _, e1, e2⟩ := hall e0 hm
    obtain ⟨rfl, rfl⟩ := tnV_inj (e1.symm.trans hk)
    rw [e2] at h1
    simpa using h1
/-- A right entry is stored. -/
theorem MapOK.store (h : MapOK N X B w) {u c : Nat} (hu : u < 1024) (hc : c < 10) :
    ∃ w', (Instr.mapUpdate 71 (.map (some B)) (tnV u c) (.bool (canV N X u c))).run Try.prog w = .ok () w' ∧ MapOK N X B w' ∧ Out B (B + 1) w w' := by
  obtain ⟨es, clock, hb, F, hall⟩ := h
  obtain ⟨kl, hkl⟩ := turn_key hu hc
  have hz := entries_few F hall
  obtain ⟨es', clock', hrun, F', _, _, _, hin⟩ := Maps.fit_store (R' := plainElem (H := Unit) Try.prog 4) turn_law Try.underlying71 hb F (by unfold maxLen; omega) (fun _ _ _ _ hz => hz) hkl (plainElem_bool Try.underlying4 (canV N X u c))
  refine ⟨_, hrun, ⟨es', clock', Go.ChangeMaps.heap_setBlock_same hb _, F', fun x' hx' => ?_⟩, ⟨rfl, rfl, rfl, by simp [Go.ChangeMaps.setBlock], fun k hk hd => Go.ChangeMaps.heap_setBlock_other hb _ (by omega)⟩⟩
  rcases hin x' hx' with ⟨hm, _⟩ | ⟨hk, hv⟩
  · exact hall x' hm
  · exact ⟨u, c, hu, hc, hk, hv⟩
end
end Go.Proofs.Ytobghogkflgpeaa
