/- m[k] op= v at a map from pairs to integers that a call made: the entry is found or laid, then filled. Conditions: as XPmap. -/
import Derived.Test.YthkigilegnjglaaMg8
namespace Go.Proofs.Ythkigilegnjglaa
open Go.ChangeShapes Go.WideShapes Go.ChangeAt Go.RowKit
open Go.ChangeMaps (setBlock heap_setBlock_same heap_setBlock_other)
set_option maxRecDepth 100000
theorem setBlock_two (w : World) (b : Nat) (o o' : Obj) : setBlock (setBlock w b o) b o' = setBlock w b o' := by
  unfold setBlock
  simp
theorem setBlock_out {w : World} {b : Nat} {o : Obj} : Out b (b + 1) w (setBlock w b o) := ⟨rfl, rfl, rfl, by simp [setBlock], fun k _ hd => by
  unfold setBlock
  show (w.heap.setIfInBounds b o)[k]? = w.heap[k]?
  rw [Array.getElem?_setIfInBounds_ne (by omega)]⟩
section
variable {f : Int × Int → Option Int} {K : List (Int × Int)} {B n : Nat} {w : World} {a : Int × Int} {v : Int} {t : TypeId}
theorem findBorn_new {es : Array MapEntry} {clock : Nat} (h : ∀ x ∈ es.toList, x.born < clock) (e : MapEntry) (he : e.born = clock) : (es.push e).findIdx? (fun e => (e.born : Int) == (clock : Int)) = some es.size := by
  rw [Array.findIdx?_push]
  have : es.findIdx? (fun e => (e.born : Int) == (clock : Int)) = none := by
    rw [Array.findIdx?_eq_none_iff]
    intro x hx
    have := h x (by simpa using hx)
    simp; omega
  rw [this, he]
  simp
theorem findBorn_old {es : Array MapEntry} {j : Nat} {e0 : MapEntry} (hnd : (es.toList.map (·.born)).Nodup) (hj : es[j]? = some e0) (g : MapEntry → MapEntry) (hg : ∀ e, (g e).born = e.born) : (es.modify j g).findIdx? (fun e => (e.born : Int) == (e0.born : Int)) = some j := by
  have hjl := (Array.getElem?_eq_some_iff.1 hj).1
  have hje := (Array.getElem?_eq_some_iff.1 hj).2
  rw [Array.findIdx?_eq_some_iff_getElem]
  refine ⟨by simpa using hjl, ?_, ?_⟩
  · rw [Array.getElem_modify]
    simp [hg, hje]
  · intro i hi
    have hil : i < es.size := by omega
    rw [Array.getElem_modify, if_neg (by omega)]
    simp only [beq_iff_eq]
    intro e
    have e' : es[i].born = e0.born := by exact_mod_cast e
    have h1 := List.pairwise_iff_getElem.1 hnd i j (by simpa using hil) (by simpa using hjl) hi
    exact h1 (by simp [e', hje])
set_option maxHeartbeats 1000000 in
theorem PM.bump (h : PM f K B n w) (ht : Try.prog.underlying t = some (.map 38 3)) (hn : n < 1099511627776) (ha : IP a) (hv : I6 v) :
    ∃ (z born : Int) (w1 w2 : World), (Instr.mapEntry t (.map (some B)) (prV a)).run Try.prog w = .ok (.tuple #[.int .i64 z, .int .i64 born]) w1 ∧
      (Instr.entryStore t (.map (some B)) (.int .i64 born) (.int .i64 v)).run Try.prog w1 = .ok () w2 ∧
      PM (ppF f a v) (ppK f K a) B (n + 1) w2 ∧ Out B (B + 1) w w1 ∧ Out B (B + 1) w w2 ∧
      (Instr.lookup t (.map (some B)) (prV a) false).run Try.prog w1 = .ok (.int .i64 ((f a).getD 0)) w1 := by
  obtain ⟨wv, hrv, hPv, hOv⟩ := h.put ht hn ha hv
  have hget := h.get ht ha
  have h' := h
  obtain ⟨D, ⟨es, clock, hb, F, hs, hD⟩, _⟩ := h'
  rcases pr_law.find w (pr_key ha) es.toList F.keys with ⟨h1, h2⟩ | ⟨j, e0, h1, h2, h3⟩
  · -- a new entry
    have hup : ∀ u : Int, (Instr.mapUpdate t (.map (some B)) (prV a) (.int .i64 u)).run Try.prog w = .ok () (setBlock w B (.map (es.push ⟨prV a, .int .i64 u, clock⟩) (clock + 1))) := fun u => by
      simp [Instr.mapUpdate, run_underlying ht, MapKept.run_getObj_map hb, pr_law.check w false (pr_key ha), h1, MapKept.run_setObj_map _ hb, Result.andThen, setBlock]
    have hen : (Instr.mapEntry t (.map (some B)) (prV a)).run Try.prog w = .ok (.tuple #[.int .i64 0, .int .i64 clock]) (setBlock w B (.map (es.push ⟨prV a, .int .i64 0, clock⟩) (clock + 1))) := by
      simp [Instr.mapEntry, run_underlying ht, MapKept.run_getObj_map hb, pr_law.check w false (pr_key ha), h1, MapKept.run_setObj_map _ hb, Result.andThen, setBlock, goInt]
    have hb1 := heap_setBlock_same hb (.map (es.push ⟨prV a, .int .i64 0, clock⟩) (clock + 1))
    have hst : (Instr.entryStore t (.map (some B)) (.int .i64 clock) (.int .i64 v)).run Try.prog (setBlock w B (.map (es.push ⟨prV a, .int .i64 0, clock⟩) (clock + 1))) = .ok () (setBlock w B (.map (es.push ⟨prV a, .int .i64 v, clock⟩) (clock + 1))) := by
      have hf := findBorn_new F.stamped.1 ⟨prV a, .int .i64 0, clock⟩ rfl
      have hm : (es.push ⟨prV a, .int .i64 0, clock⟩).modify es.size (fun e => { e with val := .int .i64 v }) = es.push ⟨prV a, .int .i64 v, clock⟩ := by
        apply Array.ext
        · simp
        · intro i hi1 hi2
          rw [Array.getElem_modify, Array.getElem_push, Array.getElem_push]
          by_cases e : i < es.size
          · rw [if_neg (by omega), dif_pos e, dif_pos e]
          · have : i = es.size := by simp at hi2; omega
            subst this
            simp
      simp only [Instr.entryStore, Sem.run_bind, MapKept.run_getObj_map hb1, Result.andThen, asInt, asIntOf]
      simp [hf, MapKept.run_setObj_map _ hb1, hm]
      exact setBlock_two w B _ _
    rw [hup v] at hrv
    injection hrv with _ hwv
    have hP0 : PM (ppF f a 0) (ppK f K a) B (n + 1) (setBlock w B (.map (es.push ⟨prV a, .int .i64 0, clock⟩) (clock + 1))) := by
      obtain ⟨w0, hr0, hp0, _⟩ := h.put ht hn ha (v := 0) (i6_small (by omega) (by omega))
      rw [hup 0] at hr0
      injection hr0 with _ e
      rw [e]; exact hp0
    have hL := hP0.get ht ha
    have hfa : (f a).getD 0 = 0 := by
      have h9 : (Instr.lookup t (.map (some B)) (prV a) false).run Try.prog w = .ok (.int .i64 0) w := by
        rcases Maps.fit_look false pr_law ht (im_zero w) hb F (pr_key ha) with ⟨q1, _⟩ | ⟨e1, y, hm, hk, _⟩
        · simpa using q1
        · exact absurd hk (h2 e1 hm)
      rw [h9] at hget
      injection hget with q _
      injection q with _ q
      exact q.symm
    refine ⟨0, clock, _, wv, hen, by rw [hst, hwv], hPv, setBlock_out, hOv, ?_⟩
    rw [hL, hfa]
    unfold ppF
    simp
  · have hj : es[j]? = some e0 := by simpa using h2
    have hm0 : e0 ∈ es.toList := List.mem_of_getElem? h2
    obtain ⟨z, hz⟩ : ∃ z : Int, e0.val = .int .i64 z := by
      obtain ⟨y, hy⟩ := F.reads e0 hm0
      obtain ⟨⟨d, ps⟩, hq, _⟩ := Go.WideElems.rd_val hy
      obtain ⟨x, e, _⟩ := plainElem_int_inv Try.underlying3 hq
      exact ⟨x, e⟩
    have hup : (Instr.mapUpdate t (.map (some B)) (prV a) (.int .i64 v)).run Try.prog w = .ok () (setBlock w B (.map (es.modify j (fun e' => { e' with key := prV a, val := .int .i64 v })) clock)) := by
      simp [Instr.mapUpdate, run_underlying ht, MapKept.run_getObj_map hb, pr_law.check w false (pr_key ha), h1, hj, h3, pr_law.stays w (pr_key ha), MapKept.run_setObj_map _ hb, Result.andThen, setBlock]
    have hen : (Instr.mapEntry t (.map (some B)) (prV a)).run Try.prog w = .ok (.tuple #[.int .i64 z, .int .i64 e0.born]) (setBlock w B (.map (es.modify j (fun e' => { e' with key := prV a })) clock)) := by
      simp [Instr.mapEntry, run_underlying ht, MapKept.run_getObj_map hb, pr_law.check w false (pr_key ha), h1, hj, h3, hz, pr_law.stays w (pr_key ha), MapKept.run_setObj_map _ hb, Result.andThen, setBlock, goInt]
    have hid : es.modify j (fun e' => { e' with key := prV a }) = es := by
      apply Array.ext
      · simp
      · intro i hi1 hi2
        rw [Array.getElem_modify]
        split
        · rename_i e
          subst e
          have : es[j] = e0 := (Array.getElem?_eq_some_iff.1 hj).2
          rw [this, ← h3]
        · rfl
    have hb1 := heap_setBlock_same hb (.map (es.modify j (fun e' => { e' with key := prV a })) clock)
    have hst : (Instr.entryStore t (.map (some B)) (.int .i64 e0.born) (.int .i64 v)).run Try.prog (setBlock w B (.map (es.modify j (fun e' => { e' with key := prV a })) clock)) = .ok () (setBlock w B (.map (es.modify j (fun e' => { e' with key := prV a, val := .int .i64 v })) clock)) := by
      have hf := findBorn_old F.stamped.2.1 hj (fun e' => { e' with key := prV a }) (fun _ => rfl)
      have hm : (es.modify j (fun e' => { e' with key := prV a })).modify j (fun e => { e with val := .int .i64 v }) = es.modify j (fun e' => { e' with key := prV a, val := .int .i64 v }) := by
        apply Array.ext
        · simp
        · intro i hi1 hi2
          rw [Array.getElem_modify, Array.getElem_modify, Array.getElem_modify]
          split <;> rfl
      simp only [Instr.entryStore, Sem.run_bind, MapKept.run_getObj_map hb1, Result.andThen, asInt, asIntOf]
      simp [hf, MapKept.run_setObj_map _ hb1, hm]
      exact setBlock_two w B _ _
    rw [hup] at hrv
    injection hrv with _ hwv
    have hP0 : PM f K B n (setBlock w B (.map (es.modify j (fun e' => { e' with key := prV a })) clock)) := h.kept (by rw [hb1, hid, hb])
    exact ⟨z, e0.born, _, wv, hen, by rw [hst, hwv], hPv, setBlock_out, hOv, hP0.get ht ha⟩
end
end Go.Proofs.Ythkigilegnjglaa
