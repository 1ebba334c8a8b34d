/- A list of lists that the call owns, kept in part: its elements moved down in place (slices.Delete, slices.DeleteFunc); and many appended at once. No conditions. -/
import Derived.Test.YteffhbboeacogaaAppSS
import Derived.Test.YteffhbboeacogaaSets
import Derived.Test.YteffhbboeacogaaBits
import Derived.Laws.IdiomCopy
namespace Go.Proofs.Yteffhbboeacogaa
open Go.ChangeShapes Go.WideShapes Go.ChangeAt Go.RowKit
theorem flat_sub {es es' : List (List Nat × List Value)} (h : List.Sublist es' es) : List.Sublist (es'.flatMap (·.1)) (es.flatMap (·.1)) := by
  induction h with
  | slnil => exact List.Sublist.refl _
  | cons a h ih => rw [List.flatMap_cons]; exact ih.trans (List.sublist_append_right _ _)
  | cons_cons a h ih => rw [List.flatMap_cons, List.flatMap_cons]; exact (List.append_sublist_append_left _).2 ih
theorem one_hd {p : List Value} (h : p.length = 1) : p = [p.headD undef] := by
  match p, h with
  | [u], _ => rfl
theorem flat_hd {es : List (List Nat × List Value)} (h : ∀ p ∈ es, p.2.length = 1) : es.flatMap (·.2) = es.map fun p => p.2.headD undef := by
  induction es with
  | nil => rfl
  | cons p es ih =>
    rw [List.flatMap_cons, List.map_cons, ih (fun q hq => h q (List.mem_cons_of_mem _ hq)), one_hd (h p List.mem_cons_self)]
    rfl
theorem OwnSS.pick {w : World} {lo hi g n c : Nat} {X : List (List Int)} (h : OwnSS w lo hi (.slice (some ⟨g, 0, none⟩) n c) X) (hn : X.length = n) :
    ∃ (us : List Value) (cur : Array Value), us.length = n ∧ w.heap[g]? = some (.cells cur 24 (0, 0)) ∧ n ≤ c ∧ c ≤ maxLen ∧ cur.size = c ∧ cur.toList.take n = us ∧ lo ≤ g ∧ g < hi ∧ (∀ u ∈ us, u.oneCell' = true) ∧
      (∀ (j : Nat) (x : List Int), X[j]? = some x → ∃ (Aj : Option Addr) (cj : Nat), us[j]? = some (.slice Aj x.length cj) ∧ x.length ≤ cj ∧ cj ≤ maxLen ∧ ∀ w' : World, (∀ b, b < w.heap.size → b ≠ g → w'.heap[b]? = w.heap[b]?) → w.heap.size ≤ w'.heap.size → Rd w' w'.heap.size Aj (ivs x)) ∧
      ∀ (w' : World) (Q : List (Value × List Int)), List.Sublist Q (us.zip X) → (∀ b, b < w.heap.size → b ≠ g → w'.heap[b]? = w.heap[b]?) → (∃ cur', w'.heap[g]? = some (.cells cur' 24 (0, 0)) ∧ cur'.size = c ∧ cur'.toList.take Q.length = Q.map (·.1)) → OwnSS w' lo hi (.slice (some ⟨g, 0, none⟩) Q.length c) (Q.map (·.2)) := by
  obtain ⟨F, hrow, hFn, hF⟩ := h
  have hFlt := SSR_frames.lt hrow
  obtain ⟨v0, es, a1, a2, a3, a4, a5, a6, a7⟩ := hrow
  have hv : v0 = .slice (some ⟨g, 0, none⟩) n c := by simpa using a1.symm
  subst hv
  have hflat := flat_hd a6
  have hlenu : (es.map fun p => p.2.headD undef).length = n := by rw [List.length_map, a2, hn]
  obtain ⟨b1, b2⟩ := a3
  rcases b2 with ⟨hnil, _⟩ | ⟨g', cap, cur, hv, _, hgg, hnc, hcm, hcs, htk⟩
  · cases hnil
  injection hv with e1 e2 e3
  injection e1 with e1
  injection e1 with e1
  subst e1 e3
  rw [a4] at a5
  have hgF : g ∈ F := by rw [a4]; simp [Value.ownBlock]
  have hnot : g ∉ es.flatMap (·.1) := fun hin => (List.nodup_append.1 a5).2.2 g (by simp [Value.ownBlock]) g hin rfl
  rw [Nat.mul_one] at hcs htk
  rw [hn] at htk hnc
  refine ⟨es.map fun p => p.2.headD undef, cur, hlenu, hgg, hnc, hcm, hcs, by rw [htk, hflat], (hF g hgF).1, (hF g hgF).2, fun u hu => ?_, fun j x hx => ?_, fun w' Q hQ hk ⟨cur', k1, k2, k3⟩ => ?_⟩
  · obtain ⟨p, hp, rfl⟩ := List.mem_map.1 hu
    obtain ⟨i, hi, rfl⟩ := List.getElem_of_mem hp
    have hiX : i < X.length := by omega
    obtain ⟨u, h1, h2, _⟩ := a7 i es[i] X[i] (List.getElem?_eq_getElem hi) (List.getElem?_eq_getElem hiX)
    have e0 := one_hd (a6 _ (List.getElem_mem hi))
    rw [h1] at e0
    have : u = (es[i].2).headD undef := by rw [h1]; rfl
    rw [← this]
    rcases h2.2 with ⟨rfl, _⟩ | ⟨g2, cap2, cur2, rfl, _⟩ <;> rfl
  · have hjX : j < X.length := (List.getElem?_eq_some_iff.1 hx).1
    have hj : j < es.length := by omega
    obtain ⟨u, h1, h2, h3⟩ := a7 j es[j] x (List.getElem?_eq_getElem hj) hx
    obtain ⟨Aj, cj, hu, m1, m2⟩ := ownsRow_form h2
    subst hu
    refine ⟨Aj, cj, by rw [List.getElem?_map, List.getElem?_eq_getElem hj, Option.map_some, h1]; rfl, m1, m2, fun w' hk hsz => ?_⟩
    have hin : ∀ b, (Value.slice Aj x.length cj).ownBlock = some b → b ∈ es.flatMap (·.1) := fun b hb => mem_flat1 (List.getElem?_eq_getElem hj) (by rw [h3, hb]; simp)
    have h2' := ownsRow_keep (w' := w') h2 (fun b hb => hk b (hFlt b (by rw [a4]; exact List.mem_append_right _ (hin b hb))) (fun e => by subst e; exact hnot (hin b hb)))
    have hr : Row w' 0 w'.heap.size 3 (.slice Aj x.length cj) (ivs x) := ⟨by rw [ivs_len]; exact h2', fun b hb => by have := hFlt b (by rw [a4]; exact List.mem_append_right _ (hin b hb)); omega⟩
    exact hr.rd'
  · have hz : (es.map fun p => p.2.headD undef).zip X = (es.zip X).map fun q => (q.1.2.headD undef, q.2) := by
      rw [List.zip_map_left]
      rfl
    rw [hz, List.sublist_map_iff] at hQ
    obtain ⟨Q', hQ', rfl⟩ := hQ
    have hsub : List.Sublist (Q'.map (·.1)) es := by
      have := hQ'.map (·.1)
      rwa [List.map_fst_zip (by omega)] at this
    have hmem : ∀ p ∈ Q'.map (·.1), p ∈ es := fun p hp => hsub.subset hp
    have hfs := flat_sub hsub
    have hnd : ([g] ++ (Q'.map (·.1)).flatMap (·.1)).Nodup := List.nodup_append.2 ⟨by simp, (List.nodup_append.1 a5).2.1.sublist hfs, fun a ha b hb hab => by
      have : a = g := by simpa using ha
      subst this
      subst hab
      exact hnot (hfs.subset hb)⟩
    simp only [List.map_map, List.length_map] at k3 ⊢
    have hX' : (Q'.map ((fun x => x.2) ∘ fun q => (q.1.2.headD undef, q.2))) = Q'.map (·.2) := rfl
    rw [hX']
    refine ⟨[g] ++ (Q'.map (·.1)).flatMap (·.1), ⟨.slice (some ⟨g, 0, none⟩) Q'.length c, Q'.map (·.1), rfl, by simp, ?_, rfl, hnd, fun p hp => a6 p (hmem p hp), fun i p x hp hx => ?_⟩, hnd, fun b hb => ?_⟩
    · have hfl : (Q'.map (·.1)).flatMap (·.2) = Q'.map fun q => q.1.2.headD undef := by
        rw [flat_hd (fun p hp => a6 p (hmem p hp)), List.map_map]
        rfl
      refine ⟨by rw [hfl]; simp, .inr ⟨g, c, cur', by simp, Nat.zero_le _, k1, ?_, hcm, by rw [Nat.mul_one]; exact k2, ?_⟩⟩
      · have h1 := hQ'.length_le
        rw [List.length_zip] at h1
        rw [List.length_map]
        omega
      · rw [hfl, Nat.mul_one, List.length_map]
        exact k3
    · rw [List.getElem?_map] at hp hx
      cases hq : Q'[i]? with
      | none => rw [hq] at hp; cases hp
      | some q =>
        rw [hq] at hp hx
        simp at hp hx
        subst hp hx
        obtain ⟨j, hj⟩ := List.getElem?_of_mem (hQ'.subset (List.mem_of_getElem? hq))
        obtain ⟨j1, j2⟩ := List.getElem?_zip_eq_some.1 hj
        refine (IntsR.frames _ _).keep (a7 j q.1 q.2 j1 j2) (fun b hb => hk b (hFlt b (by rw [a4]; exact List.mem_append_right _ (mem_flat1 j1 hb))) (fun e => ?_))
        subst e
        exact hnot (mem_flat1 j1 hb)
    · rw [List.mem_append] at hb
      refine hF b ?_
      rw [a4]
      rcases hb with hb | hb
      · exact List.mem_append_left _ (by simpa [Value.ownBlock] using hb)
      · exact List.mem_append_right _ (hfs.subset hb)
/-- A block after many stores. -/
def putA (cs : Array Value) (o : Nat) : List Value → Array Value
  | [] => cs
  | v :: r => putA (cs.setIfInBounds o v) (o + 1) r
theorem putA_size : ∀ (vs : List Value) (o : Nat) (cs : Array Value), (putA cs o vs).size = cs.size
  | [], _, _ => rfl
  | v :: r, o, cs => by
    show (putA (cs.setIfInBounds o v) (o + 1) r).size = _
    rw [putA_size r]; simp
theorem putA_list : ∀ (vs : List Value) (o : Nat) (cs : Array Value), o + vs.length ≤ cs.size → (putA cs o vs).toList = cs.toList.take o ++ vs ++ cs.toList.drop (o + vs.length)
  | [], o, cs, _ => by simp [putA]
  | v :: r, o, cs, h => by
    simp only [List.length_cons] at h
    show (putA (cs.setIfInBounds o v) (o + 1) r).toList = _
    rw [putA_list r (o + 1) _ (by simp; omega), Array.toList_setIfInBounds]
    have ho : o < cs.toList.length := by simp; omega
    have e1 : (cs.toList.set o v).take (o + 1) = cs.toList.take o ++ [v] := by
      have hl : (cs.toList.take o).length = o := by rw [List.length_take]; omega
      rw [List.set_eq_take_append_cons_drop, if_pos ho, List.take_append, List.take_of_length_le (by omega), hl, show o + 1 - o = 1 by omega]
      rfl
    have e2 : (cs.toList.set o v).drop (o + 1 + r.length) = cs.toList.drop (o + 1 + r.length) := by rw [List.drop_set_of_lt (by omega)]
    rw [e1, e2]
    simp [Nat.add_comm, Nat.add_left_comm]
theorem Bx.setCells {g : Nat} {t : TypeId} : ∀ (vs : List Value) (o : Nat) (w : World) (cs : Array Value), Bx w g t cs → Bx (w.setCells g o vs) g t (putA cs o vs)
  | [], _, _, _, h => h
  | v :: r, o, _, _, h => Bx.setCells r (o + 1) _ _ (h.set o v)
theorem setCells_size (g : Nat) : ∀ (vs : List Value) (o : Nat) (w : World), (w.setCells g o vs).heap.size = w.heap.size
  | [], _, _ => rfl
  | v :: r, o, w => (setCells_size g r (o + 1) _).trans (by simp)
theorem Out.cell1 (w : World) (g o : Nat) (v : Value) : Out g (g + 1) w (w.setCell ⟨g, o, none⟩ v) :=
  ⟨rfl, rfl, rfl, by simp, fun k _ hk => heap_setCell_other w ⟨g, o, none⟩ k v (by show k ≠ g; omega)⟩
theorem Out.setCells (g : Nat) : ∀ (vs : List Value) (o : Nat) (w : World), Out g (g + 1) w (w.setCells g o vs)
  | [], _, _ => Out.refl
  | v :: r, o, w => (Out.cell1 w g o v).trans (Out.setCells g r (o + 1) _)
end Go.Proofs.Yteffhbboeacogaa
