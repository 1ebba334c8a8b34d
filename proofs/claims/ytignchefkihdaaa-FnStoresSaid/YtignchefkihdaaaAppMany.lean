/- Appending a whole list of owned elements to another ('append(a, b...)', both the call's own). No conditions but the machine's bound on bytes. -/
import Derived.Test.YtignchefkihdaaaMg11
namespace Go.Proofs.Ytignchefkihdaaa
open Go.ChangeShapes Go.WideShapes Go.ChangeAt Go.RowKit
section
variable {X : Type} {R : World → List Nat → List Value → X → Prop} {e : TypeId} {w : World} {l l2 : List X} {P : Program}
theorem ones_flat {es : List (List Nat × List Value)} (h : ∀ p ∈ es, ∀ u ∈ p.2, u.oneCell' = true) : ∀ u ∈ es.flatMap (·.2), u.oneCell' = true := fun u hu => by
  obtain ⟨p, hp, hup⟩ := List.mem_flatMap.1 hu
  exact h p hp u hup
set_option maxHeartbeats 2000000 in
theorem run_appRs (hR : Frames R) (t ty : TypeId) (i : TypeInfo) (z : Value) (bytes : Nat) (ht : P.underlying t = some (.slice e)) (hi : P.info? e = some i) (hz : i.zero = some z) (hsize : i.size = 1) (hby : i.bytes = bytes) (hzs : z.cells.size = 1)
    (hone : ∀ {F : List Nat} {cs : List Value} {x : X}, R w F cs x → ∀ u ∈ cs, u.oneCell' = true)
    {L M M' : Nat} {v v2 : Value} (h : Owns (RowsR e 1 R) w L M [v] l) (h2 : Owns (RowsR e 1 R) w M M' [v2] l2)
    (hLM : L ≤ M) (h63 : l.length + l2.length ≤ maxLen) (hbytes : (l.length + l2.length) * bytes ≤ 140737488355328) (hL : L ≤ w.heap.size) :
    ∃ v' w', (Builtin.append_ #[t, t] ty #[v, v2]).run P w = .ok v' w' ∧ Owns (RowsR e 1 R) w' L w'.heap.size [v'] (l ++ l2) ∧ Below L w w' := by
  have h0 := h
  obtain ⟨F, hrow, hFn, hF⟩ := h
  obtain ⟨F2, hrow2, hFn2, hF2⟩ := h2
  have hlt := (RowsR.frames hR (e := e) (size := 1)).lt hrow
  have hlt2 := (RowsR.frames hR (e := e) (size := 1)).lt hrow2
  obtain ⟨v0, es, a1, a2, a3, a4, a5, a6, a7⟩ := hrow
  have hvv : v = v0 := by simpa using a1
  subst hvv
  obtain ⟨v0, es2, c1, c2, c3, c4, c5, c6, c7⟩ := hrow2
  have hvv : v2 = v0 := by simpa using c1
  subst hvv
  rcases c3.2 with ⟨hv2, hn2⟩ | ⟨g2, cap2, cur2, hv2, _, hgg2, hnc2, hcm2, hcs2, htk2⟩
  · have : l2 = [] := List.eq_nil_of_length_eq_zero hn2
    subst this
    rw [hv2]
    refine ⟨v, w, run_app_nil t ty e i ht hi a3, ?_, Below.refl _ _⟩
    rw [List.append_nil]
    exact ⟨F, ⟨v, es, rfl, a2, a3, a4, a5, a6, a7⟩, hFn, fun b hb => ⟨(hF b hb).1, hlt b hb⟩⟩
  · subst hv2
    have hul : (es2.flatMap (·.2)).length = l2.length := by rw [flat_len c6, c2, Nat.mul_one]
    have hcells : ∀ j u, (es2.flatMap (·.2))[j]? = some u → w.cell? ((⟨g2, 0, none⟩ : Addr).add j) = some u := fun j u hu => by
      have hj : j < l2.length := by rw [← hul]; exact (List.getElem?_eq_some_iff.1 hu).1
      rw [addr_lit, cell_of_row w g2 j cur2 e (0, 0) hgg2]
      rw [← htk2, Nat.mul_one, List.getElem?_take, if_pos hj] at hu
      simpa using hu
    have h1 : ∀ u ∈ es2.flatMap (·.2), u.oneCell' = true := ones_flat fun p hp u hu => by
      obtain ⟨j, hj, rfl⟩ := List.getElem_of_mem hp
      exact hone (c7 j es2[j] (l2[j]'(by omega)) (List.getElem?_eq_getElem hj) (List.getElem?_eq_getElem (by omega))) u hu
    obtain ⟨v', w', hrun, b1, b2, _, b4⟩ := run_append_own_at (P := P) w 0 t ty e i z 1 bytes ht hi hz hsize hby hzs (by omega) v l.length _ a3 ⟨g2, 0, none⟩ l2.length cap2 _ (by rw [hul, Nat.mul_one]) hcells h1 h63 hbytes (Nat.zero_le _)
    have hsub2 : ∀ b ∈ es2.flatMap (·.1), b ∈ F2 := fun b hb => by rw [c4]; exact List.mem_append_right _ hb
    have hne : ∀ b ∈ es.flatMap (·.1), v.ownBlock ≠ some b := fun b hb hv => by
      rw [a4, hv] at a5
      exact (List.nodup_append.1 a5).2.2 b (by simp) b hb rfl
    have hkeep : ∀ b, b < w.heap.size → v.ownBlock ≠ some b → w'.heap[b]? = w.heap[b]? := fun b hb hv => b2.block b hb (fun e => hv e.symm)
    have hFown : ∀ b ∈ v.ownBlock.toList, b ∈ F := fun b hb => by rw [a4]; exact List.mem_append_left _ hb
    have hv'lt : ∀ b ∈ v'.ownBlock.toList, L ≤ b ∧ b < w'.heap.size := fun b hb => by
      refine ⟨?_, own_lt b1 b hb⟩
      rcases b4 with b4 | b4
      · rw [b4] at hb; exact (hF b (hFown b hb)).1
      · rw [b4] at hb; simp at hb; omega
    have hv'no : ∀ b ∈ v'.ownBlock.toList, b ∉ es.flatMap (·.1) ∧ b ∉ es2.flatMap (·.1) := fun b hb => by
      rcases b4 with b4 | b4
      · rw [b4] at hb
        refine ⟨fun hin => ?_, fun hin => ?_⟩
        · refine hne b hin ?_
          cases hv : v.ownBlock with
          | none => rw [hv] at hb; simp at hb
          | some g => rw [hv] at hb; simp at hb; rw [hb]
        · have k1 := (hF b (hFown b hb)).2
          have k2 := (hF2 b (hsub2 b hin)).1
          omega
      · rw [b4] at hb
        have hbs : b = w.heap.size := by simpa using hb
        refine ⟨fun hin => ?_, fun hin => ?_⟩
        · have := hlt b (by rw [a4]; exact List.mem_append_right _ hin); omega
        · have := hlt2 b (hsub2 b hin); omega
    have hsub : ∀ b ∈ es.flatMap (·.1), b ∈ F := fun b hb => by rw [a4]; exact List.mem_append_right _ hb
    have hnd : (v'.ownBlock.toList ++ (es ++ es2).flatMap (·.1)).Nodup := by
      rw [List.flatMap_append]
      refine List.nodup_append.2 ⟨by cases v'.ownBlock <;> simp, List.nodup_append.2 ⟨(List.nodup_append.1 (a4 ▸ a5)).2.1, (List.nodup_append.1 (c4 ▸ c5)).2.1, fun a ha b hb hab => ?_⟩, fun a ha b hb hab => ?_⟩
      · subst hab
        have k1 := (hF a (hsub a ha)).2
        have k2 := (hF2 a (hsub2 a hb)).1
        omega
      · subst hab
        rw [List.mem_append] at hb
        rcases hb with hb | hb
        · exact (hv'no a ha).1 hb
        · exact (hv'no a ha).2 hb
    refine ⟨v', w', hrun, ⟨v'.ownBlock.toList ++ (es ++ es2).flatMap (·.1), ⟨v', es ++ es2, rfl, by simp [a2, c2], ?_, rfl, hnd, fun p hp => ?_, fun k p y hkp hky => ?_⟩, hnd, fun b hb => ?_⟩, ⟨b2.os, b2.tape, b2.output, b2.size, fun b hb => hkeep b (by omega) (fun hv => ?_)⟩⟩
    · rw [List.flatMap_append, List.length_append]; exact b1
    · rw [List.mem_append] at hp
      rcases hp with hp | hp
      · exact a6 p hp
      · exact c6 p hp
    · rcases Nat.lt_or_ge k es.length with hk | hk
      · rw [List.getElem?_append_left hk] at hkp
        rw [List.getElem?_append_left (by omega)] at hky
        exact hR.keep (a7 k p y hkp hky) (fun b hb => hkeep b (hlt b (hsub b (mem_flat1 hkp hb))) (hne b (mem_flat1 hkp hb)))
      · rw [List.getElem?_append_right hk] at hkp
        rw [List.getElem?_append_right (by omega), show k - l.length = k - es.length by omega] at hky
        refine hR.keep (c7 _ p y hkp hky) (fun b hb => hkeep b (hlt2 b (hsub2 b (mem_flat1 hkp hb))) (fun hv => ?_))
        have k1 := (hF b (hFown b (by rw [hv]; simp))).2
        have k2 := (hF2 b (hsub2 b (mem_flat1 hkp hb))).1
        omega
    · rw [List.mem_append] at hb
      rcases hb with hb | hb
      · exact hv'lt b hb
      · rw [List.flatMap_append, List.mem_append] at hb
        have hsz := b2.size
        rcases hb with hb | hb
        · have k1 := hF b (hsub b hb)
          have k2 := hlt b (hsub b hb)
          omega
        · have k1 := hF2 b (hsub2 b hb)
          have k2 := hlt2 b (hsub2 b hb)
          omega
    · have k1 := (hF b (hFown b (by rw [hv]; simp))).1
      omega
end
theorem intsR_one {w : World} {F : List Nat} {cs : List Value} {x : List Int} (h : IntsR .i64 3 w F cs x) : ∀ u ∈ cs, u.oneCell' = true := by
  obtain ⟨u, rfl, h2, _⟩ := h
  intro v hv
  rw [List.mem_singleton.1 hv]
  rcases h2.2 with ⟨rfl, _⟩ | ⟨g2, cap2, cur2, rfl, _⟩ <;> rfl
/-- The same as a step of a region. -/
theorem step_appSSs {w : World} {ops : Array Oper} {o : Oper} {a : Act} {Q : Exit → Act → World → Prop} {K : Act → World → Prop} {E : Prop} (t : TypeId) (ht : Try.prog.underlying t = some (.slice 25)) (hgd : o.guard = none) (s y : Operand) (ho : o.op = .call { callee := .builtin .append, args := #[s, y], argTypes := #[t, t] })
    {L M M' : Nat} {v v2 : Value} {X Y : List (List Int)} (hs : a.eval s = v) (hy : a.eval y = v2) (h : OwnSS w L M v X) (h2 : OwnSS w M M' v2 Y) (hLM : L ≤ M) (hn : X.length + Y.length ≤ 1099511627777) (hL : L ≤ w.heap.size)
    (hK : ∀ v' w', OwnSS w' L w'.heap.size v' (X ++ Y) → Below L w w' → K (a.put o.dst v') w') : if Region.wanted o (yielded ops a.tmps) = true then Oper.wp Try.prog o a w K Q else E := by
  obtain ⟨i0, hi0, hz0, hz1, hz2⟩ := info_parts IntSS_info
  obtain ⟨v', w', hrun, h3, h4⟩ := run_appRs (P := Try.prog) (R := IntsR .i64 3) (e := 25) (IntsR.frames _ _) t o.type i0 _ 24 ht hi0 hz0 hz1 hz2 rfl (fun h => intsR_one h) h h2 hLM (by unfold maxLen; omega) (by omega) hL
  have hw : Region.wanted o (yielded ops a.tmps) = true := by simp [Region.wanted, hgd]
  rw [if_pos hw]
  unfold Oper.wp
  simp [execOp, ho, resolve, invoke, builtin, hs, hy, hrun, Result.andThen]
  exact hK v' w' h3 h4
end Go.Proofs.Ytignchefkihdaaa
