/- A slice of slices of ints that is only read, in memory from lo to hi; how a list of the call's own becomes one, and one that is appended to. No conditions. -/
import Derived.Test.YtignchefkihdaaaDoorMg9
import Derived.Test.YtignchefkihdaaaDoorMg5
import Derived.Test.YtignchefkihdaaaDoorDuo
import Derived.Test.YtignchefkihdaaaDoorSayC
namespace Go.Proofs.YtignchefkihdaaaDoor
open Go.ChangeShapes Go.WideShapes Go.ChangeAt Go.RowKit
set_option maxRecDepth 100000
/-- Nothing from lo to hi has turned. -/
abbrev Sam (w w' : World) (lo hi : Nat) : Prop := ∀ b, lo ≤ b → b < hi → b < w.heap.size → w'.heap[b]? = w.heap[b]?
def SetF (w : World) (lo hi : Nat) (v : Value) (X : List (List Int)) : Prop := ∃ (A : Option Addr) (c : Nat), v = .slice A X.length c ∧ X.length ≤ c ∧ c ≤ maxLen ∧ ∀ w', Sam w w' lo hi → RdSS w' hi A X
section
variable {w w' : World} {lo hi : Nat} {v : Value} {X : List (List Int)}
theorem OwnSS.onlyF {B : Nat} (h : OwnSS w lo hi v X) (hg : w.grownBy w' (some B)) (hB : B < lo) : OwnSS w' lo hi v X := h.out (Out.of_only hg) (.inr hB)
theorem SetF.only {B : Nat} (h : SetF w lo hi v X) (hg : w.grownBy w' (some B)) (hB : B < lo) : SetF w' lo hi v X := by
  obtain ⟨A, c, rfl, hc, hm, hk⟩ := h
  exact ⟨A, c, rfl, hc, hm, fun w'' h2 => hk w'' fun b h3 h4 h5 => (h2 b h3 h4 (Nat.lt_of_lt_of_le h5 hg.size)).trans (hg.block b h5 (fun e => by injection e; omega))⟩
theorem SetF.new (h : SetF w lo hi v X) (hb : Below w.heap.size w w') : SetF w' lo hi v X := by
  obtain ⟨A, c, rfl, hc, hm, hk⟩ := h
  exact ⟨A, c, rfl, hc, hm, fun w'' h2 => hk w'' fun b h3 h4 h5 => (h2 b h3 h4 (Nat.lt_of_lt_of_le h5 hb.size)).trans (hb.block b h5)⟩
theorem SetF.rd (h : SetF w lo hi v X) (hh : hi ≤ w.heap.size) : ∃ (A : Option Addr) (c : Nat), v = .slice A X.length c ∧ X.length ≤ c ∧ c ≤ maxLen ∧ RdSS w w.heap.size A X := by
  obtain ⟨A, c, rfl, hc, hm, hk⟩ := h
  exact ⟨A, c, rfl, hc, hm, (hk w fun _ _ _ _ => rfl).more hh⟩
theorem row_in {t : TypeId} {a b : Nat} {u : Value} {xs : List Value} (h : Row w a b t u xs) (hab : ∀ y, a ≤ y → y < b → lo ≤ y ∧ y < hi) : Row w lo hi t u xs := by
  refine ⟨⟨h.1.1, ?_⟩, fun g hg => ?_⟩
  · rcases h.1.2 with hn | ⟨g, cap, cur, rfl, hb, hgg, rest⟩
    · exact .inl hn
    · exact .inr ⟨g, cap, cur, rfl, (hab g hb (h.2 g rfl)).1, hgg, rest⟩
  · rcases h.1.2 with ⟨rfl, _⟩ | ⟨g', cap, cur, rfl, hb, hgg, rest⟩
    · simp [Value.ownBlock] at hg
    · obtain rfl : g' = g := by simpa [Value.ownBlock] using hg
      exact (hab g' hb (h.2 g' rfl)).2
theorem OwnSS.rowAt (h : OwnSS w lo hi v X) {k : Nat} (hk : k < X.length) : ∃ (g cap : Nat) (u : Value), v = .slice (some ⟨g, 0, none⟩) X.length cap ∧ w.cell? ⟨g, k, none⟩ = some u ∧ lo ≤ g ∧ g < hi ∧ g < w.heap.size ∧ Row w lo hi 3 u (ivs X[k]) := by
  obtain ⟨F, h1, h2, h3⟩ := h
  have hlt := SSR_frames.lt h1
  obtain ⟨v', p, a1, a2, a3, a4, a5, a6⟩ := RowsR.elem h1 hk
  have hvv : v = v' := by simpa using a1
  subst hvv
  obtain ⟨u, hu⟩ : ∃ u, p.2 = [u] := List.length_eq_one_iff.1 a2
  rw [hu] at a3 a5
  obtain ⟨g, cap, b1, b2, b3, b4, b5⟩ := a5 0 u rfl
  rw [show k * 1 + 0 = k by omega] at b4 b5
  obtain ⟨a, b, c1, c2, c3⟩ := a3.row
  exact ⟨g, cap, u, b1, b4, (h3 g b2).1, (h3 g b2).2, hlt g b2, row_in c1 fun y h4 h5 => h3 y (a4 y (c2 y h4 h5))⟩
theorem SetF.of_own (h : OwnSS w lo hi v X) : SetF w lo hi v X := by
  obtain ⟨A, c, rfl, hr, hc, hm⟩ := h.rd (n := X.length) rfl
  refine ⟨A, c, rfl, hc, hm, fun w' hs => fun k x hx => ?_⟩
  obtain ⟨hk, rfl⟩ := List.getElem?_eq_some_iff.1 hx
  obtain ⟨g, cap, u, e, hcell, h1, h2, h3, hrow⟩ := h.rowAt hk
  injection e with e1 _ e3
  subst e1 e3
  obtain ⟨Aj, cj, rfl, hrj, hcj, hmj⟩ := (hrow.keep hs).rd (n := X[k].length) (ivs_len _)
  refine ⟨⟨g, 0, none⟩, Aj, cj, rfl, h2, ?_, hcj, hmj, hrj⟩
  rw [Addr.add_lit, Nat.zero_add]
  exact (World.cell?_of_block (hs g h1 h2 h3)).trans hcell
theorem OwnSS.outer (h : OwnSS w lo hi v X) : ∃ cs, Row w lo hi 25 v cs ∧ cs.length = X.length := by
  obtain ⟨F, ⟨v0, es, a1, a2, a3, a4, a5, _⟩, h2, h3⟩ := h
  have hvv : v = v0 := by simpa using a1
  subst hvv
  have hl := a3.1
  have hF : ∀ g, v.ownBlock = some g → g ∈ F := fun g hg => by rw [a4, hg]; simp
  refine ⟨es.flatMap (·.2), ⟨⟨by omega, ?_⟩, fun g hg => (h3 g (hF g hg)).2⟩, by omega⟩
  rcases a3.2 with ⟨e, hn⟩ | ⟨g, cap, cur, e, hb, hgg, h4, h5, h6, h7⟩
  · exact .inl ⟨e, by omega⟩
  · subst e
    have hlen : (es.flatMap (·.2)).length = X.length := by omega
    rw [hlen]
    exact .inr ⟨g, cap, cur, rfl, (h3 g (hF g rfl)).1, hgg, h4, h5, h6, h7⟩
/-- One list is appended to a list of the call's own. -/
theorem SetF.app {w' : World} {lo hi hi2 : Nat} {v u v' : Value} {X : List (List Int)} {x : List Int} {cs : List Value} (h : OwnSS w lo hi v X) (hcs : Row w lo hi 25 v cs) (hl : cs.length = X.length) (hu : RdF w hi hi2 u x) (hlo : lo ≤ hi) (hw : hi2 ≤ w.heap.size) (hhi : hi ≤ hi2)
    (hr : Row w' lo w'.heap.size 25 v' (cs ++ [u])) (hs : w.heap.size ≤ w'.heap.size) (hk : ∀ b, b < w.heap.size → v.ownBlock ≠ some b → w'.heap[b]? = w.heap[b]?) : SetF w' lo w'.heap.size v' (X ++ [x]) := by
  obtain ⟨A', c', rfl, hr', hc', hm'⟩ := hr.rd (n := (X ++ [x]).length) (by rw [List.length_append, List.length_append, hl]; rfl)
  have hvh : ∀ g, v.ownBlock = some g → lo ≤ g ∧ g < hi := fun g hg => by
    rcases hcs.1.2 with ⟨rfl, _⟩ | ⟨g', cap, cur, rfl, hb, hgg, rest⟩
    · simp [Value.ownBlock] at hg
    · obtain rfl : g' = g := by simpa [Value.ownBlock] using hg
      exact ⟨hb, hcs.2 g' rfl⟩
  refine ⟨A', c', rfl, hc', hm', fun w'' hs'' => fun k y hy => ?_⟩
  have hrow'' := hr.keep hs''
  by_cases hk' : k < X.length
  · rw [List.getElem?_append_left hk'] at hy
    obtain ⟨_, rfl⟩ := List.getElem?_eq_some_iff.1 hy
    obtain ⟨g, cap, uk, e, hcell, h1, h2, h3, hrow⟩ := h.rowAt hk'
    have hck : cs[k]? = some uk := by
      subst e
      have hkc : k < cs.length := by omega
      obtain ⟨ad, e1, _, e2⟩ := hcs.rd' k cs[k] (List.getElem?_eq_getElem hkc)
      injection e1 with e1
      subst e1
      rw [Addr.add_lit, Nat.zero_add, hcell] at e2
      rw [List.getElem?_eq_getElem hkc, ← e2]
    have hrk : Row w' lo hi 3 uk (ivs X[k]) := hrow.keep1 fun y hy' hy2 => hk y hy2 (fun ev => by
      obtain ⟨c1, q1⟩ := own_type hcs.1 ev
      obtain ⟨c2, q2⟩ := own_type hrow.1 hy'
      rw [q1] at q2
      simp at q2)
    obtain ⟨Aj, cj, rfl, hrj, hcj, hmj⟩ := ((hrk.wide (Nat.le_refl _) (show hi ≤ w'.heap.size by omega)).keep hs'').rd (n := X[k].length) (ivs_len _)
    obtain ⟨ad, e1, e2, e3⟩ := hrow''.rd' k _ (show (cs ++ [u])[k]? = some (.slice Aj X[k].length cj) by rw [List.getElem?_append_left (by omega)]; exact hck)
    exact ⟨ad, Aj, cj, e1, e2, e3, hcj, hmj, hrj⟩
  · rw [List.getElem?_append_right (by omega)] at hy
    obtain ⟨hk0, e⟩ := List.getElem?_eq_some_iff.1 hy
    have hk0 : k - X.length = 0 := by simpa using hk0
    simp only [hk0, List.getElem_cons_zero] at e
    subst e
    obtain ⟨Aj, cj, rfl, hcj, hmj, hrj⟩ := hu
    have hrd : Rd w'' hi2 Aj (ivs x) := hrj w'' fun b h1 h2 h3 => (hs'' b (by omega) (by omega) (by omega)).trans (hk b h3 (fun ev => by have := hvh b ev; omega))
    obtain ⟨ad, e1, e2, e3⟩ := hrow''.rd' k _ (show (cs ++ [.slice Aj x.length cj])[k]? = some (.slice Aj x.length cj) by rw [List.getElem?_append_right (by omega), show k - cs.length = 0 by omega]; rfl)
    exact ⟨ad, Aj, cj, e1, e2, e3, hcj, hmj, hrd.more (by omega)⟩
end
end Go.Proofs.YtignchefkihdaaaDoor
