/- Words for slices of judges (structs of 2 integers and a slice of integers): what is only read (RdJ), what the call owns (OwnJ); stores into a field. No conditions. -/
import Derived.Test.YtdhnhhicjjcmdaaIntSS
import Derived.Test.YtdhnhhicjjcmdaaRow3
import Derived.Test.YtdhnhhicjjcmdaaOpen3
import Derived.Test.YtdhnhhicjjcmdaaTeamR
namespace Go.Proofs.Ytdhnhhicjjcmdaa
open Go.ChangeShapes Go.WideShapes Go.ChangeAt Go.RowKit
structure Jd where
  id : Int
  club : Int
  seen : List Int
/-- All integers are of 64 bits. -/
def Jd.ok (x : Jd) : Prop := I6 x.id ∧ I6 x.club ∧ ∀ z ∈ x.seen, I6 z
def JudgeR (w : World) (F : List Nat) (cs : List Value) (x : Jd) : Prop := ∃ v : Value, cs = [.int .i64 x.id, .int .i64 x.club, v] ∧ IntsR .i64 3 w F [v] x.seen
theorem JudgeR.frames : Frames JudgeR where
  keep := by
    rintro w w' F cs x ⟨v, h1, h2⟩ hk
    exact ⟨v, h1, (IntsR.frames _ _).keep h2 hk⟩
  lt := by
    rintro w F cs x ⟨v, h1, h2⟩ b hb
    exact (IntsR.frames _ _).lt h2 b hb
/-- A judge that lies at p and is only read. -/
def AtJ (w : World) (B : Nat) (p : Addr) (x : Jd) : Prop := p.block < B ∧ ∃ (Aj : Option Addr) (cj : Nat), w.cell? p = some (.int .i64 x.id) ∧ w.cell? ⟨p.block, p.off + 1, none⟩ = some (.int .i64 x.club) ∧ w.cell? ⟨p.block, p.off + 2, none⟩ = some (.slice Aj x.seen.length cj) ∧ x.seen.length ≤ cj ∧ cj ≤ maxLen ∧ Rd w B Aj (ivs x.seen)
def RdJ (w : World) (B : Nat) (A : Option Addr) (X : List Jd) : Prop :=
  ∀ (k : Nat) (x : Jd), X[k]? = some x → ∃ ad : Addr, A = some ad ∧ AtJ w B (ad.add (k * 3)) x
def RdJd (w : World) (B : Nat) (cs : List Value) (x : Jd) : Prop := ∃ (Aj : Option Addr) (cj : Nat), cs = [.int .i64 x.id, .int .i64 x.club, .slice Aj x.seen.length cj] ∧ x.seen.length ≤ cj ∧ cj ≤ maxLen ∧ Rd w B Aj (ivs x.seen)
theorem JudgeR.rd {w : World} {F : List Nat} {cs : List Value} {x : Jd} {B : Nat} (h : JudgeR w F cs x) (hB : ∀ b ∈ F, b < B) : RdJd w B cs x := by
  obtain ⟨v, rfl, h2⟩ := h
  obtain ⟨A, c, e, h4, h5, h6⟩ := h2.rd hB
  have : v = .slice A x.seen.length c := by simpa using e
  subst this
  exact ⟨A, c, rfl, h4, h5, h6⟩
section
variable {w w' : World} {B B' lo hi lo' hi' : Nat} {A : Option Addr} {X : List Jd} {v : Value} {p : Addr} {x : Jd}
theorem AtJ.keep (h : AtJ w B p x) (hk : ∀ b, b < B → w'.heap[b]? = w.heap[b]?) : AtJ w' B p x := by
  obtain ⟨a0, Aj, cj, c0, c1, c2, a1, a2, a3⟩ := h
  exact ⟨a0, Aj, cj, (show w'.cell? p = w.cell? _ from World.cell?_of_block (hk _ a0)).trans c0, (show w'.cell? ⟨p.block, p.off + 1, none⟩ = w.cell? _ from World.cell?_of_block (hk _ a0)).trans c1, (show w'.cell? ⟨p.block, p.off + 2, none⟩ = w.cell? _ from World.cell?_of_block (hk _ a0)).trans c2, a1, a2, a3.keep hk⟩
theorem AtJ.below (h : AtJ w B p x) (hb : Below B w w') : AtJ w' B p x := h.keep hb.block
theorem AtJ.more (h : AtJ w B p x) (hB : B ≤ B') : AtJ w B' p x := by
  obtain ⟨a0, Aj, cj, c0, c1, c2, a1, a2, a3⟩ := h
  exact ⟨by omega, Aj, cj, c0, c1, c2, a1, a2, a3.more hB⟩
theorem RdJ.keep (h : RdJ w B A X) (hk : ∀ b, b < B → w'.heap[b]? = w.heap[b]?) : RdJ w' B A X := fun k x hx => by
  obtain ⟨ad, a1, a2⟩ := h k x hx
  exact ⟨ad, a1, a2.keep hk⟩
theorem RdJ.below (h : RdJ w B A X) (hb : Below B w w') : RdJ w' B A X := h.keep hb.block
theorem RdJ.more (h : RdJ w B A X) (hB : B ≤ B') : RdJ w B' A X := fun k x hx => by
  obtain ⟨ad, a1, a2⟩ := h k x hx
  exact ⟨ad, a1, a2.more hB⟩
theorem RdJ.drewN (h : RdJ w B A X) (n : Nat) : RdJ (w.drewN n) B A X := h
theorem RdJ.nil : RdJ w B A [] := fun k x hx => by simp at hx
theorem RdJ.at_ (h : RdJ w B A X) {k : Nat} (hk : k < X.length) : ∃ ad p : Addr, A = some ad ∧ ad.add (k * 3) = p ∧ AtJ w B p X[k] := by
  obtain ⟨ad, a1, a2⟩ := h k _ (List.getElem?_eq_getElem hk)
  exact ⟨ad, _, a1, rfl, a2⟩
theorem RdJ.of_rows {c : Nat} (h : RdRows 3 RdJd w B [.slice A X.length c] X) : RdJ w B A X := fun k x hx => by
  obtain ⟨A', c', h1, h2, h3, h4⟩ := h
  obtain ⟨ad, us, a1, a2, a3, a4, ⟨Aj, cj, b1, b2, b3, b4⟩⟩ := h4 k x hx
  have hA : A = A' := by have := List.head_eq_of_cons_eq h1; injection this
  subst hA
  subst b1
  refine ⟨ad, a1, by rw [add_blk]; exact a2, Aj, cj, ?_, ?_, ?_, b2, b3, b4⟩
  · have := a4 0 _ rfl; simpa using this
  · rw [← add_part]; exact a4 1 _ rfl
  · rw [← add_part]; exact a4 2 _ rfl
end
end Go.Proofs.Ytdhnhhicjjcmdaa
