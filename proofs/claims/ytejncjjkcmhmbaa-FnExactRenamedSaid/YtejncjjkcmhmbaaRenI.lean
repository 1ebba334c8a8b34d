/- Contracts of the code's Without. Condition: the slices have at most 2^40 elements. -/
import Derived.Test.YtejncjjkcmhmbaaRenC
namespace Go.Proofs.Ytejncjjkcmhmbaa
open Go.ChangeShapes Go.WideShapes Go.ChangeAt Go.RowKit
set_option maxRecDepth 100000
/-- The graph without a claim, or as it was. -/
def woM (N : Int) (X : List (List Int)) (c : Int) : Int := if woB N X c then N - 1 else N
def woY (N : Int) (X : List (List Int)) (c : Int) : List (List Int) := if woB N X c then woX X c else X
theorem woB_rn {N : Int} {X : List (List Int)} {c : Int} : inr c 0 (rn N X - 1) = woB N X c := by
  unfold woB rn
  cases hg : gB N X with
  | true => rfl
  | false =>
    cases hc : inr c 0 ((if false = true then N else 0) - 1) with
    | false => rfl
    | true => simp [inr] at hc; omega
theorem Out.drew_ {lo hi : Nat} {w w' : World} (h : Out lo hi w w') : Out lo hi w w'.drew := h.drewN 1
theorem two_one {N : Int} {v : Value} (h : v.oneCell' = true) : ∀ x ∈ (#[Value.int .i64 N, v] : Array Value).toList, x.oneCell' = true := by
  intro x hx
  simp at hx
  rcases hx with rfl | rfl
  · rfl
  · exact h
/-- All stays but one block of two cells. -/
structure Kp (q : Nat) (t : TypeId) (W w : World) : Prop where
  out : Out q (q + 1) W w
  two : ∃ cs, Bx w q t cs ∧ cs.size = 2
section
variable {q : Nat} {t : TypeId} {W w w' : World}
theorem Kp.start {a b : Value} (h : Bx W q t #[a, b]) : Kp q t W W := ⟨Out.refl, _, h, rfl⟩
theorem Kp.drew_ (h : Kp q t W w) : Kp q t W w.drew := ⟨h.out.drew_, h.two⟩
theorem Kp.new (h : Kp q t W w) (hb : Below w.heap.size w w') : Kp q t W w' := ⟨h.out.trans (Out.of_below hb), by obtain ⟨cs, h1, h2⟩ := h.two; exact ⟨cs, h1.new hb, h2⟩⟩
theorem Kp.setRow (h : Kp q t W w) {cs : Array Value} (hs : cs.size = 2) : Kp q t W (w.setRow q cs) :=
  ⟨h.out.trans (setRow_out w q cs (Nat.le_refl _) (Nat.lt_succ_self _)), by obtain ⟨cs', h1, h2⟩ := h.two; exact ⟨cs, h1.setRow cs, hs⟩⟩
theorem Kp.eleven {G : Nat} {t' : TypeId} {N : Int} {f : Nat → Nat} (h : Bx W G t' (arC N f)) (hd : G ≠ q) (o : Kp q t W w') :
    Kp q t W w' ∧ w'.cell? ⟨G, 0, none⟩ = some (.int .i64 N) ∧ w'.cell? ⟨G, 1, none⟩ = some (.int .u16 (f 0 : Nat)) ∧ w'.cell? ⟨G, 2, none⟩ = some (.int .u16 (f 1 : Nat)) ∧ w'.cell? ⟨G, 3, none⟩ = some (.int .u16 (f 2 : Nat)) ∧ w'.cell? ⟨G, 4, none⟩ = some (.int .u16 (f 3 : Nat)) ∧ w'.cell? ⟨G, 5, none⟩ = some (.int .u16 (f 4 : Nat)) ∧ w'.cell? ⟨G, 6, none⟩ = some (.int .u16 (f 5 : Nat)) ∧ w'.cell? ⟨G, 7, none⟩ = some (.int .u16 (f 6 : Nat)) ∧ w'.cell? ⟨G, 8, none⟩ = some (.int .u16 (f 7 : Nat)) ∧ w'.cell? ⟨G, 9, none⟩ = some (.int .u16 (f 8 : Nat)) ∧ w'.cell? ⟨G, 10, none⟩ = some (.int .u16 (f 9 : Nat)) :=
  ⟨o, (h.out o.out (by omega)).eleven⟩
theorem Kp.store {P : Program} (h : Kp q t W w) {cs' : Array Value} (hs : cs'.size = 2) (h1 : ∀ v ∈ cs'.toList, v.oneCell' = true) : (storeCells ⟨q, 0, none⟩ cs'.toList 0).run P w = .ok () (w.setRow q cs') := by
  obtain ⟨cs, h2, h3⟩ := h.two
  exact h2.store (by rw [hs, h3]) h1
end
end Go.Proofs.Ytejncjjkcmhmbaa
