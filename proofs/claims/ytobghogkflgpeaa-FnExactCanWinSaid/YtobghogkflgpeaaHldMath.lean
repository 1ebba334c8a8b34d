/- Sums of the code of chapter 8: turns of the game as bits. -/
import Derived.Test.YtobghogkflgpeaaGameMath
import Derived.Test.YtobghogkflgpeaaAtk
namespace Go.Proofs.Ytobghogkflgpeaa
/-- What the code's 'holds' gives for the claims u (with c among them) and the claim c. -/
def hldV (N : Int) (X : List (List Int)) (u c : Nat) : Bool := winB N X (lsT (u ||| 2 ^ c) 10) c
/-- What the code's 'canAnswer' gives. -/
def canV (N : Int) (X : List (List Int)) (u c : Nat) : Bool := (lsT (anB (atB (rf N X) c 10) u) 10).any fun b => hldV N X u b.toNat
theorem bS_add {U : List Int} {b : Nat} (h : b < 10) : bS (U ++ [(b : Int)]) = bS U ||| 2 ^ b := by
  rw [bS_snoc, if_pos (inr_t (by omega) (by omega))]
  simp
theorem winF_congr {N : Int} {X : List (List Int)} : ∀ (k : Nat) (U V : List Int) (c : Int), bS U = bS V → winF N X k U c = winF N X k V c
  | 0, _, _, _, _ => rfl
  | k + 1, U, V, c, h => by
    unfold winF
    congr 1
    funext a
    rw [← ansB_code N X U, ← ansB_code N X V, h]
    congr 1
    funext b
    exact winF_congr k _ _ _ (by rw [bS_snoc, bS_snoc, h])
theorem winB_congr {N : Int} {X : List (List Int)} {U V : List Int} (c : Int) (h : bS U = bS V) : winB N X U c = winB N X V c := winF_congr 11 U V c h
theorem or_lt10 {u c : Nat} (hu : u < 1024) (hc : c < 10) : u ||| 2 ^ c < 1024 := by
  have h : 2 ^ c < 2 ^ 10 := Nat.pow_lt_pow_right (by decide) hc
  exact Nat.or_lt_two_pow (n := 10) hu h
/-- In bits: whoever proposed wins if each doubt can be answered. -/
theorem hldV_step (N : Int) (X : List (List Int)) {u c : Nat} (hu : u < 1024) (hc : c < 10) :
    hldV N X u c = (lsT (atB (rf N X) c 10) 10).all fun d => canV N X (u ||| 2 ^ c) d.toNat := by
  have hv := or_lt10 hu hc
  unfold hldV
  rw [win_step, atB_code]
  generalize u ||| 2 ^ c = v at hv ⊢
  rw [Bool.eq_iff_iff, List.all_eq_true, List.all_eq_true]
  have key : ∀ a ∈ atk N X c, ((ansL N X (lsT v 10) a).any fun b => winB N X (lsT v 10 ++ [b]) b) = canV N X v a.toNat := fun a ha => by
    obtain ⟨n, p, rfl, _, rfl, hp⟩ := atk_claim ha
    unfold canV
    rw [Int.toNat_natCast, ← ansB_code, bS_lsT hv]
    rw [Bool.eq_iff_iff, List.any_eq_true, List.any_eq_true]
    have e : ∀ b ∈ lsT (anB (atB (rf n X) p 10) v) 10, winB n X (lsT v 10 ++ [b]) b = hldV n X v b.toNat := fun b hb => by
      obtain ⟨q, hq, _, rfl⟩ := (lsT_mem _ _ _).1 hb
      unfold hldV
      rw [Int.toNat_natCast]
      exact winB_congr _ (by rw [bS_add hq, bS_lsT hv, bS_lsT (or_lt10 hv hq)])
    exact ⟨fun ⟨b, h1, h2⟩ => ⟨b, h1, (e b h1) ▸ h2⟩, fun ⟨b, h1, h2⟩ => ⟨b, h1, (e b h1).symm ▸ h2⟩⟩
  exact ⟨fun h a ha => (key a ha) ▸ h a ha, fun h a ha => (key a ha).symm ▸ h a ha⟩
/-- How many claims are not used. -/
def freU (u : Nat) : Nat := ((List.range 10).filter fun j => !(u.testBit j)).length
theorem freU_le (u : Nat) : freU u ≤ 10 := Nat.le_trans (List.length_filter_le _ _) (by simp)
theorem freU_less {u b : Nat} (hb : b < 10) (h : u.testBit b = false) : freU (u ||| 2 ^ b) < freU u := by
  unfold freU
  refine filt_less (fun x _ hx => ?_) ⟨b, List.mem_range.2 hb, by simp [h], by simp [Nat.testBit_or]⟩
  simp [Nat.testBit_or] at hx ⊢
  exact hx.1
theorem ans_free {N : Int} {X : List (List Int)} {u c : Nat} (hu : u < 1024) {b : Int} (h : b ∈ lsT (anB (atB (rf N X) c 10) u) 10) : ∃ p : Nat, b = p ∧ p < 10 ∧ u.testBit p = false := by
  obtain ⟨p, hp, hb, rfl⟩ := (lsT_mem _ _ _).1 h
  refine ⟨p, rfl, hp, ?_⟩
  have h1 := Nat.lt_trans (atB_lt (rf N X) c 10 (Nat.le_refl _)) (show 1024 < 65536 by decide)
  rw [anB_bit (Nat.lt_trans hu (by decide)) h1] at hb
  simp at hb
  exact hb.2
theorem canW_code {n : Nat} {X : List (List Int)} {c : Nat} (hc : c < 10) : hldV n X 0 c = winB n X [(c : Int)] c := by
  unfold hldV
  refine winB_congr _ ?_
  rw [bS_lsT (or_lt10 (by decide) hc)]
  exact (bS_add (U := []) hc).symm
theorem best_code {N : Int} {X : List (List Int)} {U : List Int} {b : Nat} (hb : b < 10) : hldV N X (bS U) b = winB N X (U ++ [(b : Int)]) b := by
  unfold hldV
  refine winB_congr _ ?_
  rw [bS_lsT (or_lt10 (bS_lt U) hb), bS_add hb]
end Go.Proofs.Ytobghogkflgpeaa
