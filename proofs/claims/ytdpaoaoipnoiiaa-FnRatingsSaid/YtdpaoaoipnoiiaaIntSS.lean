/- Contracts of the laws' own helpers over [][]int: toIntSS copies all, eqIntSS compares, markIntSS writes k, k+1, .. into each integer, heldIntSS asks for them, szIntSS counts. For every slice of at most 2^40 elements, each of at most 2^40; no other condition. -/
import Derived.Test.YtdpaoaoipnoiiaaIntS
import Derived.Test.YtdpaoaoipnoiiaaDeep2
namespace Go.Proofs.Ytdpaoaoipnoiiaa
open Go.ChangeShapes Go.WideShapes Go.ChangeAt Go.RowKit
theorem IntSS_info : (Try.prog.info? 29).map (fun i => (i.zero, i.size, i.bytes)) = some (some (.slice none 0 0), 1, 24) := by kernel_rfl
abbrev SSR : World → List Nat → List Value → List (List Int) → Prop := RowsR 29 1 (IntsR .i64 3)
theorem SSR_frames : Frames SSR := RowsR.frames (IntsR.frames _ _)
def OwnSS (w : World) (lo hi : Nat) (v : Value) (X : List (List Int)) : Prop := Owns SSR w lo hi [v] X
/-- What is only read. -/
def RdSS (w : World) (B : Nat) (A : Option Addr) (X : List (List Int)) : Prop :=
  ∀ (k : Nat) (x : List Int), X[k]? = some x → ∃ (ad : Addr) (Aj : Option Addr) (cj : Nat), A = some ad ∧ ad.block < B ∧ w.cell? (ad.add k) = some (.slice Aj x.length cj) ∧ x.length ≤ cj ∧ cj ≤ maxLen ∧ Rd w B Aj (ivs x)
section
variable {w w' : World} {B B' lo hi lo' hi' : Nat} {A : Option Addr} {X : List (List Int)} {v : Value}
theorem RdSS.keep (h : RdSS w B A X) (hk : ∀ b, b < B → w'.heap[b]? = w.heap[b]?) : RdSS w' B A X := fun k x hx => by
  obtain ⟨ad, Aj, cj, a1, a2, a3, a4, a5, a6⟩ := h k x hx
  exact ⟨ad, Aj, cj, a1, a2, (World.cell?_of_block (hk _ (by rw [add_blk]; exact a2))).trans a3, a4, a5, a6.keep hk⟩
theorem RdSS.below (h : RdSS w B A X) (hb : Below B w w') : RdSS w' B A X := h.keep hb.block
theorem RdSS.more (h : RdSS w B A X) (hB : B ≤ B') : RdSS w B' A X := fun k x hx => by
  obtain ⟨ad, Aj, cj, a1, a2, a3, a4, a5, a6⟩ := h k x hx
  exact ⟨ad, Aj, cj, a1, by omega, a3, a4, a5, a6.more hB⟩
theorem RdSS.drewN (h : RdSS w B A X) (n : Nat) : RdSS (w.drewN n) B A X := h
theorem RdSS.at_ (h : RdSS w B A X) {k : Nat} (hk : k < X.length) : ∃ (ad : Addr) (Aj : Option Addr) (cj : Nat), A = some ad ∧ ad.block < B ∧ w.cell? (ad.add k) = some (.slice Aj X[k].length cj) ∧ X[k].length ≤ cj ∧ cj ≤ maxLen ∧ Rd w B Aj (ivs X[k]) :=
  h k _ (List.getElem?_eq_getElem hk)
theorem RdSS.of_rows {c : Nat} (h : RdRows 1 (RdInts .i64) w B [.slice A X.length c] X) : RdSS w B A X := fun k x hx => by
  obtain ⟨A', c', h1, h2, h3, h4⟩ := h
  obtain ⟨ad, us, a1, a2, a3, a4, ⟨Aj, cj, b1, b2, b3, b4⟩⟩ := h4 k x hx
  have hA : A = A' := by have := List.head_eq_of_cons_eq h1; injection this
  subst hA
  subst b1
  exact ⟨ad, Aj, cj, a1, a2, by have := a4 0 _ rfl; simpa using this, b2, b3, b4⟩
theorem OwnSS.rd (h : OwnSS w lo hi v X) {n : Nat} (hn : X.length = n) : ∃ A c, v = .slice A n c ∧ RdSS w hi A X ∧ n ≤ c ∧ c ≤ maxLen := by
  subst hn
  have h2 : RdRows 1 (RdInts .i64) w hi [v] X := Owns.rd (fun hF hB => RowsR.rd (fun hI hB => hI.rd hB) hF (by omega) hB) h (Nat.le_refl _)
  obtain ⟨A, c, h1, h3, h4, h5⟩ := h2
  have : v = .slice A X.length c := by simpa using h1
  subst this
  exact ⟨A, c, rfl, RdSS.of_rows ⟨A, c, rfl, h3, h4, h5⟩, h3, h4⟩
theorem OwnSS.rd' {n c : Nat} (h : OwnSS w lo hi (.slice A n c) X) : RdSS w hi A X := by
  obtain ⟨A', c', h1, h2, _, _⟩ := h.rd (n := X.length) rfl
  injection h1 with e1 e2 e3
  subst e1
  exact h2
theorem OwnSS.new (h : OwnSS w lo hi v X) (hb : Below w.heap.size w w') : OwnSS w' lo hi v X := Owns.new h SSR_frames hb
theorem OwnSS.below (h : OwnSS w lo hi v X) (hb : Below B w w') (hB : hi ≤ B) : OwnSS w' lo hi v X := Owns.below h SSR_frames hb hB
theorem OwnSS.out (h : OwnSS w lo hi v X) (o : Out lo' hi' w w') (hd : hi ≤ lo' ∨ hi' ≤ lo) : OwnSS w' lo hi v X := Owns.out h SSR_frames o hd
theorem OwnSS.wide (h : OwnSS w lo hi v X) (h1 : lo' ≤ lo) (h2 : hi ≤ hi') : OwnSS w lo' hi' v X := Owns.wide h h1 h2
theorem OwnSS.nil : OwnSS w lo hi (.slice none 0 0) [] := ⟨[], RowsR.nil_, by simp, by simp⟩
theorem IntsR.row {F : List Nat} {u : Value} {zs : List Int} (h : IntsR .i64 3 w F [u] zs) : ∃ a b, Row w a b 3 u (ivs zs) ∧ (∀ x, a ≤ x → x < b → x ∈ F) ∧ (∀ (w' : World) (ys : List Int), Row w' a b 3 u (ivs ys) → IntsR .i64 3 w' F [u] ys) := by
  obtain ⟨u', h1, h2, h3⟩ := h
  have : u = u' := by simpa using h1
  subst this
  have back : ∀ (a b : Nat) (w' : World) (ys : List Int), Row w' a b 3 u (ivs ys) → IntsR .i64 3 w' F [u] ys := fun a b w' ys hr => by
    obtain ⟨F2, ⟨u2, k1, k2, k3⟩, _, _⟩ := Row.owns hr
    have : u = u2 := by simpa using k1
    subst this
    exact ⟨u, rfl, k2, h3⟩
  have hlen : (ivs zs).length = zs.length := ivs_len zs
  rcases h2.2 with ⟨rfl, hn⟩ | ⟨g, cap, cur, rfl, hb, hgg, rest⟩
  · have hz : zs = [] := List.eq_nil_of_length_eq_zero hn
    subst hz
    exact ⟨0, 0, Row.nil, fun x _ h => absurd h (by omega), back 0 0⟩
  · refine ⟨g, g + 1, ⟨⟨by simp, .inr ⟨g, cap, cur, by rw [hlen], Nat.le_refl _, hgg, by rw [hlen]; exact rest⟩⟩, fun x hx => ?_⟩, fun x h1 h2 => ?_, back g (g + 1)⟩
    · simp [Value.ownBlock] at hx; omega
    · have : x = g := by omega
      subst this
      rw [h3]; simp [Value.ownBlock]
/-- One of the slices, and what becomes of all when it alone is turned in place. -/
theorem OwnSS.elem (h : OwnSS w lo hi v X) {k : Nat} (hk : k < X.length) : ∃ (g cap : Nat) (u : Value) (a b : Nat), v = .slice (some ⟨g, 0, none⟩) X.length cap ∧ w.cell? ⟨g, k, none⟩ = some u ∧ w.frozen? ⟨g, k, none⟩ = false ∧ lo ≤ g ∧ g < hi ∧ Row w a b 3 u (ivs X[k]) ∧
    ∀ (w' : World) (x : List Int), Out a b w w' → Row w' a b 3 u (ivs x) → OwnSS w' lo hi v (X.set k x) ∧ Out lo hi w w' := by
  obtain ⟨F, h1, h2, h3⟩ := h
  have hlt := SSR_frames.lt h1
  obtain ⟨v', p, a1, a2, a3, a4, a5, a6⟩ := RowsR.elem h1 hk
  have hvv : v = v' := by simpa using a1
  subst hvv
  obtain ⟨u, hu⟩ : ∃ u, p.2 = [u] := List.length_eq_one_iff.1 a2
  rw [hu] at a3 a5
  obtain ⟨g, cap, b1, b2, b3, b4, b5⟩ := a5 0 u rfl
  rw [show k * 1 + 0 = k by omega] at b4 b5
  obtain ⟨a, b, c1, c2, c3⟩ := a3.row
  refine ⟨g, cap, u, a, b, b1, b4, b5, (h3 g b2).1, (h3 g b2).2, c1, fun w' x ho hr => ⟨⟨F, a6 w' x (IntsR.frames _ _) (fun y hy hne => ?_) (hu ▸ c3 w' x hr), h2, h3⟩, ?_⟩⟩
  · refine ho.block y (hlt y hy) ?_
    rcases Nat.lt_or_ge y a with h' | h'
    · exact .inl h'
    · rcases Nat.lt_or_ge y b with h'' | h''
      · exact absurd (c2 y h' h'') hne
      · exact .inr h''
  · refine ⟨ho.os, ho.tape, ho.output, ho.size, fun y hy hne => ho.block y hy ?_⟩
    rcases Nat.lt_or_ge y a with h' | h'
    · exact .inl h'
    · rcases Nat.lt_or_ge y b with h'' | h''
      · have := h3 y (a4 y (c2 y h' h'')); omega
      · exact .inr h''
/-- A new slice is stored at k. -/
theorem OwnSS.store {g cap M M' : Nat} {u : Value} {x : List Int} (h : OwnSS w lo hi (.slice (some ⟨g, 0, none⟩) X.length cap) X) {k : Nat} (hk : k < X.length) (hr : Row w M M' 3 u (ivs x)) (hM : hi ≤ M) (hM' : M ≤ M') (hlo : lo ≤ hi) :
    OwnSS (w.setCell ⟨g, k, none⟩ u) lo M' (.slice (some ⟨g, 0, none⟩) X.length cap) (X.set k x) := by
  obtain ⟨F, h1, h2, h3⟩ := h
  obtain ⟨F', k1, k2, k3⟩ := Row.owns hr
  obtain ⟨F2, c1, c2, c3⟩ := RowsR.store1 (IntsR.frames _ _) h1 hk k1 (fun b hb hin => by have := (h3 b hin).2; have := (k3 b hb).1; omega) k2 rfl
  refine ⟨F2, c1, c2, fun b hb => ?_⟩
  rcases c3 b hb with hb | hb
  · have := h3 b hb; omega
  · have := k3 b hb; omega
end
theorem set_mixG {α : Type} (xs ys : List α) (k : Nat) (u : α) (hk : k < xs.length) (hl : ys.length = xs.length) (hu : xs[k]? = some u) :
    (xs.take k ++ ys.drop k).set k u = xs.take (k + 1) ++ ys.drop (k + 1) := by
  have h1 : (xs.take k).length = k := by simp; omega
  rw [List.set_append, h1, if_neg (by omega), Nat.sub_self, List.drop_eq_getElem_cons (show k < ys.length by omega)]
  rw [List.getElem?_eq_getElem hk] at hu
  injection hu with hu
  rw [List.set_cons_zero, List.take_succ_eq_append_getElem hk, hu, List.append_assoc]; rfl
theorem mix_len {α : Type} (xs ys : List α) (k : Nat) (hl : ys.length = xs.length) : (xs.take k ++ ys.drop k).length = xs.length := by simp; omega
theorem mix_at {α : Type} (xs ys : List α) (k : Nat) (hk : k < ys.length) (hx : k ≤ xs.length) (h : k < (xs.take k ++ ys.drop k).length) : (xs.take k ++ ys.drop k)[k] = ys[k] := by
  have h1 : (xs.take k).length = k := by simp; omega
  rw [List.getElem_append_right (by omega)]
  simp [h1]
def FreshSS (X : List (List Int)) (w : World) (e : Ending) (w' : World) : Prop :=
  ∃ v, e = .returned v ∧ OwnSS w' w.heap.size w'.heap.size v X ∧ Below w.heap.size w w'
set_option maxHeartbeats 1600000 in
theorem toIntSS_any {w : World} {A : Option Addr} {n c : Nat} {X : List (List Int)} (hl : Hid (X.length = n)) (hn : n ≤ 1099511627776) (hs : Hid (∀ x ∈ X, x.length ≤ 1099511627776)) (hr : RdSS w w.heap.size A X) :
    Calls Try.prog 37 #[.slice A n c] w (FreshSS X w) := by
  obtain ⟨i0, hi, hz0, hz1, hz2⟩ := info_parts IntSS_info
  go_enter Try.func37, Try.ntmps37
  go_wp2_with (first | (at_make; refine wpList_make_full _ rfl _ _ 30 rfl w.heap.size 29 i0 _ 1 Try.underlying30 hi hz0 hz1 _ _ _ _ n rfl rfl rfl rfl (by rw [hz2]; omega) (by unfold maxLen; omega) (Nat.le_refl _) ?_; intro w1 hown1 hg1))
  have hb1 : Below w.heap.size w w1 := (Below.refl _ _).grown hg1 (Nat.le_refl _) (by simp)
  have hsz := (hown1.lt w.heap.size rfl).2
  have hown2 : w1.ownsRow w.heap.size 29 1 (.slice (some ⟨w.heap.size, 0, none⟩) n n) n (List.replicate n (.slice none 0 0)) := by
    have e1 : (madeCells (Value.slice none 0 0).cells (n * 1)).toList = List.replicate n (.slice none 0 0) := by
      rw [Nat.mul_one]; exact toList_madeCells_one _ _
    rw [← e1]; exact hown1
  have hss : OwnSS w1 w.heap.size w1.heap.size (.slice (some ⟨w.heap.size, 0, none⟩) n n) (List.replicate n []) :=
    ⟨[w.heap.size], RowsR.made1 hown2 ⟨_, rfl, by simpa using World.ownsRow_nil w1 0 3 1, rfl⟩, by simp, by simp; omega⟩
  have HO := Lib.hid hss
  clear hown1 hown2 hss
  go_loopw [4] (fun i wr => ∃ k : Nat, k ≤ n ∧ i = .int .i64 k ∧ Below w.heap.size w wr ∧ w.heap.size < wr.heap.size ∧ OwnSS wr w.heap.size wr.heap.size (.slice (some ⟨w.heap.size, 0, none⟩) n n) (X.take k ++ (List.replicate n []).drop k)) (fun i _ => n - (intOf i).toNat)
  case atStart => exact ⟨0, Nat.zero_le _, rfl, hb1, hsz, by simpa using HO.out⟩
  case round =>
    obtain ⟨k, hk, rfl, hb, hsz2, hown⟩ := hrel
    have hrl : (List.replicate n ([] : List Int)).length = X.length := by rw [List.length_replicate, hl.out]
    have hml : (X.take k ++ (List.replicate n []).drop k).length = n := by rw [mix_len _ _ _ hrl, hl.out]
    have HR := Lib.hid hrl
    have HM := Lib.hid hml
    clear hrl hml
    by_cases hlt : k < n
    · have hkz : k < X.length := by rw [hl.out]; exact hlt
      obtain ⟨ad, Aj, cj, rfl, hab, hc, hcl, hcm, hrd⟩ := (hr.below hb).at_ hkz
      have hm := Lib.hid (set_mixG X (List.replicate n []) k X[k] hkz HR.out (List.getElem?_eq_getElem hkz))
      have hxl := hs.out X[k] (List.getElem_mem _)
      obtain ⟨x, hx⟩ : ∃ x, x = X[k] := ⟨_, rfl⟩
      rw [← hx] at hc hrd hxl hm
      have hs1 := hb.size
      obtain ⟨L, hL⟩ : ∃ L, L = X.take k ++ (List.replicate n []).drop k := ⟨_, rfl⟩
      rw [← hL] at hown hm HM
      obtain rfl : L.length = n := HM.out
      have hrd2 := hrd.more hs1
      clear hx hL hcl hcm hrd HO
      go_wp2_with (first
        | (go_at_call 36; refine (toIntS_any (Lib.hid rfl) (by omega) hrd2).mono ?_; rintro e w2 ⟨v1, rfl, hrow, hb2⟩; obtain ⟨A9, c9, rfl, _, _, _⟩ := hrow.rd (ivs_len x); have hown2 := hown.new hb2; obtain ⟨g, cap, u, a, b, q1, q2, q3, _, _, _, _⟩ := hown2.elem (k := k) hlt; obtain ⟨rfl, rfl⟩ : g = w.heap.size ∧ cap = L.length := (by injection q1 with q1 _ q3; injection q1 with q1; injection q1 with q1; exact ⟨q1.symm, q3.symm⟩)))
      go_roundw
      case rel => exact ⟨k + 1, by omega, by go_num, (hb.trans (hb2.mono hs1)).setCell (Nat.le_refl _) _, by have := hb2.size; simp; omega, by rw [← hm.out]; simpa using hown2.store hlt hrow (Nat.le_refl _) hb2.size (by omega)⟩
      case measure => simp [intOf]; omega
    · have e : k = n := by omega
      subst e
      have H5 := Lib.hid hown
      clear hown
      go_wp2
      go_ret
      have ho := H5.out
      rw [List.take_of_length_le (by rw [hl.out]; omega), List.drop_eq_nil_of_le (by simp), List.append_nil] at ho
      exact ⟨.slice (some ⟨w.heap.size, 0, none⟩) k k, rfl, ho, hb⟩
theorem quiet_addQ {P : Program} {f : FuncId} {args : Array Value} {w : World} {a n : Nat} {v : Value} (h : ∀ m, Calls P f args (w.drewN m) fun e w' => e = .returned v ∧ ∃ m', w' = (w.drewN m).drewN m') :
    Calls P f args (w.drewN (a + n)) fun e w'' => e = .returned v ∧ ∃ m, w'' = w.drewN (a + m) :=
  (h (a + n)).mono fun _ _ ⟨he, m, hm⟩ => ⟨he, n + m, by rw [hm, World.drewN_drewN, Nat.add_assoc]⟩
theorem quiet_Q {P : Program} {f : FuncId} {args : Array Value} {w : World} {n : Nat} {v : Value} (h : ∀ m, Calls P f args (w.drewN m) fun e w' => e = .returned v ∧ ∃ m', w' = (w.drewN m).drewN m') :
    Calls P f args (w.drewN n) fun e w'' => e = .returned v ∧ ∃ m, w'' = w.drewN m :=
  (h n).mono fun _ _ ⟨he, m, hm⟩ => ⟨he, n + m, by rw [hm, World.drewN_drewN]⟩
set_option maxHeartbeats 1600000 in
theorem eqIntSS_q {w : World} {A A' : Option Addr} {n c n' c' : Nat} {X Y : List (List Int)} (hl : Hid (X.length = n)) (hl' : Hid (Y.length = n')) (hn : n ≤ 1099511627776) (hs : Hid (∀ x ∈ X, x.length ≤ 1099511627776)) (hs' : Hid (∀ x ∈ Y, x.length ≤ 1099511627776)) (hn' : n' ≤ 1099511627776)
    (hr : RdSS w w.heap.size A X) (hr' : RdSS w w.heap.size A' Y) :
    Calls Try.prog 39 #[.slice A n c, .slice A' n' c'] w (TellsQ (decide (X = Y)) w) := by
  by_cases hne : n = n'
  · subst hne
    go_enter Try.func39, Try.ntmps39
    go_wp2
    go_loopw [5] (fun i wr => ∃ k q : Nat, k ≤ n ∧ i = .int .i64 k ∧ wr = w.drewN q ∧ X.take k = Y.take k) (fun i _ => n - (intOf i).toNat)
    case atStart => exact ⟨0, 0, Nat.zero_le _, rfl, rfl, rfl⟩
    case round =>
      obtain ⟨k, q, hk, rfl, rfl, heq⟩ := hrel
      have HE := Lib.hid heq
      clear heq
      by_cases hlt : k < n
      · have hkz : k < X.length := by rw [hl.out]; exact hlt
        have hky : k < Y.length := by rw [hl'.out]; exact hlt
        obtain ⟨ad, Aj, cj, rfl, hab, hc, _, _, hrd⟩ := hr.at_ hkz
        obtain ⟨ad', Aj', cj', rfl, hab', hc', _, _, hrd'⟩ := hr'.at_ hky
        have b1 := hs.out X[k] (List.getElem_mem _)
        have b2 := hs'.out Y[k] (List.getElem_mem _)
        have HC0 : ∀ m, Calls Try.prog 38 #[.slice Aj X[k].length cj, .slice Aj' Y[k].length cj'] (w.drewN m) (TellsQ (decide (X[k] = Y[k])) (w.drewN m)) :=
          fun m => eqIntS_q (w := w.drewN m) (Lib.hid rfl) (Lib.hid rfl) (by omega) (by omega) hrd hrd'
        by_cases hv : X[k] = Y[k]
        · have HC := Lib.hid (show ∀ m, Calls Try.prog 38 #[.slice Aj X[k].length cj, .slice Aj' Y[k].length cj'] (w.drewN m) (fun e w' => e = .returned (.bool true) ∧ ∃ m', w' = (w.drewN m).drewN m') from fun m => by
            have h := HC0 m; rw [decide_eq_true hv] at h; exact h)
          have HV := Lib.hid hv
          clear hv HC0 hrd hrd' hab hab'
          go_wp2
          go_quiet ((go_at_call 38; first | exact quiet_Q HC.out | exact quiet_addQ HC.out))
          go_wp2
          go_roundw
          case rel => exact ⟨k + 1, _, by omega, by go_num, rfl, by rw [List.take_succ_eq_append_getElem hkz, List.take_succ_eq_append_getElem hky, HE.out, HV.out]⟩
          case measure => simp [intOf]; omega
        · have HC := Lib.hid (show ∀ m, Calls Try.prog 38 #[.slice Aj X[k].length cj, .slice Aj' Y[k].length cj'] (w.drewN m) (fun e w' => e = .returned (.bool false) ∧ ∃ m', w' = (w.drewN m).drewN m') from fun m => by
            have h := HC0 m; rw [decide_eq_false hv] at h; exact h)
          have HV := Lib.hid hv
          clear hv HC0 hrd hrd' hab hab'
          go_wp2
          go_quiet ((go_at_call 38; first | exact quiet_Q HC.out | exact quiet_addQ HC.out))
          go_wp2
          go_ret
          refine ⟨ret_b ?_, q + nq, World.drewN_drewN _ _ _⟩
          symm
          simp only [decide_eq_false_iff_not]
          rintro rfl
          exact HV.out rfl
      · have e : k = n := by omega
        subst e
        go_wp2
        go_ret
        refine ⟨ret_b ?_, q, rfl⟩
        have h1 := HE.out
        rw [List.take_of_length_le (by rw [hl.out]; omega), List.take_of_length_le (by rw [hl'.out]; omega)] at h1
        simp [h1]
  · have hne' : ¬ (n : Int) = n' := by omega
    go_enter Try.func39, Try.ntmps39
    go_wp2
    go_ret
    refine ⟨ret_b ?_, 0, rfl⟩
    symm
    simp only [decide_eq_false_iff_not]
    rintro rfl
    exact hne (hl.out.symm.trans hl'.out)
/-- How many integers the first k slices hold. -/
def psum (X : List (List Int)) (k : Nat) : Nat := ((X.take k).map List.length).sum
theorem psum_succ (X : List (List Int)) (k : Nat) (h : k < X.length) : psum X (k + 1) = psum X k + X[k].length := by
  unfold psum
  rw [List.take_succ_eq_append_getElem h, List.map_append, List.sum_append]; simp
theorem psum_zero (X : List (List Int)) : psum X 0 = 0 := rfl
theorem psum_mono (X : List (List Int)) : ∀ (j k : Nat), j ≤ k → psum X j ≤ psum X k := by
  intro j k h
  induction k with
  | zero => have : j = 0 := by omega
            subst this; exact Nat.le_refl _
  | succ k ih =>
    rcases Nat.lt_or_ge k X.length with hk | hk
    · rcases Nat.lt_or_ge j (k + 1) with hj | hj
      · have := ih (by omega); rw [psum_succ X k hk]; omega
      · have : j = k + 1 := by omega
        subst this; exact Nat.le_refl _
    · rcases Nat.lt_or_ge j (k + 1) with hj | hj
      · have := ih (by omega)
        have e : psum X (k + 1) = psum X k := by unfold psum; rw [List.take_of_length_le (by omega), List.take_of_length_le (by omega)]
        omega
      · have : j = k + 1 := by omega
        subst this; exact Nat.le_refl _
theorem psum_mem (X : List (List Int)) (x : List Int) (hx : x ∈ X) : x.length ≤ psum X X.length := by
  obtain ⟨i, hi⟩ := List.getElem?_of_mem hx
  obtain ⟨h1, h2⟩ := List.getElem?_eq_some_iff.1 hi
  have := psum_succ X i h1
  have h3 := psum_mono X (i + 1) X.length h1
  rw [h2] at this
  omega
/-- What markIntSS writes. -/
def smks (q : Int) (X : List (List Int)) : List (List Int) := (List.range X.length).map fun (i : Nat) => imks (q + (psum X i : Int)) (X.getD i []).length
theorem smks_len (q : Int) (X : List (List Int)) : (smks q X).length = X.length := by simp [smks]
theorem smks_get (q : Int) (X : List (List Int)) (k : Nat) (h : k < X.length) : (smks q X)[k]? = some (imks (q + (psum X k : Int)) X[k].length) := by
  simp [smks, h, List.getD]
theorem smks_mem (q : Int) (X : List (List Int)) {B : Nat} (h : ∀ x ∈ X, x.length ≤ B) : ∀ x ∈ smks q X, x.length ≤ B := by
  intro x hx
  obtain ⟨i, hi⟩ := List.getElem?_of_mem hx
  have hil : i < X.length := by rw [← smks_len q X]; exact (List.getElem?_eq_some_iff.1 hi).1
  rw [smks_get q X i hil] at hi
  injection hi with hi
  rw [← hi, imks_len]
  exact h _ (List.getElem_mem _)
def MarkedSS (q : Int) (lo hi : Nat) (v : Value) (X : List (List Int)) (w : World) (e : Ending) (w' : World) : Prop :=
  e = .returned (.int .i64 q) ∧ OwnSS w' lo hi v X ∧ Out lo hi w w'
set_option maxHeartbeats 1600000 in
theorem markIntSS_any {w : World} {lo hi n : Nat} {v : Value} {q : Int} {X : List (List Int)} (hl : Hid (X.length = n)) (hn : n ≤ 1099511627776) (hs : Hid (∀ x ∈ X, x.length ≤ 1099511627776)) (ht : psum X n ≤ 1000000000000) (h0 : 0 ≤ q) (hq : q ≤ 100000000000000)
    (h : OwnSS w lo hi v X) :
    Calls Try.prog 41 #[v, .int .i64 q] w (MarkedSS (q + psum X n) lo hi v (smks q X) w) := by
  obtain ⟨A, c, rfl, _, _, _⟩ := h.rd hl.out
  have HO := Lib.hid h
  clear h
  go_enter Try.func41, Try.ntmps41
  go_wp2
  go_loopw [1, 5] (fun m i wr => ∃ k : Nat, k ≤ n ∧ i = .int .i64 k ∧ m = .int .i64 (q + psum X k) ∧ OwnSS wr lo hi (.slice A n c) ((smks q X).take k ++ X.drop k) ∧ Out lo hi w wr) (fun _ i _ => n - (intOf i).toNat)
  case atStart => exact ⟨0, Nat.zero_le _, rfl, by simp [psum_zero], by simpa using HO.out, Out.refl⟩
  case round =>
    obtain ⟨k, hk, rfl, rfl, hown, hout⟩ := hrel
    have hp := psum_mono X k n hk
    have hml := Lib.hid (mix_len (smks q X) X k (smks_len q X).symm)
    have hmx : ((smks q X).take k ++ X.drop k).length = n := by rw [hml.out, smks_len, hl.out]
    have HM := Lib.hid hmx
    clear hmx
    by_cases hlt : k < n
    · have hkz : k < X.length := by rw [hl.out]; exact hlt
      have hkm : k < ((smks q X).take k ++ X.drop k).length := by rw [HM.out]; exact hlt
      obtain ⟨g, cap, u, a, b, q1, q2, q3, _, _, q6, q7⟩ := hown.elem hkm
      rw [mix_at (smks q X) X k hkz (by rw [smks_len]; omega) hkm] at q6
      have hps := psum_succ X k hkz
      have hxl := hs.out X[k] (List.getElem_mem _)
      have hp1 := psum_mono X (k + 1) n hlt
      have hset := Lib.hid (set_mixG (smks q X) X k _ (by rw [smks_len]; exact hkz) (smks_len q X).symm (smks_get q X k hkz))
      obtain ⟨x, hx⟩ : ∃ x, x = X[k] := ⟨_, rfl⟩
      rw [← hx] at q6 hps hxl hset
      have hpl := Lib.hid hps
      have hA : A = some ⟨g, 0, none⟩ ∧ c = cap := by injection q1 with e1 _ e3; exact ⟨e1, e3⟩
      obtain ⟨rfl, rfl⟩ := hA
      have hq2 : q + (psum X k : Int) ≤ 1000000000000000 := by omega
      have hq3 : 0 ≤ q + (psum X k : Int) := by omega
      have Q7 := Lib.hid q7
      obtain ⟨A9, c9, rfl, _, _, _⟩ := q6.rd (ivs_len x)
      clear hx q1 q7 hps HO hown
      go_wp2_with (go_at_call 40; refine (markIntS_any (Lib.hid (ivs_len x)) (by omega) hq3 hq2 q6).mono ?_; rintro e w2 ⟨rfl, hrow, ho⟩)
      have hst := Q7.out w2 _ ho hrow
      rw [hset.out] at hst
      go_roundw
      case rel => exact ⟨k + 1, by omega, by go_num, by rw [hpl.out]; go_num, hst.1, hout.trans hst.2⟩
      case measure => simp [intOf]; omega
    · have e : k = n := by omega
      subst e
      have H4 := Lib.hid hown
      have H5 := Lib.hid hout
      clear hown hout HO
      go_wp2
      go_ret
      have ho := H4.out
      rw [List.take_of_length_le (by rw [smks_len, hl.out]; omega), List.drop_eq_nil_of_le (by rw [hl.out]; omega), List.append_nil] at ho
      exact ⟨rfl, ho, H5.out⟩
end Go.Proofs.Ytdpaoaoipnoiiaa
