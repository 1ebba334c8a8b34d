/- Proves nothing of a statement by itself: small general lemmas over any program, used by the proofs of this seat (the last step of a law that returns true and leaves all that was there as it was). No conditions. -/
import Derived.WalkKit
import Derived.ProofKit
import Derived.OpenShut
import Derived.Carry
import Derived.Deep.DeepHandedRow
import Derived.Lib.LaidTab
import Derived.Lib.Hide
import Derived.Deep.Draws
import Derived.Test.YtdpaoaoipnoiiaaRows
import Derived.WalkLawsBesides
import Derived.WalkSpells
import Derived.OwnWalk
import Derived.Laws.AppendOwn
import Derived.Deep.AppendLies
import Derived.Deep.QuietTactic
import Derived.BigQuiet
import Derived.IntWalk
import Derived.LoopTactic
import Derived.Outline
namespace Go.Proofs.Ytdpaoaoipnoiiaa
open Go.ChangeShapes Go.WideShapes Go.ChangeAt Go.RowKit
theorem ret_i {k : IntKind} {a b : Int} (h : a = b) : Ending.returned (.int k a) = .returned (.int k b) := by rw [h]
theorem ret_b {a b : Bool} (h : a = b) : Ending.returned (.bool a) = .returned (.bool b) := by rw [h]
theorem ret_s {a b : ByteArray} (h : a = b) : Ending.returned (.string a) = .returned (.string b) := by rw [h]
theorem i64_lo {n : Int} (h : (Lit.int .i64 n).wf = true) : -9223372036854775808 ≤ n := by
  simp [Lit.wf] at h; have e : IntKind.i64.min = -9223372036854775808 := by decide
  omega
theorem i64_hi {n : Int} (h : (Lit.int .i64 n).wf = true) : n ≤ 9223372036854775807 := by
  simp [Lit.wf] at h; have e : IntKind.i64.max = 9223372036854775807 := by decide
  omega
section
variable {H : Type} {enc : TypeId × Value → H} {P : Program}
theorem trodAll_below (hl : laidOutB P = true) {W W' : World} (hb : Below W.heap.size W W') :
    ∀ (ts : List TypeId) (vs : List Value) (ds : List (DataW H)) (ps : List MemPlace), ts.all (fun t => P.readableRec t && decide (t < P.types.size)) = true →
      DataW.TrodAll enc P W 0 (fun _ => true) true ts vs ds ps → (∀ x ∈ ps, x.block < W.heap.size) → DataW.TrodAll enc P W' 0 (fun b => decide (b < W.heap.size)) true ts vs ds ps
  | [], [], [], _, _, h, _ => h
  | t :: ts, v :: vs, d :: ds, ps, hr, h, hlt => by
    obtain ⟨p, q, h1, h2, rfl⟩ := h
    simp only [List.all_cons, Bool.and_eq_true, decide_eq_true_eq] at hr
    exact ⟨p, q, Below.trod hl hr.1.1 hr.1.2 h1 hb (fun x hx => hlt x (List.mem_append_left _ hx)), trodAll_below hl hb ts vs ds q hr.2 h2 (fun x hx => hlt x (List.mem_append_right _ hx)), rfl⟩
  | [], [], _ :: _, _, _, h, _ => by simp [DataW.TrodAll] at h
  | [], _ :: _, _, _, _, h, _ => by simp [DataW.TrodAll] at h
  | _ :: _, [], _, _, _, h, _ => by simp [DataW.TrodAll] at h
  | _ :: _, _ :: _, [], _, _, h, _ => by simp [DataW.TrodAll] at h
/-- The last step of a law that returned true in a world in which all that was there is as it was. -/
theorem post_true {f : Func} {s : ChangeSpec} {W W' : World} {args : Array Value} {ds gs : List (DataW H)} {before : List MemPlace} {tb : TypeId}
    (hW : DataW.Whole enc P f.params.toList s.vars false W args.toList ds gs before) (hrt : f.resultTypes = #[tb]) (htb : P.underlying tb = some .bool) (hv : s.vars = [])
    (hfn : s.fn H (ds ++ gs) = { results := [.lit (.bool true)], args := ds }) (hl : laidOutB P = true)
    (hr : f.params.toList.all (fun t => P.readableRec t && decide (t < P.types.size)) = true) (hb : Below W.heap.size W W') :
    s.post enc P f false true false false W args (.bool true) W' := by
  have hlt : ∀ p ∈ before, p.block < W.heap.size := fun p hp => hW.lt p hp
  have hW' := hW
  obtain ⟨p, q, hA, hV, rfl, _, _⟩ := hW
  rw [hv] at hV
  obtain ⟨rfl, rfl⟩ := trodVars_none hV
  refine ⟨ds, [], p ++ [], [], p, [], hW', ?_, ?_, ?_, World.keptBut_mono (fun x hx => ⟨hx, ?_⟩) (hb.frame (· ∈ p ++ [])), fun h => by cases h⟩
  · rw [hfn, hrt]
    exact trodAll_cons_mk (shut_bool htb _) trodAll_mk0
  · rw [hfn]
    exact trodAll_below hl hb _ _ _ _ hr hA (fun x hx => hlt x (List.mem_append_left _ hx))
  · rw [hfn, hv]
    rfl
  · rw [List.append_nil] at hx
    exact Or.inr (Or.inl hx)
end
theorem below_all {B : Nat} {a w w' : World} (h : Below B a w) (hB : B ≤ w.heap.size) (k : Below w.heap.size w w') : Below B a w' := h.trans (k.mono hB)
theorem below_drewN {B : Nat} {a w : World} (h : Below B a w) (n : Nat) : Below B a (w.drewN n) := ⟨h.os, h.tape, h.output, h.size, h.block⟩
end Go.Proofs.Ytdpaoaoipnoiiaa

/- Contracts of the functions that draw inputs from the code of a law (a cursor over bytes): each returns, within the range that its callers need, and writes to nothing but the cursor and new memory. Condition: the cursor lies in a block of its own and the bytes that it reads lie in older blocks. -/
namespace Go.Proofs.Ytdpaoaoipnoiiaa
open Go.ChangeShapes Go.WideShapes Go.ChangeAt Go.RowKit
/-- A cursor in block B over the code A. -/
structure Cur (w : World) (B : Nat) (A : Option Addr) (n c : Nat) : Prop where
  lt : B < w.heap.size
  c0 : w.cell? ⟨B, 0, none⟩ = some (.slice A n c)
  c1 : ∃ i : Nat, i ≤ n ∧ w.cell? ⟨B, 1, none⟩ = some (.int .i64 i)
  c2 : ∃ h : Int, w.cell? ⟨B, 2, none⟩ = some (.int .i64 h)
  f0 : ∀ k, w.frozen? ⟨B, k, none⟩ = false
  len : n ≤ 9223372036854775807
  code : 0 < n → ∃ a, A = some a ∧ a.block < B ∧ ∀ j, j < n → ∃ z : Int, 0 ≤ z ∧ z ≤ 255 ∧ w.cell? (a.add j) = some (.int .u8 z)
theorem add_block (a : Addr) (n : Nat) : (a.add n).block = a.block := by unfold Addr.add; split <;> rfl
/-- Another world in which the cursor's block and all that lies ahead of it are as they were. -/
theorem Cur.keep {w w' : World} {B : Nat} {A : Option Addr} {n c : Nat} (h : Cur w B A n c) (hs : w.heap.size ≤ w'.heap.size) (hb : ∀ k, k ≤ B → w'.heap[k]? = w.heap[k]?) : Cur w' B A n c := by
  have e : ∀ p : Addr, p.block ≤ B → w'.cell? p = w.cell? p := fun p hp => World.cell?_of_block (hb _ hp)
  refine ⟨Nat.lt_of_lt_of_le h.lt hs, (e _ (Nat.le_refl _)).trans h.c0, ?_, ?_, fun k => (World.frozen?_of_block (hb _ (Nat.le_refl _))).trans (h.f0 k), h.len, fun hn => ?_⟩
  · obtain ⟨i, hi, hc⟩ := h.c1; exact ⟨i, hi, (e _ (Nat.le_refl _)).trans hc⟩
  · obtain ⟨i, hc⟩ := h.c2; exact ⟨i, (e _ (Nat.le_refl _)).trans hc⟩
  · obtain ⟨a, rfl, ha, hc⟩ := h.code hn
    exact ⟨a, rfl, ha, fun j hj => by
      obtain ⟨z, z0, z1, hz⟩ := hc j hj
      exact ⟨z, z0, z1, (e _ (by rw [add_block]; omega)).trans hz⟩⟩
theorem Cur.below {w w' : World} {B : Nat} {A : Option Addr} {n c : Nat} (h : Cur w B A n c) (hb : Below w.heap.size w w') : Cur w' B A n c :=
  h.keep hb.size (fun k hk => hb.block k (Nat.lt_of_le_of_lt hk h.lt))
theorem Cur.drewN {w : World} {B : Nat} {A : Option Addr} {n c : Nat} (h : Cur w B A n c) (k : Nat) : Cur (w.drewN k) B A n c := h.keep (Nat.le_refl _) (fun _ _ => rfl)
theorem Cur.alloc {w : World} {B : Nat} {A : Option Addr} {n c : Nat} (h : Cur w B A n c) (o : Obj) : Cur (w.alloc o) B A n c := h.keep (by simp) (fun k hk => Below.heap_alloc w o k (Nat.lt_of_le_of_lt hk h.lt))
/-- The cursor's own numbers written: it is one still. -/
theorem Cur.set2 {w : World} {B : Nat} {A : Option Addr} {n c : Nat} (h : Cur w B A n c) (x : Int) : Cur (w.setCell ⟨B, 2, none⟩ (.int .i64 x)) B A n c := by
  obtain ⟨y, hy⟩ := h.c2
  refine ⟨by simpa [World.setCell] using h.lt, ?_, ?_, ⟨x, World.cell?_setCell_same _ _ _ hy⟩, fun k => (World.frozen?_setCell _ _ _ _).trans (h.f0 k), h.len, fun hn => ?_⟩
  · rw [World.cell?_setCell_other _ _ _ _ (by simp)]; exact h.c0
  · obtain ⟨i, hi, hc⟩ := h.c1; exact ⟨i, hi, by rw [World.cell?_setCell_other _ _ _ _ (by simp)]; exact hc⟩
  · obtain ⟨a, rfl, ha, hc⟩ := h.code hn
    exact ⟨a, rfl, ha, fun j hj => by
      obtain ⟨z, z0, z1, hz⟩ := hc j hj
      exact ⟨z, z0, z1, by rw [World.cell?_setCell_other _ _ _ _ (fun e => by have := congrArg Addr.block e; rw [add_block] at this; simp at this; omega)]; exact hz⟩⟩
theorem Cur.set1 {w : World} {B : Nat} {A : Option Addr} {n c : Nat} (h : Cur w B A n c) (x : Int) (k : Nat) (hx : k ≤ n) (ex : x = k) : Cur (w.setCell ⟨B, 1, none⟩ (.int .i64 x)) B A n c := by
  subst ex
  obtain ⟨y, hy1, hy⟩ := h.c1
  refine ⟨by simpa [World.setCell] using h.lt, ?_, ⟨k, hx, World.cell?_setCell_same _ _ _ hy⟩, ?_, fun k => (World.frozen?_setCell _ _ _ _).trans (h.f0 k), h.len, fun hn => ?_⟩
  · rw [World.cell?_setCell_other _ _ _ _ (by simp)]; exact h.c0
  · obtain ⟨i, hc⟩ := h.c2; exact ⟨i, by rw [World.cell?_setCell_other _ _ _ _ (by simp)]; exact hc⟩
  · obtain ⟨a, rfl, ha, hc⟩ := h.code hn
    exact ⟨a, rfl, ha, fun j hj => by
      obtain ⟨z, z0, z1, hz⟩ := hc j hj
      exact ⟨z, z0, z1, by rw [World.cell?_setCell_other _ _ _ _ (fun e => by have := congrArg Addr.block e; rw [add_block] at this; simp at this; omega)]; exact hz⟩⟩
theorem only_refl (w : World) (r : Option Nat) : w.grownBy w r := ⟨rfl, rfl, rfl, Nat.le_refl _, fun _ _ _ => rfl⟩
theorem only_drewN {a w : World} {r : Option Nat} (h : a.grownBy w r) (n : Nat) : a.grownBy (w.drewN n) r := ⟨h.os, h.tape, h.output, h.size, h.block⟩
theorem only_alloc {a w : World} {r : Option Nat} (h : a.grownBy w r) (o : Obj) : a.grownBy (w.alloc o) r :=
  ⟨h.os, h.tape, h.output, Nat.le_trans h.size (by simp), fun i hi hne => (Below.heap_alloc w o i (Nat.lt_of_lt_of_le hi h.size)).trans (h.block i hi hne)⟩
theorem only_set {a w : World} {g : Nat} (h : a.grownBy w (some g)) (k : Nat) (u : Value) : a.grownBy (w.setCell ⟨g, k, none⟩ u) (some g) :=
  ⟨h.os, h.tape, h.output, by simpa [World.setCell] using h.size, fun i hi hne => (Below.heap_setCell w _ u i (by rintro rfl; exact hne rfl)).trans (h.block i hi hne)⟩
theorem only_trans {a b c : World} {r : Option Nat} (h : a.grownBy b r) (k : b.grownBy c r) : a.grownBy c r :=
  ⟨k.os.trans h.os, k.tape.trans h.tape, k.output.trans h.output, Nat.le_trans h.size k.size, fun i hi hn => (k.block i (Nat.lt_of_lt_of_le hi h.size) hn).trans (h.block i hi hn)⟩
theorem and_mask (x : Int) (m : Nat) (hm : m < 9223372036854775808) : 0 ≤ bits .and .i64 x (m : Int) ∧ bits .and .i64 x (m : Int) ≤ m := by
  have e : bits .and .i64 x (m : Int) = (((BitVec.ofInt 64 x).toNat &&& m : Nat) : Int) := by
    show IntKind.i64.wrap ((BitVec.ofInt 64 x &&& BitVec.ofInt 64 (m : Int)).toNat : Int) = _
    have h2 : (BitVec.ofInt 64 (m : Int)).toNat = m := by rw [BitVec.ofInt_natCast, BitVec.toNat_ofNat]; exact Nat.mod_eq_of_lt (by omega)
    have h3 : (BitVec.ofInt 64 x).toNat &&& m ≤ m := Nat.and_le_right
    rw [BitVec.toNat_and, h2, IntKind.wrap_i64]
    omega
  have h3 : (BitVec.ofInt 64 x).toNat &&& m ≤ m := Nat.and_le_right
  rw [e]
  omega
theorem and255 (x : Int) : 0 ≤ bits .and .i64 x 255 ∧ bits .and .i64 x 255 ≤ 255 := and_mask x 255 (by omega)
/-- An integer with P is drawn: only the cursor's block turns. -/
def Drawn (P : Int → Prop) (B : Nat) (A : Option Addr) (n c : Nat) (w : World) (e : Ending) (w' : World) : Prop :=
  ∃ x : Int, P x ∧ e = .returned (.int .i64 x) ∧ w.grownBy w' (some B) ∧ Cur w' B A n c
theorem byte_any {w : World} {B : Nat} {A : Option Addr} {n c : Nat} (h : Cur w B A n c) :
    Calls Try.prog 77 #[.pointer (some ⟨B, 0, none⟩)] w (Drawn (fun x => 0 ≤ x ∧ x ≤ 255) B A n c w) := by
  obtain ⟨i, hi, hc1⟩ := h.c1
  obtain ⟨hh, hc2⟩ := h.c2
  have hc0 := h.c0
  have hf0 := h.f0 0
  have hf1 := h.f0 1
  have hf2 := h.f0 2
  have hln := h.len
  go_enter Try.func77, Try.ntmps77
  go_wp2
  go_quiet (fail)
  go_wp2
  obtain ⟨X, hX⟩ : ∃ X, X = bits BinOp.and IntKind.i64 (bits BinOp.xor IntKind.i64 (wrap64 (wrap64 (hh * 6364136223846793005) + 1442695040888963407) / 8589934592) (wrap64 (wrap64 (hh * 6364136223846793005) + 1442695040888963407) / 140737488355328)) 255 := ⟨_, rfl⟩
  obtain ⟨Y, hY⟩ : ∃ Y, Y = wrap64 (wrap64 (hh * 6364136223846793005) + 1442695040888963407) := ⟨_, rfl⟩
  rw [← hX, ← hY]
  have hXb : 0 ≤ X ∧ X ≤ 255 := by rw [hX]; exact and255 _
  clear hX hY
  obtain ⟨hX0, hX1⟩ := hXb
  have hcur := h.set2 Y
  by_cases hlt : (i : Int) < n
  · obtain ⟨a, rfl, hab, hcode⟩ := h.code (by omega)
    obtain ⟨z, hz0, hz1, hz⟩ := hcode i (by omega)
    have hcz : (w.setCell ⟨B, 2, none⟩ (.int .i64 Y)).cell? (a.add i) = some (.int .u8 z) := by
      rw [World.cell?_setCell_other _ _ _ _ (fun e => by have := congrArg Addr.block e; rw [add_block] at this; simp at this; omega)]; exact hz
    have HC := Lib.hid hcur
    clear hcur
    go_quiet (fail)
    go_wp2
    go_quiet (fail)
    go_wp2
    go_ret
    have h255 := and255 (X + z)
    exact ⟨_, h255, rfl, only_set (only_drewN (only_set (only_refl _ _) _ _) _) _ _, (HC.out.drewN _).set1 _ (i + 1) (by omega) (by omega)⟩
  · have HC := Lib.hid hcur
    clear hcur
    go_quiet (fail)
    go_wp2
    go_ret
    exact ⟨_, ⟨hX0, hX1⟩, rfl, only_drewN (only_set (only_refl _ _) _ _) _, HC.out.drewN _⟩
theorem below_any {w : World} {B : Nat} {A : Option Addr} {n c : Nat} (h : Cur w B A n c) (m : Int) (hm : 0 < m) :
    Calls Try.prog 53 #[.pointer (some ⟨B, 0, none⟩), .int .i64 m] w (Drawn (fun x => 0 ≤ x ∧ x < m) B A n c w) := by
  have hm0 : ¬ m ≤ 0 := by omega
  by_cases hs : m ≤ 256
  · go_enter Try.func53, Try.ntmps53
    go_wp2_with (go_at_call 77; refine (byte_any h).mono ?_; rintro e w1 ⟨x, ⟨hx0, hx1⟩, rfl, hg, hc⟩)
    go_ret
    exact ⟨_, ⟨Int.emod_nonneg _ (by omega), Int.emod_lt_of_pos _ hm⟩, rfl, hg, hc⟩
  · go_enter Try.func53, Try.ntmps53
    go_wp2_with fail
    go_at_call 77
    refine (byte_any h).mono ?_
    rintro e w1 ⟨x, ⟨hx0, hx1⟩, rfl, hg1, hc1⟩
    go_wp2_with fail
    go_at_call 77
    refine (byte_any hc1).mono ?_
    rintro e w2 ⟨y, ⟨hy0, hy1⟩, rfl, hg2, hc2⟩
    go_wp2_with fail
    go_at_call 77
    refine (byte_any hc2).mono ?_
    rintro e w3 ⟨z, ⟨hz0, hz1⟩, rfl, hg3, hc3⟩
    go_wp2
    go_ret
    exact ⟨_, ⟨Int.emod_nonneg _ (by omega), Int.emod_lt_of_pos _ hm⟩, rfl, only_trans (only_trans hg1 hg2) hg3, hc3⟩
def OnceB (B : Nat) (A : Option Addr) (n c : Nat) (w : World) (e : Ending) (w' : World) : Prop :=
  ∃ x : Bool, e = .returned (.bool x) ∧ w.grownBy w' (some B) ∧ Cur w' B A n c
theorem once_any {w : World} {B : Nat} {A : Option Addr} {n c : Nat} (h : Cur w B A n c) (m : Int) (hm : 0 < m) :
    Calls Try.prog 54 #[.pointer (some ⟨B, 0, none⟩), .int .i64 m] w (OnceB B A n c w) := by
  go_enter Try.func54, Try.ntmps54
  go_wp2_with (go_at_call 53; refine (below_any h _ hm).mono ?_; rintro e w1 ⟨x, _, rfl, hg, hc⟩)
  go_ret
  exact ⟨_, rfl, hg, hc⟩
/-- A row of integers in block G, each with P. -/
def IntRow (P : Int → Prop) (w : World) (G k : Nat) : Prop := G < w.heap.size ∧ ∀ j, j < k → ∃ z : Int, P z ∧ w.cell? ⟨G, j, none⟩ = some (.int .i64 z)
theorem int_any (P : Int → Prop) {w : World} {B : Nat} {A : Option Addr} {n c : Nat} (h : Cur w B A n c) (G k : Nat) (hG : G ≠ B) (hk : 0 < k) (hk2 : k ≤ 1000) (hr : IntRow P w G k) :
    Calls Try.prog 59 #[.pointer (some ⟨B, 0, none⟩), .slice (some ⟨G, 0, none⟩) k k] w (Drawn P B A n c w) := by
  have HR := Lib.hid hr
  clear hr
  go_enter Try.func59, Try.ntmps59
  go_wp2_with fail
  go_at_call 53
  refine (below_any h _ (by omega)).mono ?_
  rintro e w1 ⟨x, ⟨hx0, hx1⟩, rfl, hg, hc⟩
  obtain ⟨i, rfl⟩ : ∃ i : Nat, x = i := ⟨x.toNat, by omega⟩
  obtain ⟨z, hP, hz⟩ := HR.out.2 i (by omega)
  have hz1 : w1.cell? ⟨G, i, none⟩ = some (.int .i64 z) := hg.cell hz (by simpa using hG)
  have HG := Lib.hid hz
  clear hz
  go_wp2
  go_ret
  exact ⟨_, hP, rfl, hg, hc⟩
theorem introw_alloc (P : Int → Prop) (w : World) (zs : List Int) (t : TypeId) (h : ∀ z ∈ zs, P z) : IntRow P (w.alloc (.cells (zs.map (Value.int .i64)).toArray t)) w.heap.size zs.length := by
  refine ⟨by simp, fun j hj => ⟨zs[j], h _ (List.getElem_mem hj), ?_⟩⟩
  rw [World.cell?_alloc_new]
  simp [hj]
/-- The bytes of a law's argument. -/
structure Code8 (w : World) (A : Option Addr) (n : Nat) : Prop where
  len : n ≤ 9223372036854775807
  code : 0 < n → ∃ a, A = some a ∧ a.block < w.heap.size ∧ ∀ j, j < n → ∃ z : Int, 0 ≤ z ∧ z ≤ 255 ∧ w.cell? (a.add j) = some (.int .u8 z)
theorem Code8.below {w w' : World} {A : Option Addr} {n : Nat} (h : Code8 w A n) (hb : Below w.heap.size w w') : Code8 w' A n := by
  refine ⟨h.len, fun hn => ?_⟩
  obtain ⟨a, rfl, ha, hc⟩ := h.code hn
  exact ⟨a, rfl, Nat.lt_of_lt_of_le ha hb.size, fun j hj => by
    obtain ⟨z, z0, z1, hz⟩ := hc j hj
    exact ⟨z, z0, z1, (hb.cell (by rw [add_block]; exact ha)).trans hz⟩⟩
def NewCur (A : Option Addr) (n c : Nat) (w : World) (e : Ending) (w' : World) : Prop :=
  e = .returned (.pointer (some ⟨w.heap.size, 0, none⟩)) ∧ Below w.heap.size w w' ∧ Cur w' w.heap.size A n c
theorem newcur_mk {A : Option Addr} {n c : Nat} {w : World} (h : Code8 w A n) (x : Int) (t : TypeId) (w' : World)
    (e : w' = w.alloc (.cells #[.slice A n c, .int .i64 0, .int .i64 x] t)) : Below w.heap.size w w' ∧ Cur w' w.heap.size A n c := by
  subst e
  refine ⟨(Below.refl _ _).alloc (Nat.le_refl _) _, by simp, by rw [World.cell?_alloc_new]; rfl, ⟨0, Nat.zero_le _, by rw [World.cell?_alloc_new]; rfl⟩, ⟨x, by rw [World.cell?_alloc_new]; rfl⟩, fun k => World.frozen?_alloc_new _ _ _ _, h.len, fun hn => ?_⟩
  obtain ⟨a, rfl, ha, hc⟩ := h.code hn
  exact ⟨a, rfl, ha, fun j hj => by
    obtain ⟨z, z0, z1, hz⟩ := hc j hj
    exact ⟨z, z0, z1, by rw [World.cell?_alloc_lt _ _ _ (by rw [add_block]; exact ha)]; exact hz⟩⟩
theorem new_any {w : World} {A : Option Addr} {n c : Nat} (h : Code8 w A n) :
    Calls Try.prog 52 #[.slice A n c] w (NewCur A n c w) := by
  have hln := h.len
  go_enter Try.func52, Try.ntmps52
  go_wp2
  go_loop [3, 4] (fun s i => ∃ (x : Int) (k : Nat), s = .int .i64 x ∧ i = .int .i64 k ∧ k ≤ n) (fun _ i => n - (intOf i).toNat)
  case atStart => exact ⟨_, 0, rfl, rfl, Nat.zero_le _⟩
  case round =>
    obtain ⟨x, k, rfl, rfl, hk⟩ := hrel
    by_cases hlt : k < n
    · obtain ⟨a, rfl, ha, hc⟩ := h.code (by omega)
      obtain ⟨z, z0, z1, hz⟩ := hc k hlt
      by_cases h4 : (k : Int) < 4000
      · go_wp2
        exact ⟨⟨_, k + 1, rfl, by go_num, by omega⟩, by simp [intOf]; omega⟩
      · go_wp2
        go_ret
        exact ⟨rfl, newcur_mk h _ _ _ rfl⟩
    · have hd : decide ((k : Int) < (n : Int)) = false := by simpa using hlt
      have hd2 : decide (k < n) = false := by simpa using hlt
      go_wp2
      go_ret
      exact ⟨rfl, newcur_mk h _ _ _ rfl⟩
theorem lt_of_cell {w : World} {a : Addr} {v : Value} (h : w.cell? a = some v) : a.block < w.heap.size := by
  rcases Nat.lt_or_ge a.block w.heap.size with h' | h'
  · exact h'
  · simp [World.cell?, Array.getElem?_eq_none h'] at h
theorem code8_open {H : Type} {enc : TypeId × Value → H} {P : Program} {W : World} {t e : TypeId} {v : Value} {d : DataW H} {p : List MemPlace} {base : Nat} (ht : P.underlying t = some (.slice e)) (he : P.underlying e = some (.int .u8)) (hc : P.cellsOf e = 1)
    (hv : Value.okWide P W .any base t v) (h : DataW.Trod enc P W 0 (fun _ => true) true t v d p) : ∃ A n c, v = .slice A n c ∧ Code8 W A n := by
  obtain ⟨A, n, c, rfl⟩ := okWide_slice ht hv
  obtain ⟨fuel, hf⟩ := h
  refine ⟨A, n, c, rfl, ?_⟩
  rcases open_ints ht he hc hf with ⟨e1, _⟩ | ⟨a, len, cap, zs, e1, _, h1, h2, hl, _, hcell, hwf⟩
  · simp [Value.cells] at e1
    obtain ⟨rfl, rfl, rfl⟩ := e1
    exact ⟨by omega, fun hn => absurd hn (by omega)⟩
  · simp [Value.cells] at e1
    obtain ⟨rfl, rfl, rfl⟩ := e1
    simp only [if_true] at hl
    unfold maxLen at h2
    refine ⟨by omega, fun hn => ⟨a, rfl, ?_, fun j hj => ?_⟩⟩
    · have := lt_of_cell (hcell 0 (by omega))
      rwa [add_block] at this
    · have hw := hwf (zs.getD j 0) (by
        have : zs.getD j 0 = zs[j]'(by omega) := by simp [List.getD, List.getElem?_eq_getElem (show j < zs.length by omega)]
        rw [this]; exact List.getElem_mem _)
      simp only [Lit.wf, Bool.and_eq_true, decide_eq_true_eq] at hw
      have e0 : IntKind.u8.min = 0 := by decide
      have e255 : IntKind.u8.max = 255 := by decide
      exact ⟨_, by omega, by omega, hcell j (by omega)⟩
theorem big_no {w : World} {A : Option Addr} {n c : Nat} (h : n ≤ 1048576) :
    Calls Try.prog 15 #[.slice A n c] w fun e w' => e = .returned (.bool false) ∧ w = w' := by
  have hd : decide (1048576 < n) = false := by simp; omega
  have hd2 : decide (1048576 < (n : Int)) = false := by simp; omega
  go_enter Try.func15, Try.ntmps15
  go_wp2
  go_ret
  exact ⟨rfl, rfl⟩
theorem big_yes {w : World} {A : Option Addr} {n c : Nat} (h : 1048576 < n) :
    Calls Try.prog 15 #[.slice A n c] w fun e w' => e = .returned (.bool true) ∧ w = w' := by
  have hd : decide (1048576 < n) = true := by simp; omega
  have hd2 : decide (1048576 < (n : Int)) = true := by simp; omega
  go_enter Try.func15, Try.ntmps15
  go_wp2
  go_ret
  exact ⟨rfl, rfl⟩
theorem drawn_below {w w1 w2 : World} (hb : Below w.heap.size w w1) (hg : w1.grownBy w2 (some w.heap.size)) : Below w.heap.size w w2 :=
  hb.grown hg hb.size (fun k e => by cases e; exact Nat.le_refl _)
end Go.Proofs.Ytdpaoaoipnoiiaa

/- Contracts of the functions that draw numbers from the code of a law: each returns a number of 64 bits and writes to nothing but the cursor and new memory. Condition: as for the cursor's own functions. -/
namespace Go.Proofs.Ytdpaoaoipnoiiaa
open Go.ChangeShapes Go.WideShapes Go.ChangeAt Go.RowKit
def In64 (x : Int) : Prop := -9223372036854775808 ≤ x ∧ x ≤ 9223372036854775807
def InMax (x : Int) : Prop := 0 ≤ x ∧ x ≤ 1000000000000
theorem only_ofalloc {w w' : World} {o : Obj} {r : Option Nat} (h : (w.alloc o).grownBy w' r) : w.grownBy w' r := only_trans (only_alloc (only_refl w r) o) h
end Go.Proofs.Ytdpaoaoipnoiiaa
