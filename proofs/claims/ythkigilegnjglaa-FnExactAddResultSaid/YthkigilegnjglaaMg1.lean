/- Contracts of the laws' own helpers over []int: toIntS copies, eqIntS compares, markIntS writes k, k+1, .. into each place, heldIntS asks for them. For every slice of at most 2^44 - 512 elements; no other condition. -/
import Derived.Test.YthkigilegnjglaaRows
import Derived.WalkKit
import Derived.ProofKit
import Derived.OpenShut
import Derived.LoopN
import Derived.Handy
import Derived.LoopTactic
import Derived.Lib.Hide
import Derived.IntWalk
import Derived.BigQuiet
import Derived.Deep.QuietTactic
import Derived.Outline
import Derived.Test.YthkigilegnjglaaMg0
import Derived.Maps.AppendAt
namespace Go.Proofs.Ythkigilegnjglaa
open Go.ChangeShapes Go.WideShapes Go.ChangeAt Go.RowKit
theorem IntS_info : (Try.prog.info? 3).map (fun i => (i.zero, i.size, i.bytes)) = some (some (.int .i64 0), 1, 8) := by kernel_rfl
def ivs (zs : List Int) : List Value := zs.map (Value.int .i64)
theorem ivs_len (zs : List Int) : (ivs zs).length = zs.length := by simp [ivs]
theorem ivs_get (zs : List Int) (k : Nat) (h : k < zs.length) : (ivs zs)[k]? = some (.int .i64 zs[k]) := by simp [ivs, h]
theorem ivs_at {w : World} {B : Nat} {A : Option Addr} {zs : List Int} (h : Rd w B A (ivs zs)) {k : Nat} (hk : k < zs.length) :
    ∃ ad, A = some ad ∧ ad.block < B ∧ w.cell? (ad.add k) = some (.int .i64 zs[k]) := h k _ (ivs_get zs k hk)
set_option maxHeartbeats 800000 in
theorem toIntS_any {w : World} {A : Option Addr} {n c : Nat} {zs : List Int} (hl : Hid (zs.length = n)) (hn : n ≤ 17592186043904) (hr : Rd w w.heap.size A (ivs zs)) :
    Calls Try.prog 59 #[.slice A n c] w (Fresh 3 (ivs zs) w) := by
  obtain ⟨i0, hi, hz0, hz1, hz2⟩ := info_parts IntS_info
  go_enter Try.func59, Try.ntmps59
  go_wp2_with (first | (at_make; refine wpList_make_full _ rfl _ _ 45 rfl w.heap.size 3 i0 _ 1 Try.underlying45 hi hz0 hz1 _ _ _ _ n rfl rfl rfl rfl (by rw [hz2]; omega) (by unfold maxLen; omega) (Nat.le_refl _) ?_; intro w1 hown1 hg1))
  have hb1 : Below w.heap.size w w1 := (Below.refl _ _).grown hg1 (Nat.le_refl _) (by simp)
  have hsz := hown1.lt w.heap.size rfl
  have HO := Lib.hid hown1
  clear hown1
  go_loopw [4] (fun i wr => ∃ k : Nat, k ≤ n ∧ i = .int .i64 k ∧ Below w.heap.size w wr ∧ wr.ownsRow w.heap.size 3 1 (.slice (some ⟨w.heap.size, 0, none⟩) n n) n ((ivs zs).take k ++ (madeCells (Value.int .i64 0).cells (n * 1)).toList.drop k)) (fun i _ => n - (intOf i).toNat)
  case atStart => exact ⟨0, Nat.zero_le _, rfl, hb1, by simpa using HO.out⟩
  case round =>
    obtain ⟨k, hk, rfl, hb, hown⟩ := hrel
    by_cases hlt : k < n
    · have hkz : k < zs.length := by rw [hl.out]; exact hlt
      obtain ⟨ad, rfl, hab, hc⟩ := ivs_at (hr.below hb) hkz
      have hlm : (madeCells (Value.int .i64 0).cells (n * 1)).toList.length = (ivs zs).length := by rw [ivs_len, hl.out]; simp [madeCells, Value.cells]
      have hm := set_mix (ivs zs) _ k (.int .i64 zs[k]) (by rw [ivs_len]; exact hkz) hlm (ivs_get zs k hkz)
      obtain ⟨hst, hgs⟩ := hown.stored k (.int .i64 zs[k])
      rw [hm] at hst
      have hcA := hown.cellAt k (by omega)
      obtain ⟨u0, hu0⟩ : ∃ u0, ((ivs zs).take k ++ (madeCells (Value.int .i64 0).cells (n * 1)).toList.drop k)[k]? = some u0 := by
        have : k < ((ivs zs).take k ++ (madeCells (Value.int .i64 0).cells (n * 1)).toList.drop k).length := by have := hown.1; omega
        exact ⟨_, List.getElem?_eq_getElem this⟩
      rw [hu0] at hcA
      have hfA := hown.frozenAt k
      have H1 := Lib.hid hst
      have H2 := Lib.hid hm
      have H3 := Lib.hid hu0
      have H4 := Lib.hid hb
      have H5 := Lib.hid hlm
      clear hst hm hu0 hb hlm hown HO
      go_wp2
      go_roundw
      case rel => exact ⟨k + 1, by omega, by go_num, H4.out.setCell (Nat.le_refl _) _, H1.out⟩
      case measure => simp [intOf]; omega
    · have e : k = n := by omega
      subst e
      have H4 := Lib.hid hb
      have H5 := Lib.hid hown
      clear hown hb
      go_wp2
      go_ret
      have ho := H5.out
      have hll : (ivs zs).length = k := by rw [ivs_len, hl.out]
      rw [List.take_of_length_le (by omega), List.drop_eq_nil_of_le (by simp [madeCells, Value.cells]), List.append_nil] at ho
      exact ⟨.slice (some ⟨w.heap.size, 0, none⟩) k k, rfl, Row.of_own ho, H4.out⟩
set_option maxHeartbeats 800000 in
theorem eqIntS_q {w : World} {A A' : Option Addr} {n c n' c' : Nat} {zs ys : List Int} (hl : Hid (zs.length = n)) (hl' : Hid (ys.length = n')) (hn : n ≤ 17592186043904) (hn' : n' ≤ 17592186043904)
    (hr : Rd w w.heap.size A (ivs zs)) (hr' : Rd w w.heap.size A' (ivs ys)) :
    Calls Try.prog 38 #[.slice A n c, .slice A' n' c'] w (TellsQ (decide (zs = ys)) w) := by
  by_cases hne : n = n'
  · subst hne
    go_enter Try.func38, Try.ntmps38
    go_wp2
    go_loopw [5] (fun i wr => ∃ k q : Nat, k ≤ n ∧ i = .int .i64 k ∧ wr = w.drewN q ∧ zs.take k = ys.take k) (fun i _ => n - (intOf i).toNat)
    case atStart => exact ⟨0, 0, Nat.zero_le _, rfl, rfl, rfl⟩
    case round =>
      obtain ⟨k, q, hk, rfl, rfl, heq⟩ := hrel
      have HE := Lib.hid heq
      clear heq
      by_cases hlt : k < n
      · have hkz : k < zs.length := by rw [hl.out]; exact hlt
        have hky : k < ys.length := by rw [hl'.out]; exact hlt
        obtain ⟨ad, rfl, hab, hc⟩ := ivs_at hr hkz
        obtain ⟨ad', rfl, hab', hc'⟩ := ivs_at hr' hky
        by_cases hv : zs[k] = ys[k]
        · have HV := Lib.hid hv
          rw [hv] at hc
          clear hv
          go_wp2
          go_quiet (fail)
          go_wp2
          go_roundw
          case rel => exact ⟨k + 1, _, by omega, by go_num, rfl, by rw [List.take_succ_eq_append_getElem hkz, List.take_succ_eq_append_getElem hky, HE.out, HV.out]⟩
          case measure => simp [intOf]; omega
        · go_wp2
          go_quiet (fail)
          go_wp2
          go_ret
          refine ⟨ret_b ?_, q + nq, World.drewN_drewN _ _ _⟩
          symm
          simp only [decide_eq_false_iff_not]
          rintro rfl
          exact hv rfl
      · have e : k = n := by omega
        subst e
        go_wp2
        go_ret
        refine ⟨ret_b ?_, q, rfl⟩
        have h1 := HE.out
        rw [List.take_of_length_le (by rw [hl.out]; omega), List.take_of_length_le (by rw [hl'.out]; omega)] at h1
        simp [h1]
  · have hne' : ¬ (n : Int) = n' := by omega
    go_enter Try.func38, Try.ntmps38
    go_wp2
    go_ret
    refine ⟨ret_b ?_, 0, rfl⟩
    symm
    simp only [decide_eq_false_iff_not]
    rintro rfl
    exact hne (hl.out.symm.trans hl'.out)
theorem eqIntS_any {w : World} {A A' : Option Addr} {n c n' c' : Nat} {zs ys : List Int} (hl : Hid (zs.length = n)) (hl' : Hid (ys.length = n')) (hn : n ≤ 17592186043904) (hn' : n' ≤ 17592186043904)
    (hr : Rd w w.heap.size A (ivs zs)) (hr' : Rd w w.heap.size A' (ivs ys)) :
    Calls Try.prog 38 #[.slice A n c, .slice A' n' c'] w (Tells (decide (zs = ys)) w) := (eqIntS_q hl hl' hn hn' hr hr').mono fun _ _ h => h.tells
/-- What markIntS writes: q, q + 1, .. -/
def imks (q : Int) (n : Nat) : List Int := (List.range n).map fun (j : Nat) => (q + (j : Int))
theorem imks_len (q : Int) (n : Nat) : (imks q n).length = n := by simp [imks]
theorem imks_get (q : Int) (n k : Nat) (h : k < n) : (imks q n)[k]'(by rw [imks_len]; exact h) = (q + k) := by simp [imks]
theorem jmks_get (q : Int) (n k : Nat) (h : k < n) : (ivs (imks q n))[k]? = some (.int .i64 ((q + k))) := by
  rw [ivs_get _ _ (by rw [imks_len]; exact h), imks_get q n k h]
set_option maxHeartbeats 800000 in
theorem markIntS_any {w : World} {lo hi n : Nat} {v : Value} {q : Int} {xs : List Value} (hl : Hid (xs.length = n)) (hn : n ≤ 17592186043904) (h0 : 0 ≤ q) (hq : q ≤ 1000000000000000)
    (h : Row w lo hi 3 v xs) :
    Calls Try.prog 39 #[v, .int .i64 q] w (Marked (q + n) lo hi 3 v (ivs (imks q n)) w) := by
  have hown0 := h.own hl.out
  rcases hown0.2 with ⟨rfl, rfl⟩ | ⟨g, cap, cur, rfl, hlo, _, _, _, _, _⟩
  · go_enter Try.func39, Try.ntmps39
    go_wp2
    go_loop [1, 5] (fun m i => i = .int .i64 0 ∧ m = .int .i64 q) (fun _ _ => 0)
    case atStart => exact ⟨rfl, rfl⟩
    case round =>
      obtain ⟨rfl, rfl⟩ := hrel
      go_wp2
      go_ret
      exact ⟨by simp, by simpa [imks, ivs] using Row.nil, Out.refl⟩
  · have hhi : g < hi := h.2 g rfl
    have HL := hl
    have HO := Lib.hid hown0
    clear hown0 h
    go_enter Try.func39, Try.ntmps39
    go_wp2
    go_loopw [1, 5] (fun m i wr => ∃ k : Nat, k ≤ n ∧ i = .int .i64 k ∧ m = .int .i64 (q + k) ∧ wr.ownsRow lo 3 1 (.slice (some ⟨g, 0, none⟩) n cap) n ((ivs (imks q n)).take k ++ xs.drop k) ∧ Out lo hi w wr) (fun _ i _ => n - (intOf i).toNat)
    case atStart => exact ⟨0, Nat.zero_le _, rfl, by simp, by simpa using HO.out, Out.refl⟩
    case round =>
      obtain ⟨k, hk, rfl, rfl, hown, hout⟩ := hrel
      by_cases hlt : k < n
      · have hm := set_mix (ivs (imks q n)) xs k _ (by rw [ivs_len, imks_len]; exact hlt) (by rw [ivs_len, imks_len]; exact hl.out) (jmks_get q n k hlt)
        obtain ⟨hst, hgs⟩ := hown.stored k (.int .i64 ((q + k)))
        rw [hm] at hst
        have hcA := hown.cellAt k (by omega)
        obtain ⟨u0, hu0⟩ : ∃ u0, ((ivs (imks q n)).take k ++ xs.drop k)[k]? = some u0 := by
          have : k < ((ivs (imks q n)).take k ++ xs.drop k).length := by have := hown.1; omega
          exact ⟨_, List.getElem?_eq_getElem this⟩
        rw [hu0] at hcA
        have hfA := hown.frozenAt k
        have hout2 : Out lo hi wr (wr.setCell ⟨g, k, none⟩ (.int .i64 ((q + k)))) :=
          ⟨hgs.os, hgs.tape, hgs.output, hgs.size, fun b hb hne => hgs.block b hb (fun e => by injection e; omega)⟩
        have H1 := Lib.hid hst
        have H2 := Lib.hid hm
        have H3 := Lib.hid hu0
        have H4 := Lib.hid (hout.trans hout2)
        have h256 : 0 ≤ q + (k : Int) := by omega
        clear hst hm hu0 hown HO hgs hout hout2
        go_wp2
        go_roundw
        case rel => exact ⟨k + 1, by omega, by go_num, by go_num, H1.out, H4.out⟩
        case measure => simp [intOf]; omega
      · have e : k = n := by omega
        subst e
        have H4 := Lib.hid hown
        have H5 := Lib.hid hout
        clear hown hout HO
        go_wp2
        go_ret
        have ho := H4.out
        rw [List.take_of_length_le (by rw [ivs_len, imks_len]; omega), List.drop_eq_nil_of_le (by rw [hl.out]; omega), List.append_nil] at ho
        refine ⟨rfl, ⟨?_, fun g' hg' => ?_⟩, H5.out⟩
        · rw [ivs_len, imks_len]; exact ho
        · simp [Value.ownBlock] at hg'; omega
set_option maxHeartbeats 800000 in
theorem heldIntS_any {w : World} {n c : Nat} {A : Option Addr} {q : Int} (hn : n ≤ 17592186043904) (h0 : 0 ≤ q) (hq : q ≤ 1000000000000000) (hr : Rd w w.heap.size A (ivs (imks q n))) :
    Calls Try.prog 40 #[.slice A n c, .int .i64 q] w (fun e w' => e = .returned (.int .i64 (q + n)) ∧ w = w') := by
  go_enter Try.func40, Try.ntmps40
  go_wp2
  go_loop [1, 5] (fun m i => ∃ k : Nat, k ≤ n ∧ i = .int .i64 k ∧ m = .int .i64 (q + k)) (fun _ i => n - (intOf i).toNat)
  case atStart => exact ⟨0, Nat.zero_le _, rfl, by simp⟩
  case round =>
    obtain ⟨k, hk, rfl, rfl⟩ := hrel
    by_cases hlt : k < n
    · obtain ⟨ad, rfl, hab, hc⟩ := hr k _ (jmks_get q n k hlt)
      have h256 : 0 ≤ q + (k : Int) := by omega
      go_wp2
      go_round
      case rel => exact ⟨k + 1, by omega, by go_num, by go_num⟩
      case measure => simp [intOf]; omega
    · have e : k = n := by omega
      subst e
      go_wp2
      go_ret
      exact ⟨rfl, rfl⟩
end Go.Proofs.Ythkigilegnjglaa

/- One law of append for the words of XWords, over any program: the appended slice may be nil; the row stays the call's own. No conditions but the machine's bound on bytes. -/
namespace Go.Proofs.Ythkigilegnjglaa
open Go.ChangeShapes Go.WideShapes Go.ChangeAt Go.RowKit
section
variable {P : Program} {w : World}
theorem run_app_nil (t ty e : TypeId) (i : TypeInfo) (ht : P.underlying t = some (.slice e)) (hi : P.info? e = some i) {base size n c : Nat} {v : Value} {xs : List Value} (hown : w.ownsRow base e size v n xs) :
    (Builtin.append_ #[t, t] ty #[v, .slice none 0 c]).run P w = .ok v w := by
  rcases hown.2 with ⟨rfl, rfl⟩ | ⟨g, cap, cur, rfl, _, _, hnc, _⟩
  · simp [Builtin.append_, run_underlying ht, sizeOf, typeInfo, hi, Builtin.lenOf, Builtin.firstCells]
  · simp [Builtin.append_, run_underlying ht, sizeOf, typeInfo, hi, Builtin.lenOf, Builtin.firstCells, hnc, storeCells]
theorem run_app (t ty e : TypeId) (i : TypeInfo) (z : Value) (bytes : Nat) (ht : P.underlying t = some (.slice e)) (hi : P.info? e = some i) (hz : i.zero = some z) (hsize : i.size = 1) (hby : i.bytes = bytes) (hzs : z.cells.size = 1)
    {lo hi' B m c : Nat} {v : Value} {xs news : List Value} {A : Option Addr} (hrow : Row w lo hi' e v xs) (hm : news.length = m) (hr : Rd w B A news) (h1 : ∀ u ∈ news, u.oneCell' = true)
    (h63 : xs.length + m ≤ maxLen) (hbytes : (xs.length + m) * bytes ≤ 140737488355328) (hlo : lo ≤ w.heap.size) :
    ∃ v' w', (Builtin.append_ #[t, t] ty #[v, .slice A m c]).run P w = .ok v' w' ∧ Row w' lo w'.heap.size e v' (xs ++ news) ∧ Out lo hi' w w' := by
  rcases A with _ | ad
  · have hn : news = [] := by
      cases news with
      | nil => rfl
      | cons u l => obtain ⟨ad, h, _⟩ := hr 0 u rfl; cases h
    subst hn
    obtain rfl : m = 0 := hm.symm
    refine ⟨v, w, run_app_nil t ty e i ht hi hrow.1, ?_, Out.refl⟩
    rw [List.append_nil]
    exact ⟨hrow.1, fun g hg => (hrow.1.lt g hg).2⟩
  · have hcells : ∀ j u, news[j]? = some u → w.cell? (ad.add j) = some u := fun j u hu => by
      obtain ⟨ad', h, _, hc⟩ := hr j u hu
      injection h with h
      subst h
      exact hc
    obtain ⟨v', w', hrun, h2, h3, _, h5⟩ := run_append_own_at (P := P) w lo t ty e i z 1 bytes ht hi hz hsize hby hzs (by omega) v xs.length xs hrow.1 ad m c news (by omega) hcells h1 h63 hbytes hlo
    refine ⟨v', w', hrun, Row.of_own h2, ⟨h3.os, h3.tape, h3.output, h3.size, fun k hk hne => h3.block k hk (fun e => ?_)⟩⟩
    have h6 := hrow.2 k e.symm
    have h7 := (hrow.1.lt k e.symm).1
    omega
theorem wpList_app {ops : Array Oper} {rest : List Oper} {o : Oper} {a : Act} {Q : Exit → Act → World → Prop} (hgd : o.guard = none) (s x : Operand) (t : TypeId)
    (ho : o.op = .call { callee := .builtin .append, args := #[s, x], argTypes := #[t, t] })
    (e : TypeId) (i : TypeInfo) (z : Value) (bytes : Nat) (ht : P.underlying t = some (.slice e)) (hi : P.info? e = some i) (hz : i.zero = some z) (hsize : i.size = 1) (hby : i.bytes = bytes) (hzs : z.cells.size = 1)
    {lo hi' B m c : Nat} {v : Value} {xs news : List Value} {A : Option Addr} (hs : a.eval s = v) (hx : a.eval x = .slice A m c) (hrow : Row w lo hi' e v xs) (hm : news.length = m) (hr : Rd w B A news) (h1 : ∀ u ∈ news, u.oneCell' = true)
    (h63 : xs.length + m ≤ maxLen) (hbytes : (xs.length + m) * bytes ≤ 140737488355328) (hlo : lo ≤ w.heap.size)
    (K : ∀ v' w', Row w' lo w'.heap.size e v' (xs ++ news) → Out lo hi' w w' → wpList P ops Q rest (a.put o.dst v') w') : wpList P ops Q (o :: rest) a w := by
  obtain ⟨v', w', hrun, h2, h3⟩ := run_app (P := P) t o.type e i z bytes ht hi hz hsize hby hzs (c := c) hrow hm hr h1 h63 hbytes hlo
  refine wpList_plain hgd fun K' hK' => ?_
  unfold Oper.wp
  simp [execOp, ho, resolve, invoke, builtin, hs, hx, hrun, Result.andThen]
  exact hK' _ _ (K v' w' h2 h3)
end
theorem int_one {k : IntKind} {zs : List Int} : ∀ u ∈ zs.map (Value.int k), u.oneCell' = true := by
  intro u hu
  obtain ⟨n, _, rfl⟩ := List.mem_map.1 hu
  rfl
/-- A block that was just made reads as its cells. -/
theorem Rd.made (w : World) (cs : Array Value) (t : TypeId) : Rd (w.alloc (.cells cs t)) (w.heap.size + 1) (some ⟨w.heap.size, 0, none⟩) cs.toList := fun j u hu => by
  refine ⟨_, rfl, by simp, ?_⟩
  have e : (⟨w.heap.size, 0, none⟩ : Addr).add j = ⟨w.heap.size, j, none⟩ := by
    unfold Addr.add; split <;> simp_all
  rw [e, cell_of_row _ _ j cs t (0, 0) (heap_alloc_new w _)]
  simpa using hu
theorem Row.made {w : World} (lo : Nat) (cs : Array Value) (n : Nat) (t : TypeId) (hlo : lo ≤ w.heap.size) (hn : cs.size = n) (hm : n ≤ maxLen) : Row (w.alloc (.cells cs t)) lo (w.heap.size + 1) t (.slice (some ⟨w.heap.size, 0, none⟩) n n) cs.toList := by
  have h := World.ownsRow_lit (base := lo) (e := t) (size := 1) w cs n hlo hm (by omega)
  refine ⟨by rw [show cs.toList.length = n by simpa using hn]; exact h, fun g hg => ?_⟩
  simp [Value.ownBlock] at hg
  omega
end Go.Proofs.Ythkigilegnjglaa

/- Words for rows whose elements own memory too, over any program: RowsR (the value owns its row and all that its elements own, block by block), Owns (where all of it lies), RdRows (what is only read). No conditions. -/
namespace Go.Proofs.Ythkigilegnjglaa
open Go.ChangeShapes Go.WideShapes Go.ChangeAt Go.RowKit
section
variable {X Y : Type}
theorem flat_len {es : List (List Nat × List Value)} {size : Nat} (h : ∀ p ∈ es, p.2.length = size) : (es.flatMap (·.2)).length = es.length * size := by
  induction es with
  | nil => simp
  | cons p es ih =>
    have h1 := h p (by simp)
    have h2 := ih (fun q hq => h q (List.mem_cons_of_mem _ hq))
    rw [List.flatMap_cons, List.length_append, h1, h2, List.length_cons, Nat.succ_mul]; omega
theorem flat_at {es : List (List Nat × List Value)} {size : Nat} (h : ∀ p ∈ es, p.2.length = size) (i j : Nat) (hj : j < size) {p : List Nat × List Value} (hp : es[i]? = some p) :
    (es.flatMap (·.2))[i * size + j]? = p.2[j]? := by
  induction es generalizing i with
  | nil => simp at hp
  | cons q es ih =>
    have h1 := h q (by simp)
    rw [List.flatMap_cons]
    cases i with
    | zero =>
      have : q = p := by simpa using hp
      subst this
      rw [List.getElem?_append_left (by omega)]; simp
    | succ i =>
      have := ih (fun q hq => h q (List.mem_cons_of_mem _ hq)) i (by simpa using hp)
      rw [List.getElem?_append_right (by rw [h1, Nat.succ_mul]; omega), ← this]
      congr 1
      rw [h1, Nat.succ_mul]; omega
theorem nodup_flat : ∀ {es : List (List Nat × List Value)}, (es.flatMap (·.1)).Nodup → ∀ {i k : Nat} {p q : List Nat × List Value}, es[i]? = some p → es[k]? = some q → i ≠ k → ∀ {b : Nat}, b ∈ p.1 → b ∈ q.1 → False
  | [], _, _, _, _, _, hp, _, _, _, _, _ => by simp at hp
  | r :: es, h, i, k, p, q, hp, hq, hne, b, hb, hc => by
    rw [List.flatMap_cons] at h
    obtain ⟨_, h2, h3⟩ := List.nodup_append.1 h
    cases i with
    | zero =>
      cases k with
      | zero => exact hne rfl
      | succ k =>
        have : r = p := by simpa using hp
        subst this
        exact h3 b hb b (List.mem_flatMap.2 ⟨q, List.mem_of_getElem? (show es[k]? = some q by simpa using hq), hc⟩) rfl
    | succ i =>
      cases k with
      | zero =>
        have : r = q := by simpa using hq
        subst this
        exact h3 b hc b (List.mem_flatMap.2 ⟨p, List.mem_of_getElem? (show es[i]? = some p by simpa using hp), hb⟩) rfl
      | succ k => exact nodup_flat h2 (i := i) (k := k) (by simpa using hp) (by simpa using hq) (by omega) hb hc
/-- The value owns its row (of element type e, size cells each) and what its elements own; F lists the blocks. -/
def RowsR (e : TypeId) (size : Nat) (R : World → List Nat → List Value → X → Prop) (w : World) (F : List Nat) (cs : List Value) (l : List X) : Prop :=
  ∃ (v : Value) (es : List (List Nat × List Value)), cs = [v] ∧ es.length = l.length ∧ w.ownsRow 0 e size v l.length (es.flatMap (·.2)) ∧ F = v.ownBlock.toList ++ es.flatMap (·.1) ∧ F.Nodup ∧
    (∀ p ∈ es, p.2.length = size) ∧ ∀ (i : Nat) (p : List Nat × List Value) (x : X), es[i]? = some p → l[i]? = some x → R w p.1 p.2 x
/-- What a relation between memory and a datum keeps: it hangs on the blocks of F alone, and they are there. -/
structure Frames (R : World → List Nat → List Value → X → Prop) : Prop where
  keep : ∀ {w w' : World} {F : List Nat} {cs : List Value} {x : X}, R w F cs x → (∀ b ∈ F, w'.heap[b]? = w.heap[b]?) → R w' F cs x
  lt : ∀ {w : World} {F : List Nat} {cs : List Value} {x : X}, R w F cs x → ∀ b ∈ F, b < w.heap.size
variable {R : World → List Nat → List Value → X → Prop} {e : TypeId} {size : Nat} {w w' : World} {F : List Nat} {cs : List Value} {l : List X}
theorem mem_flat1 {es : List (List Nat × List Value)} {i : Nat} {p : List Nat × List Value} (hp : es[i]? = some p) {b : Nat} (hb : b ∈ p.1) : b ∈ es.flatMap (·.1) :=
  List.mem_flatMap.2 ⟨p, List.mem_of_getElem? hp, hb⟩
theorem ownsRow_keep {base n : Nat} {v : Value} {xs : List Value} (h : w.ownsRow base e size v n xs) (hk : ∀ b, v.ownBlock = some b → w'.heap[b]? = w.heap[b]?) : w'.ownsRow base e size v n xs := by
  refine ⟨h.1, ?_⟩
  rcases h.2 with hn | ⟨g, cap, cur, rfl, hb, hgg, rest⟩
  · exact .inl hn
  · exact .inr ⟨g, cap, cur, rfl, hb, (hk g rfl).trans hgg, rest⟩
theorem RowsR.frames (hR : Frames R) : Frames (RowsR e size R) where
  keep := by
    rintro w w' F cs l ⟨v, es, h1, h2, h3, h4, h5, h6, h7⟩ hk
    refine ⟨v, es, h1, h2, ownsRow_keep h3 (fun b hb => hk b (by rw [h4, hb]; simp)), h4, h5, h6, fun i p x hp hx => hR.keep (h7 i p x hp hx) (fun b hb => hk b ?_)⟩
    rw [h4]
    exact List.mem_append_right _ (mem_flat1 hp hb)
  lt := by
    rintro w F cs l ⟨v, es, h1, h2, h3, h4, h5, h6, h7⟩ b hb
    rw [h4, List.mem_append] at hb
    rcases hb with hb | hb
    · cases hv : v.ownBlock with
      | none => rw [hv] at hb; simp at hb
      | some g =>
        rw [hv] at hb
        simp at hb
        subst hb
        exact (h3.lt b hv).2
    · obtain ⟨p, hp, hbp⟩ := List.mem_flatMap.1 hb
      obtain ⟨i, hi⟩ := List.getElem?_of_mem hp
      have hil : i < l.length := by rw [← h2]; exact (List.getElem?_eq_some_iff.1 hi).1
      exact hR.lt (h7 i p l[i] hi (List.getElem?_eq_getElem hil)) b hbp
/-- What one element is, and what becomes of the row when it alone is turned in place. -/
theorem RowsR.elem (h : RowsR e size R w F cs l) {i : Nat} (hi : i < l.length) :
    ∃ (v : Value) (p : List Nat × List Value), cs = [v] ∧ p.2.length = size ∧ R w p.1 p.2 l[i] ∧ (∀ b ∈ p.1, b ∈ F) ∧ (∀ j u, p.2[j]? = some u → ∃ g cap, v = .slice (some ⟨g, 0, none⟩) l.length cap ∧ g ∈ F ∧ g ∉ p.1 ∧ w.cell? ⟨g, i * size + j, none⟩ = some u ∧ w.frozen? ⟨g, i * size + j, none⟩ = false) ∧
      ∀ (w' : World) (x : X), Frames R → (∀ b ∈ F, b ∉ p.1 → w'.heap[b]? = w.heap[b]?) → R w' p.1 p.2 x → RowsR e size R w' F cs (l.set i x) := by
  obtain ⟨v, es, h1, h2, h3, h4, h5, h6, h7⟩ := h
  have hie : i < es.length := by omega
  have hp : es[i]? = some es[i] := List.getElem?_eq_getElem hie
  refine ⟨v, es[i], h1, h6 _ (List.getElem_mem _), h7 i _ _ hp (List.getElem?_eq_getElem hi), fun b hb => by rw [h4]; exact List.mem_append_right _ (mem_flat1 hp hb), fun j u hu => ?_, fun w' x hR hk hx => ?_⟩
  · have hj : j < size := by rw [← h6 _ (List.getElem_mem hie)]; exact (List.getElem?_eq_some_iff.1 hu).1
    obtain ⟨g, cap, hv, _, _⟩ := h3.form (by omega)
    have hgb : v.ownBlock = some g := by rw [hv]; rfl
    have hgF : g ∈ F := by rw [h4, hgb]; simp
    have hil : i * size + j < l.length * size := by
      have : (i + 1) * size ≤ l.length * size := Nat.mul_le_mul_right _ hi
      rw [Nat.succ_mul] at this
      omega
    have h3' := h3
    rw [hv] at h3'
    refine ⟨g, cap, hv, hgF, fun hin => ?_, ?_, h3'.frozenAt _⟩
    · rw [h4, hgb] at h5
      have := (List.nodup_append.1 h5).2.2 g (by simp) g (mem_flat1 hp hin)
      exact this rfl
    · rw [h3'.cellAt _ hil, flat_at h6 i j hj hp]; exact hu
  · refine ⟨v, es, h1, by simpa using h2, ?_, h4, h5, h6, fun k p y hkp hky => ?_⟩
    · rw [List.length_set]
      refine ownsRow_keep h3 (fun b hb => hk b (by rw [h4, hb]; simp) (fun hin => ?_))
      rw [h4, hb] at h5
      exact (List.nodup_append.1 h5).2.2 b (by simp) b (mem_flat1 hp hin) rfl
    · rcases Nat.decEq k i with hne | rfl
      · rw [List.getElem?_set_ne (by omega)] at hky
        refine hR.keep (h7 k p y hkp hky) (fun b hb => hk b (by rw [h4]; exact List.mem_append_right _ (mem_flat1 hkp hb)) (fun hin => ?_))
        have h8 := (List.nodup_append.1 (h4 ▸ h5)).2.1
        exact nodup_flat h8 hkp hp hne hb hin
      · rw [hp] at hkp
        injection hkp with hkp
        subst hkp
        rw [List.getElem?_set_self hi] at hky
        injection hky with hky
        subst hky
        exact hx
/-- A slice of integers that owns its row. -/
def IntsR (k : IntKind) (e : TypeId) (w : World) (F : List Nat) (cs : List Value) (zs : List Int) : Prop :=
  ∃ v : Value, cs = [v] ∧ w.ownsRow 0 e 1 v zs.length (zs.map (Value.int k)) ∧ F = v.ownBlock.toList
theorem own_lt {base n : Nat} {v : Value} {xs : List Value} (h : w.ownsRow base e size v n xs) : ∀ b ∈ v.ownBlock.toList, b < w.heap.size := by
  intro b hb
  cases hv : v.ownBlock with
  | none => rw [hv] at hb; simp at hb
  | some g =>
    rw [hv] at hb
    simp at hb
    subst hb
    exact (h.lt b hv).2
theorem IntsR.frames (k : IntKind) (e : TypeId) : Frames (IntsR k e) where
  keep := by
    rintro w w' F cs zs ⟨v, h1, h2, rfl⟩ hk
    exact ⟨v, h1, ownsRow_keep h2 (fun b hb => hk b (by rw [hb]; simp)), rfl⟩
  lt := by
    rintro w F cs zs ⟨v, h1, h2, rfl⟩ b hb
    exact own_lt h2 b hb
/-- All that the value owns lies in the blocks lo to hi, each block once. -/
def Owns (R : World → List Nat → List Value → X → Prop) (w : World) (lo hi : Nat) (cs : List Value) (x : X) : Prop := ∃ F, R w F cs x ∧ F.Nodup ∧ ∀ b ∈ F, lo ≤ b ∧ b < hi
section
variable {lo hi lo' hi' B : Nat} {x : X}
theorem Owns.keep (h : Owns R w lo hi cs x) (hR : Frames R) (hk : ∀ b, lo ≤ b → b < hi → b < w.heap.size → w'.heap[b]? = w.heap[b]?) : Owns R w' lo hi cs x := by
  obtain ⟨F, h1, h2, h3⟩ := h
  exact ⟨F, hR.keep h1 (fun b hb => hk b (h3 b hb).1 (h3 b hb).2 (hR.lt h1 b hb)), h2, h3⟩
theorem Owns.new (h : Owns R w lo hi cs x) (hR : Frames R) (hb : Below w.heap.size w w') : Owns R w' lo hi cs x := h.keep hR fun b _ _ h3 => hb.block b h3
theorem Owns.below (h : Owns R w lo hi cs x) (hR : Frames R) (hb : Below B w w') (hB : hi ≤ B) : Owns R w' lo hi cs x := h.keep hR fun b _ h2 _ => hb.block b (by omega)
theorem Owns.out (h : Owns R w lo hi cs x) (hR : Frames R) (o : Out lo' hi' w w') (hd : hi ≤ lo' ∨ hi' ≤ lo) : Owns R w' lo hi cs x := h.keep hR fun b h1 h2 h3 => o.block b h3 (by omega)
theorem Owns.wide (h : Owns R w lo hi cs x) (h1 : lo' ≤ lo) (h2 : hi ≤ hi') : Owns R w lo' hi' cs x := by
  obtain ⟨F, a, b, c⟩ := h
  exact ⟨F, a, b, fun d hd => ⟨by have := (c d hd).1; omega, by have := (c d hd).2; omega⟩⟩
theorem Row.owns {k : IntKind} {v : Value} {zs : List Int} (h : Row w lo hi e v (zs.map (Value.int k))) : Owns (IntsR k e) w lo hi [v] zs := by
  have h1 := h.1
  rw [List.length_map] at h1
  refine ⟨v.ownBlock.toList, ⟨v, rfl, ⟨h1.1, ?_⟩, rfl⟩, by cases v.ownBlock <;> simp, fun b hb => ?_⟩
  · rcases h1.2 with hn | ⟨g, cap, cur, e1, hb, rest⟩
    · exact .inl hn
    · exact .inr ⟨g, cap, cur, e1, Nat.zero_le _, rest⟩
  · cases hv : v.ownBlock with
    | none => rw [hv] at hb; simp at hb
    | some g =>
      rw [hv] at hb
      simp at hb
      subst hb
      exact ⟨(h1.lt b hv).1, h.2 b hv⟩
theorem Owns.row {k : IntKind} {v : Value} {zs : List Int} (h : Owns (IntsR k e) w lo hi [v] zs) : Row w lo hi e v (zs.map (Value.int k)) := by
  obtain ⟨F, ⟨v', h1, h2, rfl⟩, _, h4⟩ := h
  have : v = v' := by simpa using h1
  subst this
  refine ⟨⟨by simp, ?_⟩, fun g hg => (h4 g (by rw [hg]; simp)).2⟩
  have h2' := h2.2
  rw [List.length_map]
  rcases h2' with hn | ⟨g, cap, cur, e1, hb, rest⟩
  · exact .inl hn
  · exact .inr ⟨g, cap, cur, e1, (h4 g (by rw [e1]; simp [Value.ownBlock])).1, rest⟩
end
/-- What is only read: a slice whose elements read as l, below block B. -/
def RdRows (size : Nat) (Q : World → Nat → List Value → X → Prop) (w : World) (B : Nat) (cs : List Value) (l : List X) : Prop :=
  ∃ (A : Option Addr) (c : Nat), cs = [.slice A l.length c] ∧ l.length ≤ c ∧ c ≤ maxLen ∧ ∀ (i : Nat) (x : X), l[i]? = some x →
    ∃ (ad : Addr) (us : List Value), A = some ad ∧ ad.block < B ∧ us.length = size ∧ (∀ j u, us[j]? = some u → w.cell? (ad.add (i * size + j)) = some u) ∧ Q w B us x
def RdInts (k : IntKind) (w : World) (B : Nat) (cs : List Value) (zs : List Int) : Prop := ∃ (A : Option Addr) (c : Nat), cs = [.slice A zs.length c] ∧ zs.length ≤ c ∧ c ≤ maxLen ∧ Rd w B A (zs.map (Value.int k))
structure RFrames (Q : World → Nat → List Value → X → Prop) : Prop where
  keep : ∀ {w w' : World} {B : Nat} {cs : List Value} {x : X}, Q w B cs x → (∀ b, b < B → w'.heap[b]? = w.heap[b]?) → Q w' B cs x
  more : ∀ {w : World} {B B' : Nat} {cs : List Value} {x : X}, Q w B cs x → B ≤ B' → Q w B' cs x
theorem RdInts.frames (k : IntKind) : RFrames (RdInts k) where
  keep := by
    rintro w w' B cs zs ⟨A, c, h1, h2, h3, h4⟩ hk
    exact ⟨A, c, h1, h2, h3, h4.keep hk⟩
  more := by
    rintro w B B' cs zs ⟨A, c, h1, h2, h3, h4⟩ hB
    exact ⟨A, c, h1, h2, h3, h4.more hB⟩
theorem RdRows.frames {Q : World → Nat → List Value → X → Prop} (hQ : RFrames Q) : RFrames (RdRows size Q) where
  keep := by
    rintro w w' B cs l ⟨A, c, h1, h2, h3, h4⟩ hk
    refine ⟨A, c, h1, h2, h3, fun i x hx => ?_⟩
    obtain ⟨ad, us, a1, a2, a3, a4, a5⟩ := h4 i x hx
    exact ⟨ad, us, a1, a2, a3, fun j u hu => (World.cell?_of_block (hk _ (by rw [add_blk]; exact a2))).trans (a4 j u hu), hQ.keep a5 hk⟩
  more := by
    rintro w B B' cs l ⟨A, c, h1, h2, h3, h4⟩ hB
    refine ⟨A, c, h1, h2, h3, fun i x hx => ?_⟩
    obtain ⟨ad, us, a1, a2, a3, a4, a5⟩ := h4 i x hx
    exact ⟨ad, us, a1, by omega, a3, a4, hQ.more a5 hB⟩
theorem ownsRow_form {base n : Nat} {v : Value} {xs : List Value} (h : w.ownsRow base e size v n xs) : ∃ A c, v = .slice A n c ∧ n ≤ c ∧ c ≤ maxLen := by
  rcases h.2 with ⟨rfl, rfl⟩ | ⟨g, cap, cur, rfl, _, _, h1, h2, _⟩
  · exact ⟨none, 0, rfl, Nat.le_refl _, Nat.zero_le _⟩
  · exact ⟨_, cap, rfl, h1, h2⟩
theorem IntsR.rd {k : IntKind} {zs : List Int} {B : Nat} (h : IntsR k e w F cs zs) (hB : ∀ b ∈ F, b < B) : RdInts k w B cs zs := by
  obtain ⟨v, rfl, h2, rfl⟩ := h
  have hrow : Row w 0 B e v (zs.map (Value.int k)) := ⟨by rw [List.length_map]; exact h2, fun g hg => hB g (by rw [hg]; simp)⟩
  obtain ⟨A, c, rfl, h4, h5, h6⟩ := hrow.rd (n := zs.length) (by simp)
  exact ⟨A, c, rfl, h5, h6, h4⟩
theorem addr_lit (g k : Nat) : (⟨g, 0, none⟩ : Addr).add k = ⟨g, k, none⟩ := by
  unfold Addr.add; split <;> simp_all
theorem RowsR.rd {Q : World → Nat → List Value → X → Prop} {B : Nat} (hRQ : ∀ {F : List Nat} {cs : List Value} {x : X}, R w F cs x → (∀ b ∈ F, b < B) → Q w B cs x) (h : RowsR e size R w F cs l) (hs : 0 < size) (hB : ∀ b ∈ F, b < B) : RdRows size Q w B cs l := by
  have h0 := h
  obtain ⟨v, es, h1, h2, h3, h4, h5, h6, h7⟩ := h
  obtain ⟨A, c, hv, hc1, hc2⟩ := ownsRow_form h3
  refine ⟨A, c, by rw [h1, hv], hc1, hc2, fun i x hx => ?_⟩
  have hi : i < l.length := (List.getElem?_eq_some_iff.1 hx).1
  have hxe : l[i] = x := (List.getElem?_eq_some_iff.1 hx).2
  obtain ⟨v', p, a1, a2, a3, a4, a5, _⟩ := h0.elem hi
  have hvv : v = v' := by rw [h1] at a1; simpa using a1
  subst hvv
  have hp0 : 0 < p.2.length := by omega
  obtain ⟨g, cap, b1, b2, _, _, _⟩ := a5 0 _ (List.getElem?_eq_getElem hp0)
  have hA : A = some ⟨g, 0, none⟩ := by rw [hv] at b1; injection b1
  refine ⟨⟨g, 0, none⟩, p.2, hA, hB g b2, a2, fun j u hu => ?_, ?_⟩
  · obtain ⟨g', cap', c1, _, _, c4, _⟩ := a5 j u hu
    have : g' = g := by rw [b1] at c1; injection c1 with c1; injection c1 with c1; injection c1 with c1; exact c1.symm
    subst this
    rw [addr_lit]; exact c4
  · rw [hxe] at a3
    exact hRQ a3 (fun b hb => hB b (a4 b hb))
theorem Owns.rd {Q : World → Nat → List Value → X → Prop} {B lo hi : Nat} {x : X} (hRQ : ∀ {F : List Nat}, R w F cs x → (∀ b ∈ F, b < B) → Q w B cs x) (h : Owns R w lo hi cs x) (hB : hi ≤ B) : Q w B cs x := by
  obtain ⟨F, h1, _, h3⟩ := h
  exact hRQ h1 (fun b hb => by have := (h3 b hb).2; omega)
end
end Go.Proofs.Ythkigilegnjglaa
