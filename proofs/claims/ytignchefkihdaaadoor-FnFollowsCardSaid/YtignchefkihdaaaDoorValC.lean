/- Contracts of the code's values of trees, and of Value. Conditions: the slices have at most 2^40 elements. -/
import Derived.Test.YtignchefkihdaaaDoorFmlC
import Derived.Test.YtignchefkihdaaaDoorBits
namespace Go.Proofs.YtignchefkihdaaaDoor
open Go.ChangeShapes Go.WideShapes Go.ChangeAt Go.RowKit
set_option maxRecDepth 100000
theorem opB_and (a b : Bool) : opB (-2) a b = (a && b) := rfl
theorem opB_or (a b : Bool) : opB (-3) a b = (a || b) := rfl
theorem opB_then {x : Int} (h1 : x ≠ -2) (h2 : x ≠ -3) (a b : Bool) : opB x a b = (!a || b) := by unfold opB; rw [if_neg h1, if_neg h2]
section
variable {A : Option Addr} {n c : Nat} {L : List Bool}
theorem ltVal_any {w : World} {k : Int} (hl : Hid (L.length = n)) (h0 : 0 ≤ k) (h1 : k ≤ 9223372036854775807) (hr : Rd w w.heap.size A (bls L)) : Calls Tryd.prog 60 #[.int .i64 k, .slice A n c] w (Tells (L.getD k.toNat false) w) := by
  obtain ⟨m, rfl⟩ := Int.eq_ofNat_of_zero_le h0
  by_cases hm : m < n
  · have hmz : m < L.length := by rw [hl.out]; exact hm
    obtain ⟨ad, rfl, hab, hc⟩ := bls_at hr hmz
    have HV := Lib.hid (show L.getD (m : Int).toNat false = L[m] by simp [List.getD, hmz])
    obtain ⟨b, hb⟩ : ∃ b, b = L[m] := ⟨_, rfl⟩
    rw [← hb] at hc HV
    clear hb
    go_enter Tryd.func60, Tryd.ntmps60
    go_wp2_with fail
    go_ret
    exact ⟨ret_b HV.out.symm, Below.refl _ _⟩
  · have HV := Lib.hid (show L.getD (m : Int).toNat false = false by simp [List.getD, hl.out, hm])
    go_enter Tryd.func60, Tryd.ntmps60
    go_wp2_with fail
    go_ret
    exact ⟨ret_b HV.out.symm, Below.refl _ _⟩
/-- The method of a tree, and what it is called with. -/
def trF : Tr → FuncId
  | .lt _ => 60
  | .nt _ => 62
  | .jt _ _ _ => 64
def trP : Tr → Value
  | .lt k => .int .i64 k
  | .nt t => .agg #[encT t]
  | .jt op a b => .agg #[.int .i64 op, encT a, encT b]
def trI : Tr → TypeId
  | .lt _ => 76
  | .nt _ => 78
  | .jt _ _ _ => 80
theorem encT_eq (t : Tr) : encT t = .iface (trI t) (trP t) := by cases t <;> rfl
theorem meth_val (t : Tr) (w : World) : (method 199 (trI t) (trP t) "loop.example/g03009/impl.value").run Tryd.prog w = .ok (trF t, trP t) w := by
  cases t <;> kernel_rfl
theorem call_val (t : Tr) (v : Value) (w : World) : (callFunc (trF t) #[trP t, v]).run Tryd.prog w = .ok (.enter (trF t) #[trP t, v]) w := by
  cases t <;> kernel_rfl
theorem ntVal_any {w : World} {t : Tr} (hr : Rd w w.heap.size A (bls L)) (ih : ∀ w, Rd w w.heap.size A (bls L) → Calls Tryd.prog (trF t) #[trP t, .slice A n c] w (Tells (trV L t) w)) :
    Calls Tryd.prog 62 #[.agg #[encT t], .slice A n c] w (Tells (!(trV L t)) w) := by
  have hm := meth_val t
  have hc := call_val t
  rw [encT_eq]
  generalize trI t = i at hm ⊢
  generalize trP t = p at hm hc ih ⊢
  generalize trF t = f at hm hc ih ⊢
  generalize trV L t = b at ih ⊢
  have bx := Bx.made w 78 #[.iface i p]
  have hb1 := alloc_new w (Obj.cells #[.iface i p] 78)
  obtain ⟨W1, hW⟩ : ∃ u : World, u = w.alloc (Obj.cells #[.iface i p] 78) := ⟨_, rfl⟩
  rw [← hW] at bx hb1
  have hW' := hW.symm
  have c0 := bx.at_ (k := 0) (v := .iface i p) rfl
  have HI := Lib.hid ih
  have HR := Lib.hid hr
  clear ih hr hW
  go_enter Tryd.func62, Tryd.ntmps62
  go_wp2_with fail
  refine (HI.out _ ((HR.out.below hb1).more hb1.size)).mono ?_
  rintro e w2 ⟨rfl, hb2⟩
  go_wp2_with fail
  go_ret
  exact ⟨rfl, hb1.trans (hb2.mono hb1.size)⟩
theorem Bx.three {w w' : World} {g : Nat} {t : TypeId} {a b c : Value} (h : Bx w g t #[a, b, c]) (hb : Below w.heap.size w w') : Below w.heap.size w w' ∧ w'.cell? ⟨g, 0, none⟩ = some a ∧ w'.cell? ⟨g, 1, none⟩ = some b ∧ w'.cell? ⟨g, 2, none⟩ = some c :=
  ⟨hb, (h.new hb).at_ rfl, (h.new hb).at_ rfl, (h.new hb).at_ rfl⟩
set_option maxHeartbeats 2000000 in
theorem jtVal_any {w : World} {op : Int} {t u : Tr} (hr : Rd w w.heap.size A (bls L)) (ih : ∀ w, Rd w w.heap.size A (bls L) → Calls Tryd.prog (trF t) #[trP t, .slice A n c] w (Tells (trV L t) w)) (ih' : ∀ w, Rd w w.heap.size A (bls L) → Calls Tryd.prog (trF u) #[trP u, .slice A n c] w (Tells (trV L u) w)) :
    Calls Tryd.prog 64 #[.agg #[.int .i64 op, encT t, encT u], .slice A n c] w (Tells (opB op (trV L t) (trV L u)) w) := by
  have hm := meth_val t
  have hc := call_val t
  have hm' := meth_val u
  have hc' := call_val u
  rw [encT_eq, encT_eq]
  generalize trI t = i at hm ⊢
  generalize trP t = p at hm hc ih ⊢
  generalize trF t = f at hm hc ih ⊢
  generalize trV L t = b at ih ⊢
  generalize trI u = i' at hm' ⊢
  generalize trP u = p' at hm' hc' ih' ⊢
  generalize trF u = f' at hm' hc' ih' ⊢
  generalize trV L u = b' at ih' ⊢
  have bx := Bx.made w 80 #[.int .i64 op, .iface i p, .iface i' p']
  have hb1 := alloc_new w (Obj.cells #[.int .i64 op, .iface i p, .iface i' p'] 80)
  obtain ⟨W1, hW⟩ : ∃ v : World, v = w.alloc (Obj.cells #[.int .i64 op, .iface i p, .iface i' p'] 80) := ⟨_, rfl⟩
  rw [← hW] at bx hb1
  have hW' := hW.symm
  have KE := fun (w' : World) (k : Below W1.heap.size W1 w') => bx.three k
  obtain ⟨_, c0, c1, c2⟩ := bx.three (Below.refl _ _)
  have HI := Lib.hid ih
  have HI' := Lib.hid ih'
  have HR := Lib.hid ((hr.below hb1).more hb1.size)
  clear ih ih' hr hW
  go_enter Tryd.func64, Tryd.ntmps64
  go_wp2_with fail
  go_region_held3 (fun w' => Below W1.heap.size W1 w' ∧ w'.cell? ⟨w.heap.size, 0, none⟩ = some (.int .i64 op) ∧ w'.cell? ⟨w.heap.size, 1, none⟩ = some (.iface i p) ∧ w'.cell? ⟨w.heap.size, 2, none⟩ = some (.iface i' p')) (first | assumption | with_reducible exact KE _ (Below.refl _ _) | with_reducible exact KE _ (Below.refl _ _).drew | with_reducible exact KE _ k9 | with_reducible exact KE _ (Below.drew k9))
    (first
    | ((with_reducible refine (HI.out _ ((HR.out.below (‹Below W1.heap.size W1 _ ∧ _›).1).more (‹Below W1.heap.size W1 _ ∧ _›).1.size)).mono ?_); rintro e u9 ⟨rfl, hb9⟩; have k9 := trans_new (‹Below W1.heap.size W1 _ ∧ _›).1 hb9)
    | ((with_reducible refine (HI'.out _ ((HR.out.below (‹Below W1.heap.size W1 _ ∧ _›).1).more (‹Below W1.heap.size W1 _ ∧ _›).1.size)).mono ?_); rintro e u9 ⟨rfl, hb9⟩; have k9 := trans_new (‹Below W1.heap.size W1 _ ∧ _›).1 hb9))
  have hbe := hb1.trans (k9.mono hb1.size)
  obtain ⟨_, d0, d1, d2⟩ := KE _ k9
  clear hb9
  by_cases h1 : op = -2
  · subst h1
    clear hm hc hm' hc' KE
    cases b <;> cases b' <;> (go_wp2_with fail; go_ret; exact ⟨rfl, hbe⟩)
  · have h1' : (op == -2) = false := by simpa using h1
    by_cases h2 : op = -3
    · subst h2
      clear hm hc hm' hc' KE h1
      cases b <;> cases b' <;> (go_wp2_with fail; go_ret; exact ⟨rfl, hbe⟩)
    · have h2' : (op == -3) = false := by simpa using h2
      have HO := Lib.hid (opB_then h1 h2 b b')
      clear hm hc hm' hc' KE h1 h2
      cases b <;> cases b' <;> (go_wp2_with fail; go_ret; exact ⟨by rw [HO.out]; rfl, hbe⟩)
/-- The letters of a tree are letters. -/
def trOk : Tr → Prop
  | .lt k => 0 ≤ k ∧ k ≤ 5
  | .nt t => trOk t
  | .jt _ a b => trOk a ∧ trOk b
theorem trVal_any (hl : Hid (L.length = n)) : ∀ (t : Tr), trOk t → ∀ w, Rd w w.heap.size A (bls L) → Calls Tryd.prog (trF t) #[trP t, .slice A n c] w (Tells (trV L t) w)
  | .lt k, ho, w, hr => ltVal_any hl ho.1 (by have := ho.2; omega) hr
  | .nt t, ho, w, hr => ntVal_any hr (trVal_any hl t ho)
  | .jt op a b, ho, w, hr => jtVal_any hr (trVal_any hl a ho.1) (trVal_any hl b ho.2)
end
theorem trOk_getLastD {p : List Tr} (h : ∀ t ∈ p, trOk t) : trOk (p.getLastD default) := by
  cases p with
  | nil => exact ⟨by decide, by decide⟩
  | cons x p => exact h _ (by rw [List.getLastD_eq_getLast?]; have : (x :: p).getLast? = some ((x :: p).getLast (by simp)) := List.getLast?_eq_some_getLast _; rw [this]; exact List.getLast_mem _)
theorem stR_ok {p : List Tr} {x : Int} {o : Option Nat} {m : Nat} (h : ∀ t ∈ p, trOk t) (hs : stF o x = some m) : ∀ t ∈ stR p x, trOk t := by
  obtain ⟨n, _, hc⟩ := stF_some hs
  unfold stR
  intro t ht
  have hd : ∀ t ∈ p.dropLast, trOk t := fun t ht => h t (List.dropLast_subset _ ht)
  have hdd : ∀ t ∈ p.dropLast.dropLast, trOk t := fun t ht => hd t (List.dropLast_subset _ ht)
  rcases hc with ⟨h1, h2, _⟩ | ⟨rfl, _, _⟩ | ⟨h1, h2, _, _⟩
  · rw [if_pos h1] at ht
    rcases List.mem_append.1 ht with ht | ht
    · exact h t ht
    · rw [List.mem_singleton.1 ht]; exact ⟨h1, h2⟩
  · rw [if_neg (by decide), if_pos rfl] at ht
    rcases List.mem_append.1 ht with ht | ht
    · exact hd t ht
    · rw [List.mem_singleton.1 ht]; exact trOk_getLastD h
  · rw [if_neg (by omega), if_neg (by omega)] at ht
    rcases List.mem_append.1 ht with ht | ht
    · exact hdd t ht
    · rw [List.mem_singleton.1 ht]; exact ⟨trOk_getLastD hd, trOk_getLastD h⟩
theorem pileR_ok {f : List Int} : ∀ {k n : Nat}, cntF (f.take k) = some n → k ≤ f.length → ∀ t ∈ pileR (f.take k), trOk t
  | 0, _, _, _ => by simp [pileR]
  | k + 1, n, h, hk => by
    have e := take_next (f := f) (k := k) (by omega)
    rw [e] at h ⊢
    obtain ⟨m, hm⟩ := cnt_some_pre h
    rw [cntF_snoc] at h
    rw [pileR_snoc]
    exact stR_ok (pileR_ok hm (by omega)) h
end Go.Proofs.YtignchefkihdaaaDoor
