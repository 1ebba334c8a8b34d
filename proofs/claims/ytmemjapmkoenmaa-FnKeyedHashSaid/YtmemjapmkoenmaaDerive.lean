/- Contracts of DeriveFromString and its model. Condition: the string has at most 2^30 bytes. -/
import Derived.Test.YtmemjapmkoenmaaHashC
import Derived.Lib.ConvBytes
namespace Go.Proofs.Ytmemjapmkoenmaa
open Go.ChangeShapes Go.WideShapes Go.ChangeAt Go.RowKit
def bsl (s : ByteArray) : List Int := s.data.toList.map fun b => (b.toNat : Int)
theorem bsl_len (s : ByteArray) : (bsl s).length = s.size := by simp [bsl]
theorem bsl_byte (s : ByteArray) : ∀ x ∈ bsl s, 0 ≤ x ∧ x ≤ 255 := by
  intro x hx
  obtain ⟨b, _, rfl⟩ := List.mem_map.1 hx
  have := b.toNat_lt
  omega
theorem bytesW_below (w : World) (e : TypeId) (s : ByteArray) : Below w.heap.size w (Lib.bytesWorld w e s) :=
  ⟨rfl, rfl, rfl, by rw [Lib.bytesWorld_size]; omega, fun k hk => Lib.bytesWorld_at_old w e s k hk⟩
theorem bytesW_rd (w : World) (e : TypeId) (s : ByteArray) : Rd (Lib.bytesWorld w e s) (w.heap.size + 1) (some ⟨w.heap.size, 0, none⟩) (bvs (bsl s)) := fun j u hu => by
  have hj : j < (bsl s).length := by
    rcases Nat.lt_or_ge j (bsl s).length with h | h
    · exact h
    · rw [List.getElem?_eq_none (by rw [bvs_len]; exact h)] at hu; cases hu
  have hs : j < s.size := by rw [← bsl_len]; exact hj
  refine ⟨_, rfl, by simp, ?_⟩
  have e1 : (⟨w.heap.size, 0, none⟩ : Addr).add j = ⟨w.heap.size, j, none⟩ := by unfold Addr.add; split <;> simp_all
  rw [e1, Lib.bytesWorld_cell w e s j hs]
  rw [bvs_get _ _ hj] at hu
  injection hu with hu
  rw [← hu]
  have hl : j < s.data.size := by simpa using hs
  simp [bsl, List.getD]
  rw [Array.getElem?_eq_getElem hl]
  rfl
def derH (q : Int) (s : ByteArray) : Int := hsh (q :: b2i (bsl s) ++ [q])
theorem derH_range (q : Int) (s : ByteArray) : 0 ≤ derH q s ∧ derH q s ≤ 2147483646 := hsh_range _
def der (q : Int) (s : ByteArray) : Int := mx 1 (derH q s)
theorem specDerive_any {w : World} {q : Int} {s : ByteArray} (hs : s.size ≤ 1073741824) :
    Calls Try.prog 53 #[.int .i64 q, .string s] w (fun e w' => e = .returned (.int .i64 (der q s)) ∧ Below w.heap.size w w') := by
  have hconv := Lib.run_convert_string_bytes w 9 22 5 s Try.underlying9 Try.underlying22 Try.underlying5
  have hb0 := bytesW_below w 5 s
  have hr0 := (bytesW_rd w 5 s).more (show w.heap.size + 1 ≤ (Lib.bytesWorld w 5 s).heap.size by rw [Lib.bytesWorld_size]; omega)
  obtain ⟨W1, hW⟩ : ∃ u : World, u = Lib.bytesWorld w 5 s := ⟨_, rfl⟩
  rw [← hW] at hconv hb0 hr0
  clear hW
  obtain ⟨cp, hcp⟩ : ∃ c : Nat, c = grownCap w s.size 0 5 := ⟨_, rfl⟩
  rw [← hcp] at hconv
  clear hcp
  have hl : Hid ((bsl s).length = s.size) := Lib.hid (bsl_len s)
  have hlb : (b2i (bsl s)).length = s.size + 1 := by simp [b2i, bsl_len]
  have HD := Lib.hid (show hsh (q :: b2i (bsl s) ++ [q]) = derH q s from rfl)
  have HB := Lib.hid (bsl_byte s)
  go_enter Try.func53, Try.ntmps53
  go_wp2_with (first
    | (go_at_call 43; refine (specBytesToInts_any hl (by omega) hr0 HB.out).mono ?_; rintro e w2 ⟨v, rfl, hrow, hb2⟩; obtain ⟨A2, c2, rfl, hrd, _, _⟩ := hrow.rd (n := s.size + 1) (by rw [ivs_len, hlb]))
    | (go_at_call 41; refine (specKeyedHash_any (zs := b2i (bsl s)) (Lib.hid hlb) (by omega) hrd).mono ?_; rintro e w3 ⟨he, hb3⟩; rw [HD.out] at he; subst he)
    | (go_at_call 83; refine (smax_any _ _ _).mono ?_; rintro e w4 ⟨rfl, rfl⟩))
  go_ret
  exact ⟨rfl, hb0.trans ((hb2.mono hb0.size).trans (hb3.mono (Nat.le_trans hb0.size hb2.size)))⟩
theorem impDerive_any {w : World} {q : Int} {s : ByteArray} (hs : s.size ≤ 1073741824) :
    Calls Try.prog 27 #[.int .i64 q, .string s] w (fun e w' => e = .returned (.int .i64 (der q s)) ∧ Below w.heap.size w w') := by
  have hconv := Lib.run_convert_string_bytes w 9 22 5 s Try.underlying9 Try.underlying22 Try.underlying5
  have hb0 := bytesW_below w 5 s
  have hr0 := (bytesW_rd w 5 s).more (show w.heap.size + 1 ≤ (Lib.bytesWorld w 5 s).heap.size by rw [Lib.bytesWorld_size]; omega)
  obtain ⟨W1, hW⟩ : ∃ u : World, u = Lib.bytesWorld w 5 s := ⟨_, rfl⟩
  rw [← hW] at hconv hb0 hr0
  clear hW
  obtain ⟨cp, hcp⟩ : ∃ c : Nat, c = grownCap w s.size 0 5 := ⟨_, rfl⟩
  rw [← hcp] at hconv
  clear hcp
  have hl : Hid ((bsl s).length = s.size) := Lib.hid (bsl_len s)
  have hlb : (b2i (bsl s)).length = s.size + 1 := by simp [b2i, bsl_len]
  have HB := Lib.hid (bsl_byte s)
  obtain ⟨h0, _⟩ := derH_range q s
  obtain ⟨h, hh⟩ : ∃ h, h = derH q s := ⟨_, rfl⟩
  have HD := Lib.hid (show hsh (q :: b2i (bsl s) ++ [q]) = h from hh.symm)
  have HE := Lib.hid (show der q s = mx 1 h by rw [hh]; rfl)
  rw [← hh] at h0
  clear hh
  by_cases hz : h = 0
  · subst hz
    go_enter Try.func27, Try.ntmps27
    go_wp2_with (first
      | (go_at_call 45; refine (impBytesToInts_any hl (by omega) hr0 HB.out).mono ?_; rintro e w2 ⟨v, rfl, hrow, hb2⟩; obtain ⟨A2, c2, rfl, hrd, _, _⟩ := hrow.rd (n := s.size + 1) (by rw [ivs_len, hlb]))
      | (go_at_call 21; refine (impKeyedHash_any (zs := b2i (bsl s)) (Lib.hid hlb) (by omega) hrd).mono ?_; rintro e w3 ⟨he, hb3⟩; rw [HD.out] at he; subst he))
    go_ret
    exact ⟨ret_i (by rw [HE.out]; decide), hb0.trans ((hb2.mono hb0.size).trans (hb3.mono (Nat.le_trans hb0.size hb2.size)))⟩
  · have HM := Lib.hid (show mx 1 h = h by unfold mx; split <;> omega)
    have hzb : (h == 0) = false := by simpa using hz
    go_enter Try.func27, Try.ntmps27
    go_wp2_with (first
      | (go_at_call 45; refine (impBytesToInts_any hl (by omega) hr0 HB.out).mono ?_; rintro e w2 ⟨v, rfl, hrow, hb2⟩; obtain ⟨A2, c2, rfl, hrd, _, _⟩ := hrow.rd (n := s.size + 1) (by rw [ivs_len, hlb]))
      | (go_at_call 21; refine (impKeyedHash_any (zs := b2i (bsl s)) (Lib.hid hlb) (by omega) hrd).mono ?_; rintro e w3 ⟨he, hb3⟩; rw [HD.out] at he; subst he))
    go_ret
    exact ⟨ret_i (by rw [HE.out, HM.out]), hb0.trans ((hb2.mono hb0.size).trans (hb3.mono (Nat.le_trans hb0.size hb2.size)))⟩
end Go.Proofs.Ytmemjapmkoenmaa
