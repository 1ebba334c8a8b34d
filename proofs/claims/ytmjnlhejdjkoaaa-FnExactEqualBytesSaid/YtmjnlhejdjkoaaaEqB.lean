/- Contracts of EqualBytes, of bytes.Equal and of the model: whether the bytes are the same. No conditions but that each byte lies in 0 to 255. -/
import Derived.Test.YtmjnlhejdjkoaaaByteS
namespace Go.Proofs.Ytmjnlhejdjkoaaa
open Go.ChangeShapes Go.WideShapes Go.ChangeAt Go.RowKit
def str8 (zs : List Int) : ByteArray := ⟨(zs.map fun z => UInt8.ofNat z.toNat).toArray⟩
theorem map8_inj : ∀ {zs ys : List Int}, (∀ x ∈ zs, 0 ≤ x ∧ x ≤ 255) → (∀ x ∈ ys, 0 ≤ x ∧ x ≤ 255) → (zs.map fun z => UInt8.ofNat z.toNat) = (ys.map fun z => UInt8.ofNat z.toNat) → zs = ys
  | [], [], _, _, _ => rfl
  | [], _ :: _, _, _, h => by simp at h
  | _ :: _, [], _, _, h => by simp at h
  | x :: l, y :: m, h1, h2, h => by
    simp only [List.map_cons, List.cons.injEq] at h
    obtain ⟨a, b⟩ := h
    have hx := h1 x (by simp)
    have hy := h2 y (by simp)
    have e := congrArg UInt8.toNat a
    simp only [UInt8.toNat_ofNat'] at e
    rw [show x = y by omega, map8_inj (fun z hz => h1 z (List.mem_cons_of_mem _ hz)) (fun z hz => h2 z (List.mem_cons_of_mem _ hz)) b]
theorem str8_inj {zs ys : List Int} (h1 : ∀ x ∈ zs, 0 ≤ x ∧ x ≤ 255) (h2 : ∀ x ∈ ys, 0 ≤ x ∧ x ≤ 255) (h : str8 zs = str8 ys) : zs = ys := by
  unfold str8 at h
  injection h with h
  have h := congrArg Array.toList h
  exact map8_inj h1 h2 (by simpa using h)
theorem run_str8 {P : Program} {w : World} {B : Nat} {A : Option Addr} {c : Nat} {zs : List Int} {src dst e : TypeId} (hs : P.underlying src = some (.slice e)) (he : P.underlying e = some (.int .u8)) (hd : P.underlying dst = some .string)
    (hr : Rd w B A (bvs zs)) (hb : ∀ x ∈ zs, 0 ≤ x ∧ x ≤ 255) : (convert src dst (.slice A zs.length c)).run P w = .ok (.string (str8 zs)) w := by
  rcases A with _ | ad
  · have hn : zs = [] := by
      cases zs with
      | nil => rfl
      | cons u l => obtain ⟨ad, h, _⟩ := hr 0 (.int .u8 u) rfl; cases h
    subst hn
    rw [List.length_nil, run_convert_bytes_string w src dst e none 0 c hs he hd]; rfl
  · have h := run_convert_bytes_back (P := P) w src dst e ad c (zs.map fun z => UInt8.ofNat z.toNat) hs he hd (fun j hj => by
      rw [List.length_map] at hj
      obtain ⟨ad', e1, _, hc⟩ := bvs_at hr hj
      injection e1 with e1
      subst e1
      rw [hc]
      have hx := hb zs[j] (List.getElem_mem _)
      simp only [List.getElem_map, UInt8.toNat_ofNat']
      congr 2
      omega)
    rw [List.length_map] at h
    exact h
theorem str8_eq {zs ys : List Int} (h1 : ∀ x ∈ zs, 0 ≤ x ∧ x ≤ 255) (h2 : ∀ x ∈ ys, 0 ≤ x ∧ x ≤ 255) : decide (str8 zs = str8 ys) = decide (zs = ys) := by
  by_cases h : zs = ys
  · simp [h]
  · have : ¬ str8 zs = str8 ys := fun e => h (str8_inj h1 h2 e)
    simp [h, this]
theorem str_beq (s t : ByteArray) : (s.toList == t.toList) = decide (s = t) := by
  by_cases h : s = t
  · subst h; simp
  · have h2 : ¬ s.toList = t.toList := fun e => h (bytes_inj (by rwa [ByteArray.toList_eq, ByteArray.toList_eq] at e))
    simp [h, h2]
section
variable {w : World} {A A' : Option Addr} {c c' : Nat} {zs ys : List Int} (hr : Rd w w.heap.size A (bvs zs)) (hr' : Rd w w.heap.size A' (bvs ys)) (hb : ∀ x ∈ zs, 0 ≤ x ∧ x ≤ 255) (hb' : ∀ x ∈ ys, 0 ≤ x ∧ x ≤ 255)
include hr hr' hb hb'
theorem specEqualBytes_any : Calls Try.prog 39 #[.slice A zs.length c, .slice A' ys.length c'] w (fun e w' => e = .returned (.bool (decide (zs = ys))) ∧ Below w.heap.size w w') := by
  have k1 := run_str8 (P := Try.prog) (c := c) Try.underlying22 Try.underlying5 Try.underlying9 hr hb
  have k2 := run_str8 (P := Try.prog) (c := c') Try.underlying22 Try.underlying5 Try.underlying9 hr' hb'
  have H := Lib.hid (str8_eq hb hb')
  obtain ⟨s, hs⟩ : ∃ s, s = str8 zs := ⟨_, rfl⟩
  obtain ⟨t, ht⟩ : ∃ t, t = str8 ys := ⟨_, rfl⟩
  rw [← hs] at k1
  rw [← ht] at k2
  rw [← hs, ← ht] at H
  clear hs ht hr hr' hb hb'
  go_enter Try.func39, Try.ntmps39
  go_wp2
  go_ret
  exact ⟨ret_b (by rw [← H.out, str_beq]), Below.refl _ _⟩
theorem bytesEqual_any : Calls Try.prog 54 #[.slice A zs.length c, .slice A' ys.length c'] w (fun e w' => e = .returned (.bool (decide (zs = ys))) ∧ w = w') := by
  have k1 := run_str8 (P := Try.prog) (c := c) Try.underlying22 Try.underlying5 Try.underlying9 hr hb
  have k2 := run_str8 (P := Try.prog) (c := c') Try.underlying22 Try.underlying5 Try.underlying9 hr' hb'
  have H := Lib.hid (str8_eq hb hb')
  obtain ⟨s, hs⟩ : ∃ s, s = str8 zs := ⟨_, rfl⟩
  obtain ⟨t, ht⟩ : ∃ t, t = str8 ys := ⟨_, rfl⟩
  rw [← hs] at k1
  rw [← ht] at k2
  rw [← hs, ← ht] at H
  clear hs ht hr hr' hb hb'
  go_enter Try.func54, Try.ntmps54
  go_wp2
  go_ret
  exact ⟨ret_b (by rw [← H.out, str_beq]), rfl⟩
theorem impEqualBytes_any : Calls Try.prog 40 #[.slice A zs.length c, .slice A' ys.length c'] w (fun e w' => e = .returned (.bool (decide (zs = ys))) ∧ Below w.heap.size w w') := by
  have C := Lib.hid (bytesEqual_any (c := c) (c' := c') hr hr' hb hb')
  clear hr hr' hb hb'
  go_enter Try.func40, Try.ntmps40
  go_wp2_with (go_at_call 54; refine C.out.mono ?_; rintro e w1 ⟨rfl, rfl⟩)
  go_ret
  exact ⟨rfl, Below.refl _ _⟩
end
end Go.Proofs.Ytmjnlhejdjkoaaa
