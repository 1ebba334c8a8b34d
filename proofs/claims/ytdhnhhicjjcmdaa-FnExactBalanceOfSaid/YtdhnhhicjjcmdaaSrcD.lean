/- Contracts of the code's BalanceOf and IsTwisted (chapter 26). Condition: the slice has at most 2^40 elements. -/
import Derived.Test.YtdhnhhicjjcmdaaSrcC
import Derived.Test.YtdhnhhicjjcmdaaInts
namespace Go.Proofs.Ytdhnhhicjjcmdaa
open Go.ChangeShapes Go.WideShapes Go.ChangeAt Go.RowKit
set_option maxRecDepth 100000
theorem nwD {w w' : World} {p : Addr} {v : Value} (r : Below w.heap.size w w') (h : w.cell? p = some v) : w'.cell? p = some v := (r.cell (p := p) (cell_lt h)).trans h
section
variable {w : World} {A : Option Addr} {n c : Nat} {X : List Src}
set_option maxHeartbeats 2000000 in
theorem impBalanceOf_any (hl : Hid (X.length = n)) (hn : n ≤ 1099511627776) (hr : Rd w w.heap.size A (flE srcE X)) :
    Calls Try.prog 19 #[.slice A n c] w (fun e w' => e = .returned (.int .i64 (balI X)) ∧ Below w.heap.size w w') := by
  go_enter Try.func19, Try.ntmps19
  go_wp2_with fail
  refine (forestOf_any hl hn hr).mono ?_
  rintro e w1 ⟨hb, ⟨hB, rfl⟩ | ⟨hB, v, bs, rfl, hbl, hrow, hf, hinc⟩⟩
  · have HV := Lib.hid (bal_no hB)
    clear hB
    go_wp2_with fail
    go_loopw [5, 15] (fun v i wr => v = .int .i64 0 ∧ i = .int .i64 0 ∧ wr = w1) (fun _ _ _ => 0)
    case atStart => exact ⟨rfl, rfl, rfl⟩
    case round =>
      obtain ⟨rfl, rfl, rfl⟩ := hrel
      go_wp2_with fail
      go_ret
      exact ⟨ret_i HV.out.symm, hb⟩
  · have HBL := Lib.hid (show bs.length = n from hbl.trans hl.out)
    have h15 : n ≤ 15 := by have := (src_parts hB).1; have := hl.out; omega
    obtain ⟨Av, cv, rfl, hrd, _, _⟩ := hrow.rd (n := n) (by rw [pts_len]; exact HBL.out)
    have HRD := Lib.hid hrd
    have HF := Lib.hid hf
    have HV := Lib.hid (bal_ok hB)
    have HIN := Lib.hid (bal_in hB)
    have HW := Lib.hid (fun k hk => src_w hB (k := k) hk)
    have HB := Lib.hid hB
    clear hB hrow hrd hf hinc
    go_wp2_with fail
    go_loopw [5, 15] (fun v i wr => ∃ k : Nat, k ≤ n ∧ v = .int .i64 (balP X k) ∧ i = .int .i64 k ∧ wr = w1) (fun _ i _ => n - (intOf i).toNat)
    case atStart => exact ⟨0, Nat.zero_le _, rfl, rfl, rfl⟩
    case round =>
      obtain ⟨k, hk, rfl, rfl, rfl⟩ := hrel
      have HBI := HIN.out k (by rw [hl.out]; exact hk)
      by_cases hlt : k < n
      · have hkx : k < X.length := by rw [hl.out]; exact hlt
        have hkb : k < bs.length := by rw [HBL.out]; exact hlt
        obtain ⟨ad, rfl, hab, hc⟩ := pts_at HRD.out hkb
        obtain ⟨_, _, bx⟩ := HF.out k bs[k] X[k] (List.getElem?_eq_getElem hkb) (List.getElem?_eq_getElem hkx)
        obtain ⟨b0, b1, b2, b3, b4⟩ := bx.k5
        have i0 : (0 : Int) ≤ (k : Int) := by omega
        have i1 : (k : Int) < (n : Int) := by omega
        have HX := Lib.hid (HW.out k hkx)
        have HZ := Lib.hid (par_zero HB.out hkx)
        have HS := Lib.hid (show balP X (k + 1) = balP X k + (if X[k].2.1 = 0 then (if X[k].2.2.2 then X[k].2.2.1 else -X[k].2.2.1) else 0) by rw [balP, balK, getS hkx])
        have HPL := Lib.hid (fun j (h : parS X k = some j) => par_lt h)
        obtain ⟨x, hx⟩ : ∃ x, x = X[k] := ⟨_, rfl⟩
        obtain ⟨b, hbb⟩ : ∃ b, b = bs[k] := ⟨_, rfl⟩
        rw [← hx] at HX HS HZ b0 b1 b2 b3
        rw [← hbb] at hc b0 b1 b2 b3 b4
        obtain ⟨s, hs⟩ : ∃ s, s = balP X k := ⟨_, rfl⟩
        rw [← hs] at HBI HS
        rw [← hs]
        have HX' := HX.out
        clear hx hs bx hbb
        cases hp : parS X k with
        | none =>
          have hz := HZ.out.1 hp
          rw [if_pos hz] at HS
          rw [show ptrV ((parS X k).bind fun j => bs[j]?) = .pointer none by rw [hp]; rfl] at b4
          clear hz hp
          cases hf : x.2.2.2 with
          | true =>
            have HN := Lib.hid (show balP X (k + 1) = s + x.2.2.1 by rw [HS.out, hf]; rfl)
            rw [hf] at b3
            have ws := IntWalk.i64_in (s + x.2.2.1) (by omega)
            clear hf
            go_wp2_with fail
            go_roundw
            case rel => exact ⟨k + 1, by omega, by rw [HN.out], by go_num, trivial⟩
            case measure => simp [intOf]; omega
          | false =>
            have HN := Lib.hid (show balP X (k + 1) = s - x.2.2.1 by rw [HS.out, hf]; rfl)
            rw [hf] at b3
            have ws := IntWalk.i64_in (s - x.2.2.1) (by omega)
            clear hf
            go_wp2_with fail
            go_roundw
            case rel => exact ⟨k + 1, by omega, by rw [HN.out], by go_num, trivial⟩
            case measure => simp [intOf]; omega
        | some j =>
          have hz : ¬ x.2.1 = 0 := fun h => by rw [HZ.out.2 h] at hp; cases hp
          have HN := Lib.hid (show balP X (k + 1) = s by rw [HS.out, if_neg hz]; exact Int.add_zero _)
          have hjb : j < bs.length := by have := HPL.out j hp; omega
          rw [show ptrV ((parS X k).bind fun j => bs[j]?) = .pointer (some ⟨bs[j], 0, none⟩) by rw [hp]; simp [ptrV, List.getElem?_eq_getElem hjb]] at b4
          obtain ⟨q, hq⟩ : ∃ q, q = bs[j] := ⟨_, rfl⟩
          rw [← hq] at b4
          clear hz hp hq
          go_wp2_with fail
          go_roundw
          case rel => exact ⟨k + 1, by omega, by rw [HN.out], by go_num, trivial⟩
          case measure => simp [intOf]; omega
      · have e : k = n := by omega
        subst e
        have HV2 := Lib.hid (show balI X = balP X k by rw [HV.out, hl.out])
        go_wp2_with fail
        go_ret
        exact ⟨ret_i HV2.out.symm, hb⟩
end
end Go.Proofs.Ytdhnhhicjjcmdaa
