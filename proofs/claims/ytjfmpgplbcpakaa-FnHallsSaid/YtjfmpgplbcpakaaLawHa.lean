/- The law of chapter 18: nobody comes or goes by being moved. No conditions but that the code is small. -/
import Derived.Test.YtjfmpgplbcpakaaDrawHal
import Derived.Test.YtjfmpgplbcpakaaHlMath
import Derived.Test.YtjfmpgplbcpakaaHalX
import Derived.Test.YtjfmpgplbcpakaaHalC
import Derived.Test.YtjfmpgplbcpakaaHalM
import Derived.Test.YtjfmpgplbcpakaaEnc
namespace Go.Proofs.Ytjfmpgplbcpakaa
open Go.ChangeShapes Go.WideShapes Go.ChangeAt Go.RowKit
set_option maxRecDepth 100000
theorem rd_nh {W w : World} {A : Option Addr} {xs : List Value} (h : Rd W W.heap.size A xs) (b : Below W.heap.size W w) : Rd w w.heap.size A xs := (h.below b).more b.size
set_option maxHeartbeats 8000000 in
theorem hal_core {W : World} {A : Option Addr} {n c : Nat} (h : Code8 W A n) (hs : n ≤ 1048576) : Calls Try.prog 3 #[.slice A n c] W (fun e W' => e = .returned (.bool true) ∧ Below W.heap.size W W') := by
  have HC := Lib.hid h
  go_enter Try.func3, Try.ntmps3
  go_wp2_with (go_at_call 4; refine (big_no (by omega)).mono ?_; rintro e w1 ⟨rfl, rfl⟩)
  go_at_call 5
  refine (drawHall_any h).mono ?_
  rintro e w2 ⟨v, X, rfl, hrow, hx11, b2⟩
  obtain ⟨N, hN⟩ : ∃ N, X.length = N := ⟨_, rfl⟩
  obtain ⟨Av, cv, rfl, hrd, _, _⟩ := hrow.rd (n := N) hN
  have HL := Lib.hid hN
  rw [hN] at hx11
  have HR := Lib.hid hrd
  have HB2 := Lib.hid b2
  have hin := hal_in X
  obtain ⟨V, hV⟩ : ∃ V, halN X = V := ⟨_, rfl⟩
  rw [hV] at hin
  have HV := Lib.hid hV
  clear hrow hrd h hV hN b2
  cases hB : hrB X with
  | false =>
    have HBF := Lib.hid hB
    clear hB
    go_wp2_with fail
    refine (impHallWinner_any (X := X) HL (by omega) HR.out).mono ?_
    rintro e w3 ⟨rfl, k3⟩
    rw [HV.out]
    have K3 := Lib.hid k3
    clear k3
    go_wp2_with fail
    refine (impAreHearers_any (X := X) HL (by omega) (rd_nh HR.out K3.out)).mono ?_
    rintro e w4 ⟨rfl, k4⟩
    rw [HBF.out]
    have K4 := Lib.hid (K3.out.trans (k4.mono K3.out.size))
    clear k4
    go_wp2_with fail
    refine (specAreHearers_any (X := X) HL (by omega) (rd_nh HR.out K4.out)).mono ?_
    rintro e w5 ⟨rfl, k5⟩
    rw [HBF.out]
    have K5 := Lib.hid (K4.out.trans (k5.mono K4.out.size))
    clear k5
    go_wp2_with fail
    refine (impAreHearers_any (X := X) HL (by omega) (rd_nh HR.out K5.out)).mono ?_
    rintro e w6 ⟨rfl, k6⟩
    rw [HBF.out]
    have K6 := Lib.hid (K5.out.trans (k6.mono K5.out.size))
    clear k6
    go_wp2_with fail
    go_ret
    exact ⟨rfl, HB2.out.trans (K6.out.mono HB2.out.size)⟩
  | true =>
    have HBF := Lib.hid hB
    obtain ⟨hall, _⟩ := hr_all hB
    have H9 := Lib.hid (nine X hall)
    have HG := Lib.hid (gain0 X hall)
    have HS := Lib.hid (stay X hall)
    have HW1 := Lib.hid (fun h => hal_1 hB h)
    have HW2 := Lib.hid (fun h => hal_2 hB h)
    clear hB hall
    go_wp2_with fail
    refine (impHallWinner_any (X := X) HL (by omega) HR.out).mono ?_
    rintro e w3 ⟨rfl, k3⟩
    rw [HV.out]
    have K3 := Lib.hid k3
    clear k3
    go_wp2_with fail
    refine (impAreHearers_any (X := X) HL (by omega) (rd_nh HR.out K3.out)).mono ?_
    rintro e w4 ⟨rfl, k4⟩
    rw [HBF.out]
    have K4 := Lib.hid (K3.out.trans (k4.mono K3.out.size))
    clear k4
    go_wp2_with fail
    refine (specAreHearers_any (X := X) HL (by omega) (rd_nh HR.out K4.out)).mono ?_
    rintro e w5 ⟨rfl, k5⟩
    rw [HBF.out]
    have K5 := Lib.hid (K4.out.trans (k5.mono K4.out.size))
    clear k5
    go_wp2_with fail
    refine (impAreHearers_any (X := X) HL (by omega) (rd_nh HR.out K5.out)).mono ?_
    rintro e w6 ⟨rfl, k6⟩
    rw [HBF.out]
    have K6 := Lib.hid (K5.out.trans (k6.mono K5.out.size))
    clear k6
    go_wp2_with fail
    go_loopw [5, 6] (fun s i wr => ∃ a : Nat, a ≤ 3 ∧ i = .int .i64 a ∧ s = .int .i64 (allN X a : Nat) ∧ Hid (Below w2.heap.size w2 wr)) (fun _ i _ => 3 - (intOf i).toNat)
    case atStart => exact ⟨0, by omega, rfl, rfl, K6⟩
    case round =>
      obtain ⟨a, ha3, rfl, rfl, KA⟩ := hrel
      by_cases hlt : a < 3
      · have a1 : (a : Int) < 3 := by omega
        have HAL := Lib.hid (all_le X a)
        have HAS := Lib.hid (show allN X (a + 1) = allN X a + rowN X a 3 from rfl)
        obtain ⟨t0, ht0⟩ : ∃ t, allN X a = t := ⟨_, rfl⟩
        rw [ht0] at HAL HAS ⊢
        have hb0 : t0 ≤ 99 := by
          have := HAL.out
          rw [HL.out] at this
          have h2 : a * (3 * N) ≤ 2 * (3 * 11) := Nat.mul_le_mul (by omega) (by omega)
          omega
        clear ht0
        go_wp2_with fail
        go_loopw [5, 7] (fun s i wr => ∃ (b r : Nat), b ≤ 3 ∧ i = .int .i64 b ∧ Hid (rowN X a b = r) ∧ s = .int .i64 ((t0 + r : Nat) : Int) ∧ r ≤ 33 ∧ Hid (Below w2.heap.size w2 wr)) (fun _ i _ => 3 - (intOf i).toNat)
        case atStart => exact ⟨0, 0, by omega, rfl, Lib.hid rfl, rfl, by omega, KA⟩
        case round =>
          obtain ⟨b, r, hb3, rfl, hr, rfl, hr33, KB⟩ := hrel
          by_cases hlb : b < 3
          · have b1 : (b : Int) < 3 := by omega
            obtain ⟨m, hm⟩ : ∃ m, movN X a b = m := ⟨_, rfl⟩
            have hml : m ≤ 11 := by
              have := mov_le X a b
              rw [hm, HL.out] at this
              omega
            have HM := Lib.hid hm
            have HRN := Lib.hid (show rowN X a (b + 1) = r + m by rw [rowN, hr.out, hm])
            have hrm : r + m ≤ 33 := by
              have := row_le X a (b + 1)
              rw [HRN.out, HL.out] at this
              have h2 : (b + 1) * N ≤ 3 * 11 := Nat.mul_le_mul (by omega) (by omega)
              omega
            have ww := IntWalk.i64_in (((t0 + r : Nat) : Int) + (m : Int)) (by omega)
            clear hm
            go_wp2_with fail
            refine (impMoved_any (X := X) HL (by omega) (rd_nh HR.out KB.out)).mono ?_
            rintro e wm ⟨rfl, km⟩
            rw [HM.out]
            have KM := Lib.hid (KB.out.trans (km.mono KB.out.size))
            clear km
            go_wp2_with fail
            go_roundw
            case rel => exact ⟨b + 1, r + m, by omega, by go_num, HRN, by go_num, hrm, KM⟩
            case measure => simp [intOf]; omega
          · have e : b = 3 := by omega
            subst e
            have HQ := Lib.hid (show allN X (a + 1) = t0 + r by rw [HAS.out, hr.out])
            go_wp2_with fail
            go_roundw
            case rel => exact ⟨a + 1, by omega, by go_num, by rw [HQ.out], KB⟩
            case measure => simp [intOf]; omega
      · have e : a = 3 := by omega
        subst e
        rw [H9.out, HL.out]
        obtain ⟨g0, hg0⟩ : ∃ g, gaiI X 0 = g := ⟨_, rfl⟩
        obtain ⟨g1, hg1⟩ : ∃ g, gaiI X 1 = g := ⟨_, rfl⟩
        obtain ⟨g2, hg2⟩ : ∃ g, gaiI X 2 = g := ⟨_, rfl⟩
        obtain ⟨m0, hm0⟩ : ∃ m, movN X 0 0 = m := ⟨_, rfl⟩
        obtain ⟨m1, hm1⟩ : ∃ m, movN X 1 1 = m := ⟨_, rfl⟩
        obtain ⟨m2, hm2⟩ : ∃ m, movN X 2 2 = m := ⟨_, rfl⟩
        obtain ⟨uu, huu⟩ : ∃ m, unmN X = m := ⟨_, rfl⟩
        have q0 := gai_b X 0
        have q1 := gai_b X 1
        have q2 := gai_b X 2
        have r0 := mov_le X 0 0
        have r1 := mov_le X 1 1
        have r2 := mov_le X 2 2
        rw [hg0, HL.out] at q0
        rw [hg1, HL.out] at q1
        rw [hg2, HL.out] at q2
        rw [hm0, HL.out] at r0
        rw [hm1, HL.out] at r1
        rw [hm2, HL.out] at r2
        rw [hg0, hg1, hg2] at HG
        rw [hm0, hm1, hm2, huu] at HS
        rw [hg1, hg2] at HW1 HW2
        have hgs : g0 + g1 + g2 = 0 := HG.out
        have hms : (m0 : Int) + (m1 : Int) + (m2 : Int) = (uu : Int) := by have := HS.out; omega
        have e1 := IntWalk.i64_in (g0 + g1) (by omega)
        have e2 := IntWalk.i64_in (g0 + g1 + g2) (by omega)
        have e3 := IntWalk.i64_in ((m0 : Int) + (m1 : Int)) (by omega)
        have e4 := IntWalk.i64_in ((m0 : Int) + (m1 : Int) + (m2 : Int)) (by omega)
        have HE := Lib.hid (And.intro hg0 (And.intro hg1 (And.intro hg2 (And.intro hm0 (And.intro hm1 (And.intro hm2 huu))))))
        have hNN : ((N : Int) != (N : Int)) = false := by simp
        clear hg0 hg1 hg2 hm0 hm1 hm2 huu
        by_cases c1 : g2 < g1
        · have hv : V = 1 := by rw [← HV.out]; exact HW1.out c1
          have d1 : decide (g2 < g1) = true := decide_eq_true c1
          have d2 : decide (g1 < g2) = false := decide_eq_false (by omega)
          clear c1
          subst hv
          go_wp2_with fail
          refine (impGain_any (X := X) HL (by omega) (rd_nh HR.out KA.out)).mono ?_
          rintro e wc0 ⟨rfl, kc⟩
          rw [HE.out.1]
          have KC0 := Lib.hid (KA.out.trans (kc.mono KA.out.size))
          clear kc
          go_wp2_with fail
          refine (impGain_any (X := X) HL (by omega) (rd_nh HR.out KC0.out)).mono ?_
          rintro e wc1 ⟨rfl, kc⟩
          rw [HE.out.2.1]
          have KC1 := Lib.hid (KC0.out.trans (kc.mono KC0.out.size))
          clear kc
          go_wp2_with fail
          refine (impGain_any (X := X) HL (by omega) (rd_nh HR.out KC1.out)).mono ?_
          rintro e wc2 ⟨rfl, kc⟩
          rw [HE.out.2.2.1]
          have KC2 := Lib.hid (KC1.out.trans (kc.mono KC1.out.size))
          clear kc
          go_wp2_with fail
          refine (impMoved_any (X := X) HL (by omega) (rd_nh HR.out KC2.out)).mono ?_
          rintro e wc3 ⟨rfl, kc⟩
          rw [HE.out.2.2.2.1]
          have KC3 := Lib.hid (KC2.out.trans (kc.mono KC2.out.size))
          clear kc
          go_wp2_with fail
          refine (impMoved_any (X := X) HL (by omega) (rd_nh HR.out KC3.out)).mono ?_
          rintro e wc4 ⟨rfl, kc⟩
          rw [HE.out.2.2.2.2.1]
          have KC4 := Lib.hid (KC3.out.trans (kc.mono KC3.out.size))
          clear kc
          go_wp2_with fail
          refine (impMoved_any (X := X) HL (by omega) (rd_nh HR.out KC4.out)).mono ?_
          rintro e wc5 ⟨rfl, kc⟩
          rw [HE.out.2.2.2.2.2.1]
          have KC5 := Lib.hid (KC4.out.trans (kc.mono KC4.out.size))
          clear kc
          go_wp2_with fail
          refine (impUnmoved_any (X := X) HL (by omega) (rd_nh HR.out KC5.out)).mono ?_
          rintro e wc6 ⟨rfl, kc⟩
          rw [HE.out.2.2.2.2.2.2]
          have KC6 := Lib.hid (KC5.out.trans (kc.mono KC5.out.size))
          clear kc
          go_wp2_with fail
          refine (impGain_any (X := X) HL (by omega) (rd_nh HR.out KC6.out)).mono ?_
          rintro e wc7 ⟨rfl, kc⟩
          rw [HE.out.2.1]
          have KC7 := Lib.hid (KC6.out.trans (kc.mono KC6.out.size))
          clear kc
          go_wp2_with fail
          refine (impGain_any (X := X) HL (by omega) (rd_nh HR.out KC7.out)).mono ?_
          rintro e wc8 ⟨rfl, kc⟩
          rw [HE.out.2.2.1]
          have KC8 := Lib.hid (KC7.out.trans (kc.mono KC7.out.size))
          clear kc
          go_wp2_with fail
          refine (impGain_any (X := X) HL (by omega) (rd_nh HR.out KC8.out)).mono ?_
          rintro e wc9 ⟨rfl, kc⟩
          rw [HE.out.2.2.1]
          have KC9 := Lib.hid (KC8.out.trans (kc.mono KC8.out.size))
          clear kc
          go_wp2_with fail
          refine (impGain_any (X := X) HL (by omega) (rd_nh HR.out KC9.out)).mono ?_
          rintro e wc10 ⟨rfl, kc⟩
          rw [HE.out.2.1]
          have KC10 := Lib.hid (KC9.out.trans (kc.mono KC9.out.size))
          clear kc
          go_wp2_with fail
          go_ret
          exact ⟨rfl, HB2.out.trans (KC10.out.mono HB2.out.size)⟩
        · by_cases c2 : g1 < g2
          · have hv : V = 2 := by rw [← HV.out]; exact HW2.out c2
            have d1 : decide (g2 < g1) = false := decide_eq_false (by omega)
            have d2 : decide (g1 < g2) = true := decide_eq_true c2
            clear c1 c2
            subst hv
            go_wp2_with fail
            refine (impGain_any (X := X) HL (by omega) (rd_nh HR.out KA.out)).mono ?_
            rintro e wc0 ⟨rfl, kc⟩
            rw [HE.out.1]
            have KC0 := Lib.hid (KA.out.trans (kc.mono KA.out.size))
            clear kc
            go_wp2_with fail
            refine (impGain_any (X := X) HL (by omega) (rd_nh HR.out KC0.out)).mono ?_
            rintro e wc1 ⟨rfl, kc⟩
            rw [HE.out.2.1]
            have KC1 := Lib.hid (KC0.out.trans (kc.mono KC0.out.size))
            clear kc
            go_wp2_with fail
            refine (impGain_any (X := X) HL (by omega) (rd_nh HR.out KC1.out)).mono ?_
            rintro e wc2 ⟨rfl, kc⟩
            rw [HE.out.2.2.1]
            have KC2 := Lib.hid (KC1.out.trans (kc.mono KC1.out.size))
            clear kc
            go_wp2_with fail
            refine (impMoved_any (X := X) HL (by omega) (rd_nh HR.out KC2.out)).mono ?_
            rintro e wc3 ⟨rfl, kc⟩
            rw [HE.out.2.2.2.1]
            have KC3 := Lib.hid (KC2.out.trans (kc.mono KC2.out.size))
            clear kc
            go_wp2_with fail
            refine (impMoved_any (X := X) HL (by omega) (rd_nh HR.out KC3.out)).mono ?_
            rintro e wc4 ⟨rfl, kc⟩
            rw [HE.out.2.2.2.2.1]
            have KC4 := Lib.hid (KC3.out.trans (kc.mono KC3.out.size))
            clear kc
            go_wp2_with fail
            refine (impMoved_any (X := X) HL (by omega) (rd_nh HR.out KC4.out)).mono ?_
            rintro e wc5 ⟨rfl, kc⟩
            rw [HE.out.2.2.2.2.2.1]
            have KC5 := Lib.hid (KC4.out.trans (kc.mono KC4.out.size))
            clear kc
            go_wp2_with fail
            refine (impUnmoved_any (X := X) HL (by omega) (rd_nh HR.out KC5.out)).mono ?_
            rintro e wc6 ⟨rfl, kc⟩
            rw [HE.out.2.2.2.2.2.2]
            have KC6 := Lib.hid (KC5.out.trans (kc.mono KC5.out.size))
            clear kc
            go_wp2_with fail
            refine (impGain_any (X := X) HL (by omega) (rd_nh HR.out KC6.out)).mono ?_
            rintro e wc7 ⟨rfl, kc⟩
            rw [HE.out.2.1]
            have KC7 := Lib.hid (KC6.out.trans (kc.mono KC6.out.size))
            clear kc
            go_wp2_with fail
            refine (impGain_any (X := X) HL (by omega) (rd_nh HR.out KC7.out)).mono ?_
            rintro e wc8 ⟨rfl, kc⟩
            rw [HE.out.2.2.1]
            have KC8 := Lib.hid (KC7.out.trans (kc.mono KC7.out.size))
            clear kc
            go_wp2_with fail
            refine (impGain_any (X := X) HL (by omega) (rd_nh HR.out KC8.out)).mono ?_
            rintro e wc9 ⟨rfl, kc⟩
            rw [HE.out.2.2.1]
            have KC9 := Lib.hid (KC8.out.trans (kc.mono KC8.out.size))
            clear kc
            go_wp2_with fail
            refine (impGain_any (X := X) HL (by omega) (rd_nh HR.out KC9.out)).mono ?_
            rintro e wc10 ⟨rfl, kc⟩
            rw [HE.out.2.1]
            have KC10 := Lib.hid (KC9.out.trans (kc.mono KC9.out.size))
            clear kc
            go_wp2_with fail
            go_ret
            exact ⟨rfl, HB2.out.trans (KC10.out.mono HB2.out.size)⟩
          · have d1 : decide (g2 < g1) = false := decide_eq_false (by omega)
            have d2 : decide (g1 < g2) = false := decide_eq_false (by omega)
            have v0 : decide (0 ≤ V) = true := decide_eq_true (by omega)
            have v2 : decide (V ≤ 2) = true := decide_eq_true (by omega)
            clear c1 c2
            go_wp2_with fail
            refine (impGain_any (X := X) HL (by omega) (rd_nh HR.out KA.out)).mono ?_
            rintro e wc0 ⟨rfl, kc⟩
            rw [HE.out.1]
            have KC0 := Lib.hid (KA.out.trans (kc.mono KA.out.size))
            clear kc
            go_wp2_with fail
            refine (impGain_any (X := X) HL (by omega) (rd_nh HR.out KC0.out)).mono ?_
            rintro e wc1 ⟨rfl, kc⟩
            rw [HE.out.2.1]
            have KC1 := Lib.hid (KC0.out.trans (kc.mono KC0.out.size))
            clear kc
            go_wp2_with fail
            refine (impGain_any (X := X) HL (by omega) (rd_nh HR.out KC1.out)).mono ?_
            rintro e wc2 ⟨rfl, kc⟩
            rw [HE.out.2.2.1]
            have KC2 := Lib.hid (KC1.out.trans (kc.mono KC1.out.size))
            clear kc
            go_wp2_with fail
            refine (impMoved_any (X := X) HL (by omega) (rd_nh HR.out KC2.out)).mono ?_
            rintro e wc3 ⟨rfl, kc⟩
            rw [HE.out.2.2.2.1]
            have KC3 := Lib.hid (KC2.out.trans (kc.mono KC2.out.size))
            clear kc
            go_wp2_with fail
            refine (impMoved_any (X := X) HL (by omega) (rd_nh HR.out KC3.out)).mono ?_
            rintro e wc4 ⟨rfl, kc⟩
            rw [HE.out.2.2.2.2.1]
            have KC4 := Lib.hid (KC3.out.trans (kc.mono KC3.out.size))
            clear kc
            go_wp2_with fail
            refine (impMoved_any (X := X) HL (by omega) (rd_nh HR.out KC4.out)).mono ?_
            rintro e wc5 ⟨rfl, kc⟩
            rw [HE.out.2.2.2.2.2.1]
            have KC5 := Lib.hid (KC4.out.trans (kc.mono KC4.out.size))
            clear kc
            go_wp2_with fail
            refine (impUnmoved_any (X := X) HL (by omega) (rd_nh HR.out KC5.out)).mono ?_
            rintro e wc6 ⟨rfl, kc⟩
            rw [HE.out.2.2.2.2.2.2]
            have KC6 := Lib.hid (KC5.out.trans (kc.mono KC5.out.size))
            clear kc
            go_wp2_with fail
            refine (impGain_any (X := X) HL (by omega) (rd_nh HR.out KC6.out)).mono ?_
            rintro e wc7 ⟨rfl, kc⟩
            rw [HE.out.2.1]
            have KC7 := Lib.hid (KC6.out.trans (kc.mono KC6.out.size))
            clear kc
            go_wp2_with fail
            refine (impGain_any (X := X) HL (by omega) (rd_nh HR.out KC7.out)).mono ?_
            rintro e wc8 ⟨rfl, kc⟩
            rw [HE.out.2.2.1]
            have KC8 := Lib.hid (KC7.out.trans (kc.mono KC7.out.size))
            clear kc
            go_wp2_with fail
            refine (impGain_any (X := X) HL (by omega) (rd_nh HR.out KC8.out)).mono ?_
            rintro e wc9 ⟨rfl, kc⟩
            rw [HE.out.2.2.1]
            have KC9 := Lib.hid (KC8.out.trans (kc.mono KC8.out.size))
            clear kc
            go_wp2_with fail
            refine (impGain_any (X := X) HL (by omega) (rd_nh HR.out KC9.out)).mono ?_
            rintro e wc10 ⟨rfl, kc⟩
            rw [HE.out.2.1]
            have KC10 := Lib.hid (KC9.out.trans (kc.mono KC9.out.size))
            clear kc
            go_wp2_with fail
            go_ret
            exact ⟨rfl, HB2.out.trans (KC10.out.mono HB2.out.size)⟩
end Go.Proofs.Ytjfmpgplbcpakaa
