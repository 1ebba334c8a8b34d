/- The law of chapter 5: who is free and attacks all others is admissible, and greater sets defend more. Condition: the library's variable errors.errorType reads as the program's text lays it. -/
import Derived.Test.YteoaogjoapblhaaDoorHold
import Derived.Test.YteoaogjoapblhaaDoorDefC
import Derived.Deep.RegionHeld3
import Derived.Deep.DeepCutAuto
import Derived.Deep.QuietTactic
import Derived.BigQuiet
namespace Go.Proofs.YteoaogjoapblhaaDoor
open Go.ChangeShapes Go.WideShapes Go.ChangeAt Go.RowKit
set_option maxRecDepth 100000
section
variable {W : World} {g : Nat} {N : Int} {A As : Option Addr} {c cs : Nat} {X : List (List Int)} {S : List Int} {w : World} (h : FH W g N A As X.length c S.length cs X S w) (hX : Hid (X.length ≤ 10)) (hS : Hid (S.length ≤ 13)) {b : Bool}
include h hX hS
theorem FH.adm (hb : Hid (admB N X S = b)) : Calls Tryd.prog 6 #[.agg #[.int .i64 N, .slice A X.length c], .slice As S.length cs] w (Tells b w) := by
  rw [← hb.out]
  exact impIsAdmissible_any (Lib.hid rfl) (by have := hX.out; omega) h.gr (Lib.hid rfl) (by have := hS.out; omega) h.se
theorem FH.sadm (hb : Hid (admB N X S = b)) : Calls Tryd.prog 7 #[.agg #[.int .i64 N, .slice A X.length c], .slice As S.length cs] w (Tells b w) := by
  rw [← hb.out]
  exact specIsAdmissible_any (Lib.hid rfl) (by have := hX.out; omega) h.gr (Lib.hid rfl) (by have := hS.out; omega) h.se
theorem FH.stab (hb : Hid (stabB N X S = b)) : Calls Tryd.prog 8 #[.agg #[.int .i64 N, .slice A X.length c], .slice As S.length cs] w (Tells b w) := by
  rw [← hb.out]
  exact impIsStable_any (Lib.hid rfl) (by have := hX.out; omega) h.gr (Lib.hid rfl) (by have := hS.out; omega) h.se
theorem FH.set (hE : W.cell? ⟨0, 0, none⟩ = some asE) (hb : Hid (setB N X S = b)) : Calls Tryd.prog 10 #[.agg #[.int .i64 N, .slice A X.length c], .slice As S.length cs] w (Tells b w) := by
  rw [← hb.out]
  exact impIsSet_any (asE_new hE h.hb) (Lib.hid rfl) (by have := hX.out; omega) h.gr (Lib.hid rfl) (by have := hS.out; omega) h.se
theorem FH.defs (hE : W.cell? ⟨0, 0, none⟩ = some asE) {a : Int} (hb : Hid (defB N X S a = b)) : Calls Tryd.prog 15 #[.agg #[.int .i64 N, .slice A X.length c], .slice As S.length cs, .int .i64 a] w (Tells b w) := by
  rw [← hb.out]
  exact impDefends_any (asE_new hE h.hb) (Lib.hid rfl) (by have := hX.out; omega) h.gr (Lib.hid rfl) (by have := hS.out; omega) h.se
theorem FH.def (hE : W.cell? ⟨0, 0, none⟩ = some asE) : Calls Tryd.prog 11 #[.agg #[.int .i64 N, .slice A X.length c], .slice As S.length cs] w (Fresh 3 (ivs (defL N X S)) w) :=
  impDefendedBy_any (asE_new hE h.hb) (Lib.hid rfl) (by have := hX.out; omega) h.gr (Lib.hid rfl) (by have := hS.out; omega) h.se
end
def FD (W : World) (g : Nat) (N : Int) (A As Ad : Option Addr) (n c m cs : Nat) (X : List (List Int)) (S D : List Int) (w : World) : Prop := FH W g N A As n c m cs X S w ∧ Rd w w.heap.size Ad (ivs D)
theorem FD.new {W : World} {g : Nat} {N : Int} {A As Ad : Option Addr} {n c m cs : Nat} {X : List (List Int)} {S D : List Int} {w w' : World} (h : FD W g N A As Ad n c m cs X S D w) (r : Below w.heap.size w w') : FD W g N A As Ad n c m cs X S D w' := ⟨h.1.new r, rd_new h.2 r⟩
theorem FD.drew {W : World} {g : Nat} {N : Int} {A As Ad : Option Addr} {n c m cs : Nat} {X : List (List Int)} {S D : List Int} {w : World} (h : FD W g N A As Ad n c m cs X S D w) : FD W g N A As Ad n c m cs X S D w.drew := h.new ((Below.refl _ _).drew)
theorem tail_less {N : Int} {X : List (List Int)} {S : List Int} (h : setB N X S = true) : ((defL N X S.tail).all fun z => (defL N X S).contains z) = true := defL_less h fun _ hz => List.mem_of_mem_tail hz
theorem defL_len40 (N : Int) (X : List (List Int)) (S : List Int) : (defL N X S).length ≤ 1099511627776 := by
  have := defL_len10 N X S
  omega
/-- The call on what lies behind the first number. -/
theorem FD.tailD {W : World} {g : Nat} {N : Int} {A Ad : Option Addr} {ad1 : Addr} {c cs : Nat} {X : List (List Int)} {S D : List Int} {w : World} (h : FD W g N A (some ad1) Ad X.length c S.length cs X S D w) (hX : Hid (X.length ≤ 10)) (hS : Hid (S.length ≤ 13)) (hcs : S.length ≤ cs) (hE : W.cell? ⟨0, 0, none⟩ = some asE) {q : Option Addr} (hq : (if cs = 1 then some ad1 else some { block := ad1.block, off := ad1.off + 1 }) = q) :
    Calls Tryd.prog 11 #[.agg #[.int .i64 N, .slice A X.length c], .slice q (S.length - 1) (cs - 1)] w (Fresh 3 (ivs (defL N X S.tail)) w) := by
  have hl : S.tail.length = S.length - 1 := List.length_tail
  have hc : Rd w w.heap.size q (ivs S.tail) := by
    rw [← hq]
    by_cases h1 : cs = 1
    · have : S.tail = [] := List.eq_nil_of_length_eq_zero (by omega)
      rw [this]
      exact Rd.nil
    · rw [if_neg h1]
      have hc := h.1.se.cut 1 S.tail.length
      have he : (((ivs S).drop 1).take S.tail.length) = ivs S.tail := by
        cases S with
        | nil => rfl
        | cons s T => exact List.take_of_length_le (l := ivs T) (by simp [ivs])
      rw [he] at hc
      exact hc
  exact impDefendedBy_any (asE_new hE h.1.hb) (Lib.hid rfl) (by have := hX.out; omega) h.1.gr (Lib.hid hl) (by have := hS.out; omega) hc
/-- The five ways of a list. -/
theorem five (N : Int) (X : List (List Int)) (S : List Int) : (Hid (stabB N X S = true) ∧ Hid (admB N X S = true) ∧ Hid (freeB N X S = true) ∧ Hid (setB N X S = true)) ∨ (Hid (stabB N X S = false) ∧ Hid (admB N X S = true) ∧ Hid (freeB N X S = true) ∧ Hid (setB N X S = true)) ∨ (Hid (stabB N X S = false) ∧ Hid (admB N X S = false) ∧ Hid (freeB N X S = true) ∧ Hid (setB N X S = true)) ∨ (Hid (stabB N X S = false) ∧ Hid (admB N X S = false) ∧ Hid (freeB N X S = false) ∧ Hid (setB N X S = true)) ∨ (Hid (stabB N X S = false) ∧ Hid (admB N X S = false) ∧ Hid (freeB N X S = false) ∧ Hid (setB N X S = false)) := by
  have k1 : stabB N X S = true → admB N X S = true := stab_adm
  have k2 : admB N X S = true → freeB N X S = true := adm_free
  have k3 : freeB N X S = true → setB N X S = true := free_set
  cases h1 : stabB N X S with
  | true => exact .inl ⟨Lib.hid rfl, Lib.hid (k1 h1), Lib.hid (k2 (k1 h1)), Lib.hid (k3 (k2 (k1 h1)))⟩
  | false =>
    cases h2 : admB N X S with
    | true => exact .inr (.inl ⟨Lib.hid rfl, Lib.hid rfl, Lib.hid (k2 h2), Lib.hid (k3 (k2 h2))⟩)
    | false =>
      cases h3 : freeB N X S with
      | true => exact .inr (.inr (.inl ⟨Lib.hid rfl, Lib.hid rfl, Lib.hid rfl, Lib.hid (k3 h3)⟩))
      | false =>
        cases h4 : setB N X S with
        | true => exact .inr (.inr (.inr (.inl ⟨Lib.hid rfl, Lib.hid rfl, Lib.hid rfl, Lib.hid rfl⟩)))
        | false => exact .inr (.inr (.inr (.inr ⟨Lib.hid rfl, Lib.hid rfl, Lib.hid rfl, Lib.hid rfl⟩)))
set_option maxHeartbeats 16000000 in
theorem free_core {W : World} {A : Option Addr} {n c : Nat} (h8 : Code8 W A n) (hn : n ≤ 1048576) (hE : W.cell? ⟨0, 0, none⟩ = some asE) :
    Calls Tryd.prog 3 #[.slice A n c] W (fun e W' => e = .returned (.bool true) ∧ Below W.heap.size W W') := by
  have HE := Lib.hid hE
  clear hE
  go_enter Tryd.func3, Tryd.ntmps3
  go_wp2_with fail
  refine (big_no hn).mono ?_
  rintro e w1 ⟨rfl, rfl⟩
  go_wp2_with fail
  refine (drawStable h8).mono ?_
  rintro e w1 ⟨N, X, v, S, us, M, hok, hsl, rfl, hM1, hM2, hown, hrow, hb1⟩
  obtain ⟨Av, cv, rfl, _, _, _⟩ := hown.rd (n := X.length) rfl
  obtain ⟨As, cs, rfl, hrd, hcs, hcm⟩ := hrow.rd (n := S.length) (ivs_len _)
  have k2 : Below w1.heap.size w1 (w1.alloc (Obj.cells #[Value.int .i64 N, .slice Av X.length cv] 26)) := (Below.refl _ _).alloc (Nat.le_refl _) _
  have hf : FH W w1.heap.size N Av As X.length cv S.length cs X S _ := ⟨Bx.made w1 26 #[Value.int .i64 N, .slice Av X.length cv], rdSS_new (hown.wide (Nat.le_refl _) hM2).rd' k2, rd_new hrd k2, hb1.trans (k2.mono hb1.size)⟩
  have hX := Lib.hid hok.1
  have hS := Lib.hid hsl
  obtain ⟨w2, hw2⟩ : ∃ z : World, z = w1.alloc (Obj.cells #[Value.int .i64 N, .slice Av X.length cv] 26) := ⟨_, rfl⟩
  rw [← hw2] at hf
  have HW2 := Lib.hid hw2.symm
  obtain ⟨g, hg⟩ : ∃ g, g = w1.heap.size := ⟨_, rfl⟩
  rw [← hg] at hf
  have HG := Lib.hid hg.symm
  obtain ⟨D0, D1⟩ := hf.bx.two
  clear hw2 k2 hown hrow hb1 hok hsl hrd hM1 hM2 hg
  obtain ⟨bA, hA⟩ : ∃ b, admB N X S = b := ⟨_, rfl⟩
  have HA := Lib.hid hA
  have H4S := Lib.hid (defL_len10 N X S)
  clear hA
  go_wp2_with fail
  rw [HW2.out, HG.out]
  clear HW2 HG
  go_region_held3 (fun w' => w'.cell? ⟨g, 0, none⟩ = some (.int .i64 N) ∧ w'.cell? ⟨g, 1, none⟩ = some (.slice Av X.length cv) ∧ FH W g N Av As X.length cv S.length cs X S w') (refine ⟨?_, ?_, ?_⟩ <;> first | assumption | exact D0 | exact D1 | exact hf.drew | exact c1 | exact c2 | exact hg1)
    (first
      | (go_at_call 6; refine (FH.adm (‹_ ∧ _ ∧ FH _ _ _ _ _ _ _ _ _ _ _ _›).2.2 hX hS HA).mono ?_; rintro e u1 ⟨rfl, r⟩; have hg1 := (‹_ ∧ _ ∧ FH _ _ _ _ _ _ _ _ _ _ _ _›).2.2.new r; obtain ⟨c1, c2⟩ := hg1.bx.two)
      | (go_at_call 7; refine (FH.sadm (‹_ ∧ _ ∧ FH _ _ _ _ _ _ _ _ _ _ _ _›).2.2 hX hS HA).mono ?_; rintro e u2 ⟨rfl, r⟩; have hg2 := hg1.new r; obtain ⟨c3, c4⟩ := hg2.bx.two))
  replace hf := hg2
  clear D0 D1 hg1 hg2 c1 c2 c3 c4 r
  obtain ⟨D0, D1⟩ := hf.bx.two
  go_upto_region 6 with fail
  go_cut [51] from 21 to 51 (fun c wx => c = .bool false ∧ FH W g N Av As X.length cv S.length cs X S wx)
  case first =>
    rcases five N X S with ⟨H1, H2, H3, H4⟩ | ⟨H1, H2, H3, H4⟩ | ⟨H1, H2, H3, H4⟩ | ⟨H1, H2, H3, H4⟩ | ⟨H1, H2, H3, H4⟩
    all_goals
      go_wp2_with (first
        | (go_at_call 8; refine (FH.stab hf hX hS H1).mono ?_; rintro e u3 ⟨rfl, r⟩; clear D0 D1; replace hf := hf.new r; clear r; obtain ⟨D0, D1⟩ := hf.bx.two)
        | (go_at_call 6; refine (FH.adm hf hX hS H2).mono ?_; rintro e u3 ⟨rfl, r⟩; clear D0 D1; replace hf := hf.new r; clear r; obtain ⟨D0, D1⟩ := hf.bx.two)
        | (go_at_call 9; refine (FH.free hf hX hS H3).mono ?_; rintro e u3 ⟨rfl, r⟩; clear D0 D1; replace hf := hf.new r; clear r; obtain ⟨D0, D1⟩ := hf.bx.two)
        | (go_at_call 10; refine (FH.set hf hX hS HE.out H4).mono ?_; rintro e u3 ⟨rfl, r⟩; clear D0 D1; replace hf := hf.new r; clear r; obtain ⟨D0, D1⟩ := hf.bx.two))
      go_meet
      case rel => exact ⟨rfl, hf⟩
  case rest =>
    clear D0 D1 hf
    obtain ⟨rfl, hf⟩ := hcut
    obtain ⟨D0, D1⟩ := hf.bx.two
    go_wp2_with fail
    refine (FH.def hf hX hS HE.out).mono ?_
    rintro e w4 ⟨dv, rfl, hrow, r⟩
    obtain ⟨Ad, cd, rfl, hrd, hcd, _⟩ := hrow.rd (n := (defL N X S).length) (ivs_len _)
    have hd : FD W g N Av As Ad X.length cv S.length cs X S (defL N X S) w4 := ⟨hf.new r, hrd⟩
    have HAS := Lib.hid (defL_asc N X S)
    have HDL := Lib.hid (defL_len10 N X S)
    clear D0 D1 hf r hrow hrd
    obtain ⟨D0, D1⟩ := hd.1.bx.two
    go_upto_region 9 with fail
    go_cut [68] from 55 to 68 (fun c wx => c = .bool false ∧ FD W g N Av As Ad X.length cv S.length cs X S (defL N X S) wx)
    case first =>
      cases bA
      all_goals
        go_wp2_with (first
          | (go_at_call 12; refine (ascends_any (S := defL N X S) (Lib.hid rfl) (by have := HDL.out; omega) HAS.out hd.2).mono ?_; rintro e u3 ⟨rfl, r⟩; clear D0 D1; replace hd := hd.new r; clear r; obtain ⟨D0, D1⟩ := hd.1.bx.two)
          | (go_at_call 6; refine (FH.adm hd.1 hX hS HA).mono ?_; rintro e u3 ⟨rfl, r⟩; clear D0 D1; replace hd := hd.new r; clear r; obtain ⟨D0, D1⟩ := hd.1.bx.two)
          | (go_at_call 13; refine (within_any (S := S) (T := defL N X S) (Lib.hid rfl) (by have := hS.out; omega) (Lib.hid rfl) (by have := HDL.out; omega) hd.1.se hd.2).mono ?_; rintro e u3 ⟨rfl, rfl⟩; rw [all_within (adm_within HA.out)]))
        go_meet
        case rel => exact ⟨rfl, hd⟩
    case rest =>
      clear D0 D1 hd
      obtain ⟨rfl, hd⟩ := hcut
      obtain ⟨D0, D1⟩ := hd.1.bx.two
      go_wp2_with fail
      by_cases hS0 : S.length = 0
      · obtain rfl : S = [] := List.eq_nil_of_length_eq_zero hS0
        clear hS0
        rw [show ([] : List Int).length = 0 from rfl]
        go_loopw [6] (fun i wr => ∃ k : Nat, k ≤ 10 ∧ i = .int .i64 k ∧ FD W g N Av As Ad X.length cv 0 cs X [] (defL N X []) wr) (fun i _ => 10 - (intOf i).toNat)
        case atStart => exact ⟨0, by omega, rfl, hd⟩
        case round =>
          obtain ⟨k, hk, rfl, hdr⟩ := hrel
          clear D0 D1 hd
          obtain ⟨D0, D1⟩ := hdr.1.bx.two
          by_cases hlt : (k : Int) < N ∧ setB N X [] = true
          · obtain ⟨hlt, hset⟩ := hlt
            have H4 := Lib.hid hset
            clear hset
            obtain ⟨m, rfl, hm10, _, _⟩ := gB_ok (setB_g H4.out)
            have hkm : k < m := by omega
            have HC := Lib.hid (defL_contains m X H4.out (k : Int))
            obtain ⟨b, hb⟩ : ∃ b, b = defB m X [] (k : Int) := ⟨_, rfl⟩
            rw [← hb] at HC
            have HB := Lib.hid hb.symm
            clear hb
            go_wp2_with (first
              | (go_at_call 10; refine (FH.set hdr.1 hX hS HE.out H4).mono ?_; rintro e u3 ⟨rfl, r⟩; clear D0 D1; replace hdr := hdr.new r; clear r; obtain ⟨D0, D1⟩ := hdr.1.bx.two))
            go_region_held3 (fun w' => w'.cell? ⟨g, 0, none⟩ = some (.int .i64 m) ∧ w'.cell? ⟨g, 1, none⟩ = some (.slice Av X.length cv) ∧ FD W g m Av As Ad X.length cv 0 cs X [] (defL m X []) w') (refine ⟨?_, ?_, ?_⟩ <;> first | assumption | exact D0 | exact D1 | exact hdr.drew | exact c1 | exact c2 | exact hg1)
              (first
                | (go_at_call 14; refine (contains_any (S := defL m X []) (a := k) (Lib.hid rfl) (by have := HDL.out; omega) (‹_ ∧ _ ∧ FD _ _ _ _ _ _ _ _ _ _ _ _ _ _›).2.2.2).mono ?_; rintro e u4 ⟨rfl, rfl⟩; rw [HC.out]; have hg1 := (‹_ ∧ _ ∧ FD _ _ _ _ _ _ _ _ _ _ _ _ _ _›).2.2; obtain ⟨c1, c2⟩ := hg1.1.bx.two)
                | (go_at_call 15; refine (FH.defs (‹_ ∧ _ ∧ FD _ _ _ _ _ _ _ _ _ _ _ _ _ _›).2.2.1 hX hS HE.out HB).mono ?_; rintro e u5 ⟨rfl, r⟩; have hg2 := hg1.new r; obtain ⟨c3, c4⟩ := hg2.1.bx.two))
            replace hdr := hg2
            clear D0 D1 hg1 hg2 c1 c2 c3 c4 r
            obtain ⟨D0, D1⟩ := hdr.1.bx.two
            go_wp2_with fail
            go_quiet (fail)
            go_wp2_with fail
            go_roundw
            case rel => exact ⟨k + 1, by omega, by go_num, hdr.new (below_drewN (Below.refl _ _) _)⟩
            case measure =>
              simp [intOf]
              omega
          · obtain ⟨b4, hb4⟩ : ∃ b, setB N X [] = b := ⟨_, rfl⟩
            have H4 := Lib.hid hb4
            have hno : ¬ (k : Int) < N ∨ b4 = false := by
              by_cases h1 : (k : Int) < N
              · refine .inr ?_
                cases b4
                · rfl
                · exact absurd ⟨h1, hb4⟩ hlt
              · exact .inl h1
            clear hlt hb4
            rcases hno with hno | rfl
            · cases bA
              all_goals
                go_wp2_with (first
                  | (go_at_call 6; refine (FH.adm hdr.1 hX hS HA).mono ?_; rintro e u3 ⟨rfl, r⟩; clear D0 D1; replace hdr := hdr.new r; clear r; obtain ⟨D0, D1⟩ := hdr.1.bx.two)
                  | (go_at_call 9; refine (impIsFree_any (X := X) (S := defL N X []) (Lib.hid rfl) (by have := hX.out; omega) hdr.1.gr (Lib.hid rfl) (by have := HDL.out; omega) hdr.2).mono ?_; rintro e u3 ⟨rfl, r⟩; rw [adm_next HA.out]; clear D0 D1; replace hdr := hdr.new r; clear r; obtain ⟨D0, D1⟩ := hdr.1.bx.two))
                go_ret
                exact ⟨rfl, hdr.1.hb⟩
            · by_cases h1 : (k : Int) < N
              all_goals
                cases bA
                all_goals
                  go_wp2_with (first
                    | (go_at_call 10; refine (FH.set hdr.1 hX hS HE.out H4).mono ?_; rintro e u3 ⟨rfl, r⟩; clear D0 D1; replace hdr := hdr.new r; clear r; obtain ⟨D0, D1⟩ := hdr.1.bx.two)
                    | (go_at_call 6; refine (FH.adm hdr.1 hX hS HA).mono ?_; rintro e u3 ⟨rfl, r⟩; clear D0 D1; replace hdr := hdr.new r; clear r; obtain ⟨D0, D1⟩ := hdr.1.bx.two)
                    | (go_at_call 9; refine (impIsFree_any (X := X) (S := defL N X []) (Lib.hid rfl) (by have := hX.out; omega) hdr.1.gr (Lib.hid rfl) (by have := HDL.out; omega) hdr.2).mono ?_; rintro e u3 ⟨rfl, r⟩; rw [adm_next HA.out]; clear D0 D1; replace hdr := hdr.new r; clear r; obtain ⟨D0, D1⟩ := hdr.1.bx.two))
                  go_ret
                  exact ⟨rfl, hdr.1.hb⟩
      · have hS1 : 0 < S.length := by omega
        have hI : (0 : Int) < (S.length : Int) := by omega
        have hI1 : (1 : Int) ≤ (S.length : Int) := by omega
        clear hS0
        go_loopw [6] (fun i wr => ∃ k : Nat, k ≤ 10 ∧ i = .int .i64 k ∧ FD W g N Av As Ad X.length cv S.length cs X S (defL N X S) wr) (fun i _ => 10 - (intOf i).toNat)
        case atStart => exact ⟨0, by omega, rfl, hd⟩
        case round =>
          obtain ⟨k, hk, rfl, hdr⟩ := hrel
          clear D0 D1 hd
          obtain ⟨D0, D1⟩ := hdr.1.bx.two
          by_cases hlt : (k : Int) < N ∧ setB N X S = true
          · obtain ⟨hlt, hset⟩ := hlt
            have H4 := Lib.hid hset
            clear hset
            obtain ⟨m, rfl, hm10, _, _⟩ := gB_ok (setB_g H4.out)
            have hkm : k < m := by omega
            have HC := Lib.hid (defL_contains m X H4.out (k : Int))
            obtain ⟨b, hb⟩ : ∃ b, b = defB m X S (k : Int) := ⟨_, rfl⟩
            rw [← hb] at HC
            have HB := Lib.hid hb.symm
            clear hb
            go_wp2_with (first
              | (go_at_call 10; refine (FH.set hdr.1 hX hS HE.out H4).mono ?_; rintro e u3 ⟨rfl, r⟩; clear D0 D1; replace hdr := hdr.new r; clear r; obtain ⟨D0, D1⟩ := hdr.1.bx.two))
            go_region_held3 (fun w' => w'.cell? ⟨g, 0, none⟩ = some (.int .i64 m) ∧ w'.cell? ⟨g, 1, none⟩ = some (.slice Av X.length cv) ∧ FD W g m Av As Ad X.length cv S.length cs X S (defL m X S) w') (refine ⟨?_, ?_, ?_⟩ <;> first | assumption | exact D0 | exact D1 | exact hdr.drew | exact c1 | exact c2 | exact hg1)
              (first
                | (go_at_call 14; refine (contains_any (S := defL m X S) (a := k) (Lib.hid rfl) (by have := HDL.out; omega) (‹_ ∧ _ ∧ FD _ _ _ _ _ _ _ _ _ _ _ _ _ _›).2.2.2).mono ?_; rintro e u4 ⟨rfl, rfl⟩; rw [HC.out]; have hg1 := (‹_ ∧ _ ∧ FD _ _ _ _ _ _ _ _ _ _ _ _ _ _›).2.2; obtain ⟨c1, c2⟩ := hg1.1.bx.two)
                | (go_at_call 15; refine (FH.defs (‹_ ∧ _ ∧ FD _ _ _ _ _ _ _ _ _ _ _ _ _ _›).2.2.1 hX hS HE.out HB).mono ?_; rintro e u5 ⟨rfl, r⟩; have hg2 := hg1.new r; obtain ⟨c3, c4⟩ := hg2.1.bx.two))
            replace hdr := hg2
            clear D0 D1 hg1 hg2 c1 c2 c3 c4 r
            obtain ⟨D0, D1⟩ := hdr.1.bx.two
            obtain ⟨ad1, rfl, _, _⟩ := ivs_at hdr.1.se hS1
            obtain ⟨q, hq⟩ : ∃ q, (if cs = 1 then some ad1 else some { block := ad1.block, off := ad1.off + 1 }) = q := ⟨_, rfl⟩
            have HQ := Lib.hid hq
            go_wp2_with fail
            go_region_held3 (fun w' => w'.cell? ⟨g, 0, none⟩ = some (.int .i64 m) ∧ w'.cell? ⟨g, 1, none⟩ = some (.slice Av X.length cv) ∧ FD W g m Av (some ad1) Ad X.length cv S.length cs X S (defL m X S) w') (refine ⟨?_, ?_, ?_⟩ <;> first | assumption | exact D0 | exact D1 | exact hdr.drew | exact c1 | exact c2 | exact hg1 | exact hg1.drew)
              (first
                | (go_at_call 11; refine ((‹_ ∧ _ ∧ FD _ _ _ _ _ _ _ _ _ _ _ _ _ _›).2.2.tailD hX hS hcs HE.out HQ.out).mono ?_; rintro e u6 ⟨tv, rfl, hrow, r⟩; obtain ⟨At, ct, rfl, hrt, _, _⟩ := hrow.rd (n := (defL m X S.tail).length) (ivs_len _); have hg1 := (‹_ ∧ _ ∧ FD _ _ _ _ _ _ _ _ _ _ _ _ _ _›).2.2.new r; obtain ⟨c1, c2⟩ := hg1.1.bx.two)
                | (go_at_call 13; refine (within_any (S := defL m X S.tail) (T := defL m X S) (Lib.hid rfl) (defL_len40 m X S.tail) (Lib.hid rfl) (defL_len40 m X S) hrt hg1.2).mono ?_; rintro e u7 ⟨rfl, rfl⟩; rw [tail_less H4.out]; have hg2 := hg1))
            go_wp2_with fail
            go_roundw
            case rel =>
              exact ⟨k + 1, by omega, by go_num, hg2⟩
            case measure =>
              simp [intOf]
              omega
          · obtain ⟨b4, hb4⟩ : ∃ b, setB N X S = b := ⟨_, rfl⟩
            have H4 := Lib.hid hb4
            have hno : ¬ (k : Int) < N ∨ b4 = false := by
              by_cases h1 : (k : Int) < N
              · refine .inr ?_
                cases b4
                · rfl
                · exact absurd ⟨h1, hb4⟩ hlt
              · exact .inl h1
            clear hlt hb4
            rcases hno with hno | rfl
            · cases bA
              all_goals
                go_wp2_with (first
                  | (go_at_call 6; refine (FH.adm hdr.1 hX hS HA).mono ?_; rintro e u3 ⟨rfl, r⟩; clear D0 D1; replace hdr := hdr.new r; clear r; obtain ⟨D0, D1⟩ := hdr.1.bx.two)
                  | (go_at_call 9; refine (impIsFree_any (X := X) (S := defL N X S) (Lib.hid rfl) (by have := hX.out; omega) hdr.1.gr (Lib.hid rfl) (by have := HDL.out; omega) hdr.2).mono ?_; rintro e u3 ⟨rfl, r⟩; rw [adm_next HA.out]; clear D0 D1; replace hdr := hdr.new r; clear r; obtain ⟨D0, D1⟩ := hdr.1.bx.two))
                go_ret
                exact ⟨rfl, hdr.1.hb⟩
            · by_cases h1 : (k : Int) < N
              all_goals
                cases bA
                all_goals
                  go_wp2_with (first
                    | (go_at_call 10; refine (FH.set hdr.1 hX hS HE.out H4).mono ?_; rintro e u3 ⟨rfl, r⟩; clear D0 D1; replace hdr := hdr.new r; clear r; obtain ⟨D0, D1⟩ := hdr.1.bx.two)
                    | (go_at_call 6; refine (FH.adm hdr.1 hX hS HA).mono ?_; rintro e u3 ⟨rfl, r⟩; clear D0 D1; replace hdr := hdr.new r; clear r; obtain ⟨D0, D1⟩ := hdr.1.bx.two)
                    | (go_at_call 9; refine (impIsFree_any (X := X) (S := defL N X S) (Lib.hid rfl) (by have := hX.out; omega) hdr.1.gr (Lib.hid rfl) (by have := HDL.out; omega) hdr.2).mono ?_; rintro e u3 ⟨rfl, r⟩; rw [adm_next HA.out]; clear D0 D1; replace hdr := hdr.new r; clear r; obtain ⟨D0, D1⟩ := hdr.1.bx.two))
                  go_ret
                  exact ⟨rfl, hdr.1.hb⟩
end Go.Proofs.YteoaogjoapblhaaDoor
