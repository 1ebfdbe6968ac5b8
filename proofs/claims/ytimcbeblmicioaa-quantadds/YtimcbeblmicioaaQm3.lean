/- lotdrawerref.ORight (made by tools/mkQm3.py). -/
import Derived.Test.YtimcbeblmicioaaQm1
import Derived.Test.YtimcbeblmicioaaQm2
import Derived.Deep.DeepCutAuto
namespace Go.Proofs.Ytimcbeblmicioaa
open Go.RowKit Go.Deep

theorem qR_no {p : Int} {S : List Rk} {b0 : Bool} (h : b0 = true ↔ qP p S S.length ∧ qtot S ≤ 1099511627776 ∧ ∀ i, i < S.length → ¬ qOver p S i) (hn : ¬ (qP p S S.length ∧ qtot S ≤ 1099511627776 ∧ ∀ i, i < S.length → ¬ qOver p S i)) : b0 = false := by
  cases b0 with
  | false => rfl
  | true => exact absurd (h.1 rfl) hn

set_option maxRecDepth 100000 in
set_option maxHeartbeats 8000000 in
theorem oright_any (p : Int) (A : Option Addr) (ca : Nat) (S : List Rk) (w : World) (hS : RP w A ca S) (b0 : Bool) (hb0 : b0 = true ↔ QR p S) :
    Calls Try.prog 14 #[.int .i64 p, .slice A S.length ca] w fun e w' => e = .returned (.bool b0) ∧ Below w.heap.size w w' := by
  have hle := hS.le
  have hcap := hS.cap
  have HS := Lib.hid hS
  have HR := Lib.hid (hb0.trans QR_iff)
  clear hS hb0
  go_enter Try.func14, Try.ntmps14
  go_upto_region 1 with (fail)
  go_cut [5] (fun c wx => ∃ b : Bool, c = .bool b ∧ (b = true ↔ qP p S 0) ∧ wx = w)
  case first =>
    by_cases h1 : 0 < p
    · by_cases h2 : p ≤ 100
      · by_cases h3 : S.length ≤ 400
        · have E : Hid (qP p S 0) := ⟨⟨by omega, h2, h3⟩, fun i hi => by omega⟩
          have h3i : (S.length : Int) ≤ 400 := by omega
          go_wp2
          go_meet
          case rel => exact ⟨true, rfl, ⟨fun _ => E.out, fun _ => rfl⟩, rfl⟩
        · have E : Hid (¬ qP p S 0) := fun h => h3 h.1.2.2
          have h3i : ¬ (S.length : Int) ≤ 400 := by omega
          go_wp2
          go_meet
          case rel => exact ⟨false, rfl, ⟨(fun h => by cases h), fun h => absurd h E.out⟩, rfl⟩
      · have E : Hid (¬ qP p S 0) := fun h => h2 h.1.2.1
        go_wp2
        go_meet
        case rel => exact ⟨false, rfl, ⟨(fun h => by cases h), fun h => absurd h E.out⟩, rfl⟩
    · have E : Hid (¬ qP p S 0) := fun h => h1 (by have := h.1.1; omega)
      go_wp2
      go_meet
      case rel => exact ⟨false, rfl, ⟨(fun h => by cases h), fun h => absurd h E.out⟩, rfl⟩
  case rest =>
    obtain ⟨b, rfl, hb, rfl⟩ := hcut
    have HI0 := Lib.hid hb
    clear hb
    go_wp2_with fail
    go_loopw [5, 6, 25] (fun ov av iv wr => ∃ (k : Nat) (b : Bool) (a : Int), k ≤ S.length ∧ iv = .int .i64 k ∧ ov = .bool b ∧ av = .int .i64 a ∧ (b = true ↔ qP p S k) ∧ (qP p S k → a = qtot (S.take k)) ∧ Below wc.heap.size wc wr) (fun _ _ iv _ => S.length - (intOf iv).toNat)
    case atStart => exact ⟨0, b, 0, by omega, rfl, rfl, rfl, HI0.out, fun _ => rfl, Below.refl _ _⟩
    case round =>
      clear HI0 b
      obtain ⟨k, b, a, hk, rfl, rfl, rfl, hI, hA, hB⟩ := hrel
      have HI := Lib.hid hI
      have HA := Lib.hid hA
      have HB := Lib.hid hB
      clear hI hA hB
      by_cases hlt : k < S.length
      · obtain ⟨bl, off, rfl, _, hcell⟩ := (HS.out.later HB.out).il (by omega)
        obtain ⟨c0, c1, c2⟩ := hcell k hlt
        have hki : (k : Int) < (S.length : Int) := by omega
        have HB2 := Lib.hid (HB.out.alloc HB.out.size (.cells #[.int .i64 (rat S k).n, .int .i64 (rat S k).g, .int .i64 (rat S k).m] 33))
        have HT := Lib.hid (qtot_take hlt)
        cases b with
        | false =>
          have HE : Hid (¬ qP p S (k + 1)) := fun h => by have := HI.out.2 (qP_step.1 h).1; cases this
          clear hcell
          generalize (rat S k).n = x at *
          generalize (rat S k).g = g at *
          generalize (rat S k).m = m at *
          go_wp2_with fail
          go_quiet (fail)
          go_wp2
          go_roundw
          case rel => exact ⟨k + 1, false, a, by omega, by go_num, rfl, rfl, ⟨(fun h => by cases h), fun h => absurd h HE.out⟩, fun h => absurd h HE.out, below_drewN HB2.out _⟩
          case measure => simp [intOf]; omega
        | true =>
          have hP := HI.out.1 rfl
          have HPK := Lib.hid hP
          have hab := qP_tot hP (Nat.le_of_lt hlt)
          rw [← HA.out hP] at hab
          have h400 := hP.1.2.2
          have ha1 : a ≤ 439804651110400 := by
            have : (k : Int) * 1099511627776 ≤ 400 * 1099511627776 := by omega
            omega
          have ha0 := hab.1
          have HP : Hid (∀ h5 : ¬ k = 0, wr.cell? ⟨bl, off + (k - 1) * 3, none⟩ = some (.int .i64 (rat S (k - 1)).n)) := fun h5 => (hcell (k - 1) (by omega)).1
          have HQ : Hid (qE S k ↔ 1 ≤ (rat S k).g ∧ (rat S k).g ≤ 1099511627776 ∧ 0 ≤ (rat S k).m ∧ (rat S k).m ≤ 1099511627776 ∧ (k = 0 ∨ (rat S (k - 1)).n ≤ (rat S k).n)) := Iff.rfl
          clear hcell hab hP
          generalize (rat S k).n = x at *
          generalize (rat S k).g = g at *
          generalize (rat S k).m = m at *
          by_cases h1 : 0 < g
          · have d1 : decide (0 < g) = true := decide_eq_true h1
            by_cases h2 : g ≤ 1099511627776
            · have d2 : decide (g ≤ 1099511627776) = true := decide_eq_true h2
              by_cases h3 : 0 ≤ m
              · have d3 : decide (0 ≤ m) = true := decide_eq_true h3
                by_cases h4 : m ≤ 1099511627776
                · have d4 : decide (m ≤ 1099511627776) = true := decide_eq_true h4
                  by_cases h5 : k = 0
                  · have d5 : ((k : Int) == 0) = true := by rw [h5]; rfl
                    have HE : Hid (qE S k) := HQ.out.2 ⟨by omega, by omega, by omega, by omega, .inl h5⟩
                    clear HQ HP h5
                    go_wp2_with fail
                    go_quiet (fail)
                    go_wp2
                    go_roundw
                    case rel => exact ⟨k + 1, true, a + g, by omega, by go_num, rfl, by go_num, ⟨fun _ => qP_step.2 ⟨HPK.out, HE.out⟩, fun _ => rfl⟩, fun _ => by rw [HT.out, HA.out HPK.out], below_drewN HB2.out _⟩
                    case measure => simp [intOf]; omega
                  · have d5 : ((k : Int) == 0) = false := eqz_no h5
                    have c3 := (HP.out h5)
                    have hk1 : (k : Int) - 1 = ((k - 1 : Nat) : Int) := by omega
                    have hkl : ((k - 1 : Nat) : Int) < (S.length : Int) := by omega
                    clear HP
                    generalize (rat S (k - 1)).n = u at *
                    by_cases h6 : u ≤ x
                    · have d6 : decide (u ≤ x) = true := decide_eq_true h6
                      have HE : Hid (qE S k) := HQ.out.2 ⟨by omega, by omega, by omega, by omega, .inr h6⟩
                      clear HQ
                      go_wp2_with fail
                      go_quiet (fail)
                      go_wp2
                      go_roundw
                      case rel => exact ⟨k + 1, true, a + g, by omega, by go_num, rfl, by go_num, ⟨fun _ => qP_step.2 ⟨HPK.out, HE.out⟩, fun _ => rfl⟩, fun _ => by rw [HT.out, HA.out HPK.out], below_drewN HB2.out _⟩
                      case measure => simp [intOf]; omega
                    · have d6 : decide (u ≤ x) = false := decide_eq_false h6
                      have HE : Hid (¬ qE S k) := fun h => h6 ((HQ.out.1 h).2.2.2.2.resolve_left h5)
                      clear HQ
                      go_wp2_with fail
                      go_quiet (fail)
                      go_wp2
                      go_roundw
                      case rel => exact ⟨k + 1, false, a, by omega, by go_num, rfl, rfl, ⟨(fun h => by cases h), fun h => absurd (qP_step.1 h).2 HE.out⟩, fun h => absurd (qP_step.1 h).2 HE.out, below_drewN HB2.out _⟩
                      case measure => simp [intOf]; omega
                · have d4 : decide (m ≤ 1099511627776) = false := decide_eq_false h4
                  have HE : Hid (¬ qE S k) := fun h => h4 (HQ.out.1 h).2.2.2.1
                  clear HQ
                  go_wp2_with fail
                  go_quiet (fail)
                  go_wp2
                  go_roundw
                  case rel => exact ⟨k + 1, false, a, by omega, by go_num, rfl, rfl, ⟨(fun h => by cases h), fun h => absurd (qP_step.1 h).2 HE.out⟩, fun h => absurd (qP_step.1 h).2 HE.out, below_drewN HB2.out _⟩
                  case measure => simp [intOf]; omega
              · have d3 : decide (0 ≤ m) = false := decide_eq_false h3
                have HE : Hid (¬ qE S k) := fun h => h3 (HQ.out.1 h).2.2.1
                clear HQ
                go_wp2_with fail
                go_quiet (fail)
                go_wp2
                go_roundw
                case rel => exact ⟨k + 1, false, a, by omega, by go_num, rfl, rfl, ⟨(fun h => by cases h), fun h => absurd (qP_step.1 h).2 HE.out⟩, fun h => absurd (qP_step.1 h).2 HE.out, below_drewN HB2.out _⟩
                case measure => simp [intOf]; omega
            · have d2 : decide (g ≤ 1099511627776) = false := decide_eq_false h2
              have HE : Hid (¬ qE S k) := fun h => h2 (HQ.out.1 h).2.1
              clear HQ
              go_wp2_with fail
              go_quiet (fail)
              go_wp2
              go_roundw
              case rel => exact ⟨k + 1, false, a, by omega, by go_num, rfl, rfl, ⟨(fun h => by cases h), fun h => absurd (qP_step.1 h).2 HE.out⟩, fun h => absurd (qP_step.1 h).2 HE.out, below_drewN HB2.out _⟩
              case measure => simp [intOf]; omega
          · have d1 : decide (0 < g) = false := decide_eq_false h1
            have HE : Hid (¬ qE S k) := fun h => h1 (by have := (HQ.out.1 h).1; omega)
            clear HQ
            go_wp2_with fail
            go_quiet (fail)
            go_wp2
            go_roundw
            case rel => exact ⟨k + 1, false, a, by omega, by go_num, rfl, rfl, ⟨(fun h => by cases h), fun h => absurd (qP_step.1 h).2 HE.out⟩, fun h => absurd (qP_step.1 h).2 HE.out, below_drewN HB2.out _⟩
            case measure => simp [intOf]; omega
      · obtain rfl : k = S.length := by omega
        have hT : S.take S.length = S := List.take_length
        rw [hT] at HA
        cases b with
        | false =>
          have E : Hid (b0 = false) := qR_no HR.out (fun h => by have := HI.out.2 h.1; cases this)
          clear hT
          go_wp2
          go_ret
          exact ⟨retB E.out.symm, HB.out⟩
        | true =>
          have hP := HI.out.1 rfl
          have ha := HA.out hP
          by_cases ht : a ≤ 1099511627776
          · have HF : Hid (∀ i, i < S.length → 1 ≤ (rat S i).g ∧ (rat S i).g ≤ 1099511627776 ∧ 0 ≤ (rat S i).m ∧ (rat S i).m ≤ 1099511627776) := fun i hi => by obtain ⟨e1, e2, e3, e4, _⟩ := hP.2 i hi; exact ⟨e1, e2, e3, e4⟩
            have HPP := Lib.hid hP
            have HAA := Lib.hid ha
            have ha0 : 0 ≤ a := by rw [ha]; have := qP_tot hP (Nat.le_refl _); rw [hT] at this; exact this.1
            have hp1 := hP.1.1
            have hp2 := hP.1.2.1
            have htd : decide (1099511627776 < a) = false := decide_eq_false (by omega)
            clear hP ha hT HA HI
            go_wp2_with fail
            go_loopw [80] (fun iv wr => ∃ k : Nat, k ≤ S.length ∧ iv = .int .i64 k ∧ (∀ i, i < k → ¬ qOver p S i) ∧ Below wc.heap.size wc wr) (fun iv _ => S.length - (intOf iv).toNat)
            case atStart => exact ⟨0, by omega, rfl, fun i hi => by omega, HB.out⟩
            case round =>
              clear HB htd
              obtain ⟨k, hk, rfl, hO, hB⟩ := hrel
              have HO := Lib.hid hO
              have HB := Lib.hid hB
              clear hO hB
              by_cases hlt : k < S.length
              · obtain ⟨bl, off, rfl, _, hcell⟩ := (HS.out.later HB.out).il (by omega)
                obtain ⟨c0, c1, c2⟩ := hcell k hlt
                have hki : (k : Int) < (S.length : Int) := by omega
                obtain ⟨f1, f2, f3, f4⟩ := HF.out k hlt
                have HB2 := Lib.hid (HB.out.alloc HB.out.size (.cells #[.int .i64 (rat S k).n, .int .i64 (rat S k).g, .int .i64 (rat S k).m] 33))
                have HQ : Hid (qOver p S k ↔ 1 < (rat S k).g + (rat S k).m ∧ 2 * a < ((rat S k).g + (rat S k).m) * p) := by rw [HAA.out]; exact Iff.rfl
                have hpr0 : 0 ≤ ((rat S k).g + (rat S k).m) * p := Int.mul_nonneg (by omega) (by omega)
                have hpr1 : ((rat S k).g + (rat S k).m) * p ≤ 2199023255552 * 100 := Int.mul_le_mul (by omega) hp2 (by omega) (by omega)
                clear hcell
                generalize (rat S k).n = x at *
                generalize (rat S k).g = g at *
                generalize (rat S k).m = m at *
                by_cases h1 : 1 < g + m
                · by_cases h2 : 2 * a < (g + m) * p
                  · have E : Hid (b0 = false) := qR_no HR.out (fun h => h.2.2 k hlt (HQ.out.2 ⟨h1, h2⟩))
                    go_wp2
                    go_ret
                    exact ⟨retB E.out.symm, HB2.out⟩
                  · have HE : Hid (∀ i, i < k + 1 → ¬ qOver p S i) := fun i hi => by
                      by_cases e : i = k
                      · rw [e]; exact fun h => h2 (HQ.out.1 h).2
                      · exact HO.out i (by omega)
                    clear HQ
                    go_wp2
                    go_roundw
                    case rel => exact ⟨k + 1, by omega, by go_num, HE.out, HB2.out⟩
                    case measure => simp [intOf]; omega
                · have HE : Hid (∀ i, i < k + 1 → ¬ qOver p S i) := fun i hi => by
                    by_cases e : i = k
                    · rw [e]; exact fun h => h1 (HQ.out.1 h).1
                    · exact HO.out i (by omega)
                  clear HQ
                  go_wp2
                  go_roundw
                  case rel => exact ⟨k + 1, by omega, by go_num, HE.out, HB2.out⟩
                  case measure => simp [intOf]; omega
              · obtain rfl : k = S.length := by omega
                have E : Hid (b0 = true) := HR.out.2 ⟨HPP.out, by rw [← HAA.out]; exact ht, HO.out⟩
                go_wp2
                go_ret
                exact ⟨retB E.out.symm, HB.out⟩
          · have E : Hid (b0 = false) := qR_no HR.out (fun h => ht (by rw [ha]; exact h.2.1))
            have htd : decide (1099511627776 < a) = true := decide_eq_true (by omega)
            clear hT hP ha
            go_wp2
            go_ret
            exact ⟨retB E.out.symm, HB.out⟩
end Go.Proofs.Ytimcbeblmicioaa
