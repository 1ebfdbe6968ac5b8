/- slices.Equal on integers. -/
import Derived.Test.YtimcbeblmicioaaTe
import Derived.Deep.QuietTactic
import Derived.BigQuiet
import Derived.WalkSmall
namespace Go.Proofs.Ytimcbeblmicioaa
open Go.RowKit

theorem list_of_getD {xs ys : List Int} (hl : xs.length = ys.length) (h : ∀ j, j < xs.length → xs.getD j 0 = ys.getD j 0) : xs = ys := by
  apply List.ext_getElem hl
  intro i h1 h2
  have e := h i h1
  simpa [List.getD_eq_getElem?_getD, h1, h2] using e
set_option maxHeartbeats 1000000 in
theorem iequal_any (A B : Option Addr) (ca cb : Nat) (xs ys : List Int) (w : World) (ha : Il w A xs) (hb : Il w B ys) (hla : xs.length ≤ 9223372036854775807) (hlb : ys.length ≤ 9223372036854775807) :
    Calls Try.prog 23 #[.slice A xs.length ca, .slice B ys.length cb] w fun e w' => e = .returned (.bool (decide (xs = ys))) ∧ Below w.heap.size w w' := by
  by_cases hl : xs.length = ys.length
  · have h1 := neq_no hl
    have HL := Lib.hid hl
    have HA := Lib.hid ha
    have HB := Lib.hid hb
    clear hl ha hb
    go_enter Try.func23, Try.ntmps23
    go_wp2
    go_loopw [13] (fun i wr => ∃ k : Nat, k ≤ xs.length ∧ i = .int .i64 k ∧ (∀ j, j < k → xs.getD j 0 = ys.getD j 0) ∧ Below w.heap.size w wr) (fun i _ => xs.length - (intOf i).toNat)
    case atStart => exact ⟨0, Nat.zero_le _, rfl, fun j hj => absurd hj (by omega), Below.refl _ _⟩
    case round =>
      obtain ⟨k, hk, rfl, hE, hW⟩ := hrel
      have HE := Lib.hid hE
      have HW := Lib.hid hW
      clear hE hW h1
      by_cases hlt : k < xs.length
      · have hlt2 : k < ys.length := by have := HL.out; omega
        obtain ⟨b1, o1, rfl, _, hc1⟩ := (HA.out.later HW.out).at (by omega)
        obtain ⟨b2, o2, rfl, _, hc2⟩ := (HB.out.later HW.out).at (by omega)
        have e1 := hc1 k hlt
        have e2 := hc2 k hlt2
        clear hc1 hc2
        have i1 : (k : Int) < (xs.length : Int) := by omega
        have i2 : (k : Int) < (ys.length : Int) := by omega
        by_cases he : xs.getD k 0 = ys.getD k 0
        · have H2 : Hid (∀ j, j < k + 1 → xs.getD j 0 = ys.getD j 0) := fun j hj => by
            by_cases e : j = k
            · rw [e]; exact he
            · exact HE.out j (by omega)
          have hne := ineq_no he
          clear he
          generalize xs.getD k 0 = x at *
          generalize ys.getD k 0 = y at *
          go_wp2
          go_quiet (fail)
          go_wp2
          go_roundw
          case rel => exact ⟨k + 1, by omega, by go_num, H2.out, below_drewN HW.out _⟩
          case measure => simp [intOf]; omega
        · have hne := ineq_yes he
          have H2 : Hid (xs ≠ ys) := fun e => he (by rw [e])
          clear he
          generalize xs.getD k 0 = x at *
          generalize ys.getD k 0 = y at *
          go_wp2
          go_quiet (fail)
          go_wp2
          go_ret
          exact ⟨retB (by simp [H2.out]), below_drewN HW.out _⟩
      · obtain rfl : xs.length = k := by omega
        have H2 : Hid (xs = ys) := list_of_getD HL.out HE.out
        go_wp2
        go_ret
        exact ⟨retB (by simp [H2.out]), HW.out⟩
  · have h1 := neq_yes hl
    have H2 : Hid (xs ≠ ys) := fun e => hl (by rw [e])
    clear hl ha hb
    go_enter Try.func23, Try.ntmps23
    go_wp2
    go_ret
    exact ⟨retB (by simp [H2.out]), Below.refl _ _⟩
end Go.Proofs.Ytimcbeblmicioaa
