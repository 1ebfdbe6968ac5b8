/- slices.Equal on words. -/
import Derived.Test.YtfhbnolppahfhaaW1
import Derived.Deep.QuietTactic
import Derived.BigQuiet
import Derived.WalkSmall
namespace Go.Proofs.Ytfhbnolppahfhaa
open Go.RowKit

theorem list_of_wd {xs ys : List Nat} (hl : xs.length = ys.length) (h : ∀ j, j < xs.length → wd xs j = wd ys j) : xs = ys := by
  apply List.ext_getElem hl
  intro i h1 h2
  have e := h i h1
  have e1 := wd_in h1
  have e2 := wd_in h2
  rw [List.getElem?_eq_getElem h1] at e1
  rw [List.getElem?_eq_getElem h2] at e2
  simp at e1 e2
  rw [e1, e2, e]

theorem neq_no {x y : Nat} (h : x = y) : ((x : Int) != (y : Int)) = false := by subst h; simp
theorem neq_yes {x y : Nat} (h : x ≠ y) : ((x : Int) != (y : Int)) = true := by
  rw [bne_iff_ne]; omega

set_option maxHeartbeats 1000000 in
theorem equal_any (A B : Option Addr) (ca cb : Nat) (xs ys : List Nat) (w : World) (ha : Wd w A xs) (hb : Wd w B ys) (hla : xs.length ≤ 9223372036854775807) (hlb : ys.length ≤ 9223372036854775807) :
    Calls Try.prog 29 #[.slice A xs.length ca, .slice B ys.length cb] w fun e w' => e = .returned (.bool (decide (xs = ys))) ∧ Below w.heap.size w w' := by
  by_cases hl : xs.length = ys.length
  · have h1 := neq_no hl
    have HL := Lib.hid hl
    have HA := Lib.hid ha
    have HB := Lib.hid hb
    clear hl ha hb
    go_enter Try.func29, Try.ntmps29
    go_wp2
    go_loopw [13] (fun i wr => ∃ k : Nat, k ≤ xs.length ∧ i = .int .i64 k ∧ (∀ j, j < k → wd xs j = wd ys j) ∧ Below w.heap.size w wr) (fun i _ => xs.length - (intOf i).toNat)
    case atStart => exact ⟨0, Nat.zero_le _, rfl, fun j hj => absurd hj (by omega), Below.refl _ _⟩
    case round =>
      obtain ⟨k, hk, rfl, hE, hW⟩ := hrel
      have HE := Lib.hid hE
      have HW := Lib.hid hW
      clear hE hW h1
      by_cases hlt : k < xs.length
      · have hlt2 : k < ys.length := by have := HL.out; omega
        obtain ⟨b1, o1, rfl, _, hc1⟩ := (HA.out.below HW.out).2 (by omega)
        obtain ⟨b2, o2, rfl, _, hc2⟩ := (HB.out.below HW.out).2 (by omega)
        have e1 := hc1 k hlt
        have e2 := hc2 k hlt2
        clear hc1 hc2
        have i1 : (k : Int) < (xs.length : Int) := by omega
        have i2 : (k : Int) < (ys.length : Int) := by omega
        by_cases he : wd xs k = wd ys k
        · have hne := neq_no he
          have H2 := Lib.hid he
          clear he
          go_wp2
          go_quiet (fail)
          go_wp2
          go_roundw
          case rel => exact ⟨k + 1, by omega, by go_num, fun j hj => by
                        by_cases e : j = k
                        · rw [e]; exact H2.out
                        · exact HE.out j (by omega), below_drewN HW.out _⟩
          case measure => simp [intOf]; omega
        · have hne := neq_yes he
          have H2 : Hid (xs ≠ ys) := fun e => he (by rw [e])
          clear he
          go_wp2
          go_quiet (fail)
          go_wp2
          go_ret
          exact ⟨retB (by simp [H2.out]), below_drewN HW.out _⟩
      · obtain rfl : xs.length = k := by omega
        have H2 : Hid (xs = ys) := list_of_wd HL.out HE.out
        go_wp2
        go_ret
        exact ⟨retB (by simp [H2.out]), HW.out⟩
  · have h1 := neq_yes hl
    have H2 : Hid (xs ≠ ys) := fun e => hl (by rw [e])
    clear hl ha hb
    go_enter Try.func29, Try.ntmps29
    go_wp2
    go_ret
    exact ⟨retB (by simp [H2.out]), Below.refl _ _⟩
end Go.Proofs.Ytfhbnolppahfhaa
