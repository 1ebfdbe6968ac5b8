/- slices.Equal on alias entries. -/
import Derived.Test.YtjhcbjpbmbjgoaaHb
import Derived.Deep.QuietTactic
import Derived.BigQuiet
import Derived.WalkSmall
namespace Go.Proofs.Ytjhcbjpbmbjgoaa
open Go.RowKit Go.Deep

theorem at_of_getD {xs ys : AT} (hl : xs.length = ys.length) (h : ∀ j, j < xs.length → lev xs j = lev ys j ∧ too xs j = too ys j) : xs = ys := by
  apply List.ext_getElem hl
  intro i h1 h2
  have e := h i h1
  unfold lev too at e
  simp only [List.getD_eq_getElem?_getD, List.getElem?_eq_getElem h1, List.getElem?_eq_getElem h2, Option.getD_some] at e
  exact Prod.ext e.1 e.2
set_option maxRecDepth 100000 in
set_option maxHeartbeats 1000000 in
theorem aequal_any (A B : Option Addr) (ca cb : Nat) (xs ys : AT) (w : World) (ha : AP w A ca xs) (hb : AP w B cb ys) :
    Calls Try.prog 18 #[.slice A xs.length ca, .slice B ys.length cb] w fun e w' => e = .returned (.bool (decide (xs = ys))) ∧ Below w.heap.size w w' := by
  have hla := ha.le
  have hla2 := ha.cap
  have hlb := hb.le
  have hlb2 := hb.cap
  by_cases hl : xs.length = ys.length
  · have h1 := neq_no hl
    have HL := Lib.hid hl
    have HA := Lib.hid ha
    have HB := Lib.hid hb
    clear hl ha hb
    go_enter Try.func18, Try.ntmps18
    go_wp2
    go_loopw [13] (fun i wr => ∃ k : Nat, k ≤ xs.length ∧ i = .int .i64 k ∧ (∀ j, j < k → lev xs j = lev ys j ∧ too xs j = too ys j) ∧ Below w.heap.size w wr) (fun i _ => xs.length - (intOf i).toNat)
    case atStart => exact ⟨0, Nat.zero_le _, rfl, fun j hj => absurd hj (by omega), Below.refl _ _⟩
    case round =>
      obtain ⟨k, hk, rfl, hE, hW⟩ := hrel
      have HE := Lib.hid hE
      have HW := Lib.hid hW
      clear hE hW h1
      by_cases hlt : k < xs.length
      · have hlt2 : k < ys.length := by have := HL.out; omega
        obtain ⟨b1, o1, rfl, _, hc1⟩ := (HA.out.later HW.out).il (by omega)
        obtain ⟨b2, o2, rfl, _, hc2⟩ := (HB.out.later HW.out).il (by omega)
        obtain ⟨e1, f1⟩ := hc1 k hlt
        obtain ⟨e2, f2⟩ := hc2 k hlt2
        clear hc1 hc2
        have i1 : (k : Int) < (xs.length : Int) := by omega
        have i2 : (k : Int) < (ys.length : Int) := by omega
        by_cases he : lev xs k = lev ys k ∧ too xs k = too ys k
        · have H2 : Hid (∀ j, j < k + 1 → lev xs j = lev ys j ∧ too xs j = too ys j) := fun j hj => by
            by_cases e : j = k
            · rw [e]; exact he
            · exact HE.out j (by omega)
          rw [← he.1] at e2
          rw [← he.2] at f2
          clear he
          generalize lev xs k = x at *
          generalize too xs k = y at *
          go_wp2
          go_quiet (fail)
          go_wp2
          go_roundw
          case rel => exact ⟨k + 1, by omega, by go_num, H2.out, below_drewN HW.out _⟩
          case measure => simp [intOf]; omega
        · have H2 : Hid (xs ≠ ys) := fun e => he (by rw [e]; exact ⟨rfl, rfl⟩)
          have hne : lev xs k ≠ lev ys k ∨ too xs k ≠ too ys k := by
            by_cases h : lev xs k = lev ys k
            · exact .inr (fun h2 => he ⟨h, h2⟩)
            · exact .inl h
          clear he
          by_cases hx : lev xs k = lev ys k
          · have hy : too xs k ≠ too ys k := by
              rcases hne with h | h
              · exact absurd hx h
              · exact h
            have t2 : (too xs k == too ys k) = false := by rw [beq_eq_false_iff_ne]; exact hy
            rw [← hx] at e2
            clear hne hx hy
            generalize lev xs k = x at *
            generalize too xs k = y at *
            generalize too ys k = y2 at *
            go_wp2
            go_quiet (fail)
            go_wp2
            go_ret
            exact ⟨retB (by simp [H2.out]), below_drewN HW.out _⟩
          · have t1 : (lev xs k == lev ys k) = false := by rw [beq_eq_false_iff_ne]; exact hx
            clear hne hx
            generalize lev xs k = x at *
            generalize too xs k = y at *
            generalize lev ys k = x2 at *
            generalize too ys k = y2 at *
            go_wp2
            go_quiet (fail)
            go_wp2
            go_ret
            exact ⟨retB (by simp [H2.out]), below_drewN HW.out _⟩
      · obtain rfl : k = xs.length := by omega
        have H2 : Hid (xs = ys) := at_of_getD HL.out HE.out
        go_wp2
        go_ret
        exact ⟨retB (by simp [H2.out]), HW.out⟩
  · have h1 := neq_yes hl
    have H2 : Hid (xs ≠ ys) := fun e => hl (by rw [e])
    clear hl ha hb
    go_enter Try.func18, Try.ntmps18
    go_wp2
    go_ret
    exact ⟨retB (by simp [H2.out]), Below.refl _ _⟩
end Go.Proofs.Ytjhcbjpbmbjgoaa
