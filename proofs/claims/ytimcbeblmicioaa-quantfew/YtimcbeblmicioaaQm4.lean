/- slices.Equal on entries of a summary. -/
import Derived.Test.YtimcbeblmicioaaQm0
import Derived.Deep.QuietTactic
import Derived.BigQuiet
import Derived.WalkSmall
namespace Go.Proofs.Ytimcbeblmicioaa
open Go.RowKit Go.Deep

theorem rk_ext {a b : Rk} (h1 : a.n = b.n) (h2 : a.g = b.g) (h3 : a.m = b.m) : a = b := by cases a; cases b; simp_all
theorem rk_of_at {xs ys : List Rk} (hl : xs.length = ys.length) (h : ∀ j, j < xs.length → rat xs j = rat ys j) : xs = ys := by
  apply List.ext_getElem hl
  intro i h1 h2
  have e := h i h1
  unfold rat at e
  simpa only [List.getD_eq_getElem?_getD, List.getElem?_eq_getElem h1, List.getElem?_eq_getElem h2, Option.getD_some] using e
instance : DecidableEq Rk := fun a b => decidable_of_iff (a.n = b.n ∧ a.g = b.g ∧ a.m = b.m) ⟨fun h => rk_ext h.1 h.2.1 h.2.2, fun h => by rw [h]; exact ⟨rfl, rfl, rfl⟩⟩
set_option maxRecDepth 100000 in
set_option maxHeartbeats 2000000 in
theorem rkequal_any (A B : Option Addr) (ca cb : Nat) (xs ys : List Rk) (w : World) (ha : RP w A ca xs) (hb : RP w B cb ys) :
    Calls Try.prog 15 #[.slice A xs.length ca, .slice B ys.length cb] w fun e w' => e = .returned (.bool (decide (xs = ys))) ∧ Below w.heap.size w w' := by
  have hla := ha.le
  have hla2 := ha.cap
  have hlb := hb.le
  have hlb2 := hb.cap
  by_cases hl : xs.length = ys.length
  · have h1 := neq_no hl
    have HL := Lib.hid hl
    have HA := Lib.hid ha
    have HB := Lib.hid hb
    clear hl ha hb
    go_enter Try.func15, Try.ntmps15
    go_wp2
    go_loopw [13] (fun i wr => ∃ k : Nat, k ≤ xs.length ∧ i = .int .i64 k ∧ (∀ j, j < k → rat xs j = rat ys j) ∧ Below w.heap.size w wr) (fun i _ => xs.length - (intOf i).toNat)
    case atStart => exact ⟨0, Nat.zero_le _, rfl, fun j hj => absurd hj (by omega), Below.refl _ _⟩
    case round =>
      obtain ⟨k, hk, rfl, hE, hW⟩ := hrel
      have HE := Lib.hid hE
      have HW := Lib.hid hW
      clear hE hW h1
      by_cases hlt : k < xs.length
      · have hlt2 : k < ys.length := by have := HL.out; omega
        obtain ⟨b1, o1, rfl, _, hc1⟩ := (HA.out.later HW.out).il (by omega)
        obtain ⟨b2, o2, rfl, _, hc2⟩ := (HB.out.later HW.out).il (by omega)
        obtain ⟨e1, f1, g1⟩ := hc1 k hlt
        obtain ⟨e2, f2, g2⟩ := hc2 k hlt2
        clear hc1 hc2
        have i1 : (k : Int) < (xs.length : Int) := by omega
        have i2 : (k : Int) < (ys.length : Int) := by omega
        by_cases he : rat xs k = rat ys k
        · have H2 : Hid (∀ j, j < k + 1 → rat xs j = rat ys j) := fun j hj => by
            by_cases e : j = k
            · rw [e]; exact he
            · exact HE.out j (by omega)
          rw [← he] at e2 f2 g2
          clear he
          generalize (rat xs k).n = x at *
          generalize (rat xs k).g = y at *
          generalize (rat xs k).m = z at *
          go_wp2
          go_quiet (fail)
          go_wp2
          go_roundw
          case rel => exact ⟨k + 1, by omega, by go_num, H2.out, below_drewN HW.out _⟩
          case measure => simp [intOf]; omega
        · have H2 : Hid (xs ≠ ys) := fun e => he (by rw [e])
          have hne : ¬ ((rat xs k).n = (rat ys k).n ∧ (rat xs k).g = (rat ys k).g ∧ (rat xs k).m = (rat ys k).m) := fun h => he (rk_ext h.1 h.2.1 h.2.2)
          clear he
          generalize (rat xs k).n = x at *
          generalize (rat xs k).g = y at *
          generalize (rat xs k).m = z at *
          generalize (rat ys k).n = x2 at *
          generalize (rat ys k).g = y2 at *
          generalize (rat ys k).m = z2 at *
          by_cases hx : x = x2
          · subst hx
            by_cases hy : y = y2
            · subst hy
              have t3 : (z == z2) = false := by rw [beq_eq_false_iff_ne]; exact fun h => hne ⟨rfl, rfl, h⟩
              clear hne
              go_wp2
              go_quiet (fail)
              go_wp2
              go_ret
              exact ⟨retB (by simp [H2.out]), below_drewN HW.out _⟩
            · have t2 : (y == y2) = false := by rw [beq_eq_false_iff_ne]; exact hy
              clear hne hy
              go_wp2
              go_quiet (fail)
              go_wp2
              go_ret
              exact ⟨retB (by simp [H2.out]), below_drewN HW.out _⟩
          · have t1 : (x == x2) = false := by rw [beq_eq_false_iff_ne]; exact hx
            clear hne hx
            go_wp2
            go_quiet (fail)
            go_wp2
            go_ret
            exact ⟨retB (by simp [H2.out]), below_drewN HW.out _⟩
      · obtain rfl : k = xs.length := by omega
        have H2 : Hid (xs = ys) := rk_of_at HL.out HE.out
        go_wp2
        go_ret
        exact ⟨retB (by simp [H2.out]), HW.out⟩
  · have h1 := neq_yes hl
    have H2 : Hid (xs ≠ ys) := fun e => hl (by rw [e])
    clear hl ha hb
    go_enter Try.func15, Try.ntmps15
    go_wp2
    go_ret
    exact ⟨retB (by simp [H2.out]), Below.refl _ _⟩
end Go.Proofs.Ytimcbeblmicioaa
