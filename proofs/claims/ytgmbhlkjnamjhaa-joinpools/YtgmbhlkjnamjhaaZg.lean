/- lotdrawerref.FRight, SamePool. -/
import Derived.Test.YtgmbhlkjnamjhaaZy
import Derived.Test.YtgmbhlkjnamjhaaT5
import Derived.Deep.QuietTactic
import Derived.BigQuiet
import Derived.WalkSmall
namespace Go.Proofs.Ytgmbhlkjnamjhaa
open Go.RowKit Go.Deep

theorem prB_iff {r c : Int} {xs : List Int} : prB r c xs = true ↔ ((1 ≤ r ∧ r ≤ 400) ∧ 0 ≤ c ∧ c ≤ 1099511627776 ∧ (xs.length : Int) = min r c) := decide_eq_true_iff
theorem prB_no {r c : Int} {xs : List Int} (h : ¬ ((1 ≤ r ∧ r ≤ 400) ∧ 0 ≤ c ∧ c ≤ 1099511627776 ∧ (xs.length : Int) = min r c)) : prB r c xs = false := decide_eq_false h
set_option maxHeartbeats 2000000 in
theorem fRight_any (r c : Int) (A : Option Addr) (ca : Nat) (xs : List Int) (w : World) :
    Calls Try.prog 21 #[pv r c (.slice A xs.length ca)] w fun e w' => e = .returned (.bool (prB r c xs)) ∧ Below w.heap.size w w' := by
  have HB : Hid (Below w.heap.size w (w.alloc (.cells #[.int .i64 r, .int .i64 c, .slice A xs.length ca] 24))) := (Below.refl _ _).alloc (Nat.le_refl _) _
  unfold pv
  go_enter Try.func21, Try.ntmps21
  go_wp2
  all_goals
    go_ret
    refine ⟨retB ?_, HB.out⟩
    first
      | (symm; exact prB_no (by omega))
      | (rw [Bool.eq_iff_iff, beq_iff_eq, prB_iff]; omega)

/-- Are two reservoirs the same? -/
def sameB (r c : Int) (xs : List Int) (r2 c2 : Int) (ys : List Int) : Bool := decide (xs = ys) && (decide (r = r2) && decide (c = c2))
set_option maxRecDepth 100000 in
set_option maxHeartbeats 4000000 in
theorem samePool_any (r c r2 c2 : Int) (A B : Option Addr) (ca cb : Nat) (xs ys : List Int) (w : World) (ha : IP w A ca xs) (hb : IP w B cb ys) :
    Calls Try.prog 10 #[pv r c (.slice A xs.length ca), pv r2 c2 (.slice B ys.length cb)] w fun e w' => e = .returned (.bool (sameB r c xs r2 c2 ys)) ∧ Below w.heap.size w w' := by
  have hla : xs.length ≤ 9223372036854775807 := Nat.le_trans ha.le ha.cap
  have hlb : ys.length ≤ 9223372036854775807 := Nat.le_trans hb.le hb.cap
  have hBw : Below w.heap.size w ((w.alloc (.cells #[.int .i64 r, .int .i64 c, .slice A xs.length ca] 24)).alloc (.cells #[.int .i64 r2, .int .i64 c2, .slice B ys.length cb] 24)) := ((Below.refl _ _).alloc (Nat.le_refl _) _).alloc (by simp) _
  have HP := Lib.hid ((PB.new w r c (.slice A xs.length ca)).alloc (.cells #[.int .i64 r2, .int .i64 c2, .slice B ys.length cb] 24))
  have HQ := Lib.hid (PB.new2 w (.cells #[.int .i64 r, .int .i64 c, .slice A xs.length ca] 24) r2 c2 (.slice B ys.length cb))
  have HW0 := Lib.hid hBw
  have hsz : ((w.alloc (.cells #[.int .i64 r, .int .i64 c, .slice A xs.length ca] 24)).alloc (.cells #[.int .i64 r2, .int .i64 c2, .slice B ys.length cb] 24)).heap.size = w.heap.size + 2 := by simp
  have HSZ := Lib.hid hsz
  have HA := Lib.hid (ha.il.later hBw)
  have HB := Lib.hid (hb.il.later hBw)
  clear ha hb hBw hsz
  unfold pv
  by_cases hl : xs.length = ys.length
  · have h1 := neq_no hl
    have HL := Lib.hid hl
    clear hl
    go_enter Try.func10, Try.ntmps10
    go_wp2
    generalize (w.alloc (.cells #[.int .i64 r, .int .i64 c, .slice A xs.length ca] 24)).alloc (.cells #[.int .i64 r2, .int .i64 c2, .slice B ys.length cb] 24) = w0 at *
    go_loopw [16] (fun i wr => ∃ k : Nat, k ≤ xs.length ∧ i = .int .i64 k ∧ (∀ j, j < k → xs.getD j 0 = ys.getD j 0) ∧ Below w0.heap.size w0 wr) (fun i _ => xs.length - (intOf i).toNat)
    case atStart => exact ⟨0, Nat.zero_le _, rfl, fun j hj => absurd hj (by omega), Below.refl _ _⟩
    case round =>
      obtain ⟨k, hk, rfl, hE, hW⟩ := hrel
      have HE := Lib.hid hE
      have HW := Lib.hid hW
      have HW2 : Hid (Below w.heap.size w wr) := HW0.out.trans (hW.mono HW0.out.size)
      obtain ⟨p0, p1, p2, f0, f1, f2⟩ := (HP.out.later hW).at
      obtain ⟨d0, d1, d2, g0, g1, g2⟩ := (HQ.out.later hW).at
      clear hE hW h1
      by_cases hlt : k < xs.length
      · have hlt2 : k < ys.length := by have := HL.out; omega
        obtain ⟨b1, o1, rfl, _, hc1⟩ := (HA.out.later HW.out).at (by omega)
        obtain ⟨b2, o2, rfl, _, hc2⟩ := (HB.out.later HW.out).at (by omega)
        have e1 := hc1 k hlt
        have e2 := hc2 k hlt2
        clear hc1 hc2
        have i1 : (k : Int) < (xs.length : Int) := by omega
        have i2 : (k : Int) < (ys.length : Int) := by omega
        by_cases he : xs.getD k 0 = ys.getD k 0
        · have H2 : Hid (∀ j, j < k + 1 → xs.getD j 0 = ys.getD j 0) := fun j hj => by
            by_cases e : j = k
            · rw [e]; exact he
            · exact HE.out j (by omega)
          have hne := ineq_no he
          clear he
          generalize xs.getD k 0 = x at *
          generalize ys.getD k 0 = y at *
          go_wp2
          go_quiet (fail)
          go_wp2
          go_roundw
          case rel => exact ⟨k + 1, by omega, by go_num, H2.out, below_drewN HW.out _⟩
          case measure => simp [intOf]; omega
        · have hne := ineq_yes he
          have H2 : Hid (xs ≠ ys) := fun e => he (by rw [e])
          clear he
          generalize xs.getD k 0 = x at *
          generalize ys.getD k 0 = y at *
          go_wp2
          go_quiet (fail)
          go_wp2
          go_ret
          exact ⟨retB (by simp [sameB, H2.out]), below_drewN HW2.out _⟩
      · obtain rfl : xs.length = k := by omega
        have H2 : Hid (xs = ys) := list_of_getD HL.out HE.out
        by_cases hr : r = r2
        · subst hr
          have t1 : (r == r) = true := by simp
          go_wp2
          go_ret
          refine ⟨retB ?_, HW2.out⟩
          simp only [sameB, H2.out, decide_true, Bool.true_and]
          rfl
        · have t1 : (r == r2) = false := by rw [beq_eq_false_iff_ne]; exact hr
          have H3 : Hid (decide (r = r2) = false) := decide_eq_false hr
          clear hr
          go_wp2
          go_ret
          refine ⟨retB ?_, HW2.out⟩
          simp only [sameB, H2.out, decide_true, Bool.true_and, H3.out, Bool.false_and]
  · have h1 := neq_yes hl
    have H2 : Hid (xs ≠ ys) := fun e => hl (by rw [e])
    clear hl
    go_enter Try.func10, Try.ntmps10
    go_wp2
    go_ret
    exact ⟨retB (by simp [sameB, H2.out]), HW0.out⟩
end Go.Proofs.Ytgmbhlkjnamjhaa
