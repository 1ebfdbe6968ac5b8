/- stats.Right. -/
import Derived.Test.YtclfimpcacoefaaMo0
namespace Go.Proofs.Ytclfimpcacoefaa
open Go.RowKit Go.Deep

set_option maxRecDepth 100000 in
set_option maxHeartbeats 2000000 in
theorem mright_any (n s q : Int) (w : World) :
    Calls Try.prog 14 #[.agg #[.int .i64 n, .int .i64 s, .int .i64 q]] w fun e w' => e = .returned (.bool (rtM n s q)) ∧ Below w.heap.size w w' := by
  have hB : Hid (Below w.heap.size w (w.alloc (.cells #[.int .i64 n, .int .i64 s, .int .i64 q] 24))) := (Below.refl _ _).alloc (Nat.le_refl _) _
  by_cases h1 : n < 0
  · have R : Hid (rtM n s q = false) := rtM_no (fun h => by have := h.1; omega)
    go_enter Try.func14, Try.ntmps14
    go_wp2
    go_ret
    exact ⟨by rw [R.out]; rfl, hB.out⟩
  by_cases h2 : 1024 < n
  · have R : Hid (rtM n s q = false) := rtM_no (fun h => by have := h.2.1; omega)
    go_enter Try.func14, Try.ntmps14
    go_wp2
    go_ret
    exact ⟨by rw [R.out]; rfl, hB.out⟩
  by_cases h3 : s < -n * 1048576
  · have R : Hid (rtM n s q = false) := rtM_no (fun h => by have := h.2.2.1; omega)
    go_enter Try.func14, Try.ntmps14
    go_wp2
    go_ret
    exact ⟨by rw [R.out]; rfl, hB.out⟩
  by_cases h4 : n * 1048576 < s
  · have R : Hid (rtM n s q = false) := rtM_no (fun h => by have := h.2.2.2.1; omega)
    go_enter Try.func14, Try.ntmps14
    go_wp2
    go_ret
    exact ⟨by rw [R.out]; rfl, hB.out⟩
  by_cases h5 : q < 0
  · have R : Hid (rtM n s q = false) := rtM_no (fun h => by have := h.2.2.2.2.1; omega)
    go_enter Try.func14, Try.ntmps14
    go_wp2
    go_ret
    exact ⟨by rw [R.out]; rfl, hB.out⟩
  by_cases h6 : n * 1099511627776 < q
  · have R : Hid (rtM n s q = false) := rtM_no (fun h => by have := h.2.2.2.2.2.1; omega)
    go_enter Try.func14, Try.ntmps14
    go_wp2
    go_ret
    exact ⟨by rw [R.out]; rfl, hB.out⟩
  have hbd := rtM_bd (n := n) (s := s) (q := q) (by omega) (by omega) (by omega) (by omega) (by omega) (by omega)
  have R : Hid (rtM n s q = (decide (s * s ≤ n * q) && decide ((s - q) % 2 = 0))) := by
    show rtM n s q = _
    unfold rtM
    rw [← Bool.decide_and]
    apply decide_eq_decide.2
    unfold RtM
    exact ⟨fun h => h.2.2.2.2.2.2, fun h => ⟨by omega, by omega, by omega, by omega, by omega, by omega, h.1, h.2⟩⟩
  have e1 : IntKind.i64.wrap (s * s) = s * s := IntWalk.i64_in _ (by omega)
  have e2 : IntKind.i64.wrap (n * q) = n * q := IntWalk.i64_in _ (by omega)
  have e3 : ((s - q).tmod 2 == 0) = decide ((s - q) % 2 = 0) := by
    have : (s - q).tmod 2 = 0 ↔ (s - q) % 2 = 0 := by rw [← Int.dvd_iff_tmod_eq_zero, Int.dvd_iff_emod_eq_zero]
    by_cases h : (s - q) % 2 = 0
    · rw [this.2 h, decide_eq_true h]; rfl
    · rw [decide_eq_false h, beq_eq_false_iff_ne]; exact fun e => h (this.1 e)
  by_cases h7 : s * s ≤ n * q
  · rw [decide_eq_true h7, Bool.true_and] at R
    go_enter Try.func14, Try.ntmps14
    go_wp2
    go_ret
    exact ⟨by rw [R.out]; rfl, hB.out⟩
  · rw [decide_eq_false h7, Bool.false_and] at R
    go_enter Try.func14, Try.ntmps14
    go_wp2
    go_ret
    exact ⟨by rw [R.out]; rfl, hB.out⟩
end Go.Proofs.Ytclfimpcacoefaa
