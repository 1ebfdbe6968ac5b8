/- lotdrawerref.PWrong. -/
import Derived.Test.YtclfimpcacoefaaMo2
namespace Go.Proofs.Ytclfimpcacoefaa
open Go.RowKit Go.Deep

/-- Is a number too great: so far. -/
def bad (l : List Int) (k : Nat) : Bool := decide (400 < l.length) || !decide (sin (l.take k))
theorem bad_zero (l : List Int) : bad l 0 = decide (400 < l.length) := by
  unfold bad
  rw [decide_eq_true (show sin (l.take 0) from fun x hx => by simp at hx)]; simp
theorem bad_succ {l : List Int} {k : Nat} (hk : k < l.length) : bad l (k + 1) = (bad l k || decide (1048576 < l.getD k 0) || decide (l.getD k 0 < -1048576)) := by
  unfold bad
  by_cases h : sin (l.take k)
  · rw [decide_eq_true h]
    by_cases h1 : -1048576 ≤ l.getD k 0 ∧ l.getD k 0 ≤ 1048576
    · rw [decide_eq_true (sin_succ hk h h1), decide_eq_false (show ¬ 1048576 < l.getD k 0 by omega), decide_eq_false (show ¬ l.getD k 0 < -1048576 by omega)]; simp
    · have : ¬ sin (l.take (k + 1)) := fun h2 => h1 (by
        have := sin_at h2 (k := k) (by rw [List.length_take]; omega)
        have e : (l.take (k + 1)).getD k 0 = l.getD k 0 := by
          rw [List.getD_eq_getElem?_getD, List.getD_eq_getElem?_getD, List.getElem?_take, if_pos (by omega)]
        rwa [e] at this)
      rw [decide_eq_false this]
      by_cases h3 : 1048576 < l.getD k 0
      · rw [decide_eq_true h3]; simp
      · rw [decide_eq_true (show l.getD k 0 < -1048576 by omega)]; simp
  · have : ¬ sin (l.take (k + 1)) := fun h2 => h (fun x hx => h2 x (by
      have e : l.take (k + 1) = l.take k ++ [l.getD k 0] := by
        rw [List.take_succ_eq_append_getElem hk]; simp [List.getD_eq_getElem?_getD, hk]
      rw [e]; exact List.mem_append_left _ hx))
    rw [decide_eq_false h, decide_eq_false this]; simp
theorem bad_all (l : List Int) : bad l l.length = !decide (okl l) := by
  unfold bad okl
  rw [List.take_length]
  by_cases h : l.length ≤ 400
  · by_cases h2 : sin l
    · rw [decide_eq_true h2, decide_eq_true (show l.length ≤ 400 ∧ sin l from ⟨h, h2⟩), decide_eq_false (show ¬ 400 < l.length by omega)]; rfl
    · rw [decide_eq_false h2, decide_eq_false (show ¬ (l.length ≤ 400 ∧ sin l) from fun x => h2 x.2)]; simp
  · rw [decide_eq_false (show ¬ (l.length ≤ 400 ∧ sin l) from fun x => h x.1), decide_eq_true (show 400 < l.length by omega)]; rfl

set_option maxRecDepth 100000 in
set_option maxHeartbeats 2000000 in
theorem pwrong_any (A : Option Addr) (ca : Nat) (l : List Int) (w : World) (hl : IP w A ca l) :
    Calls Try.prog 13 #[.slice A l.length ca] w fun e w' => e = .returned (.bool (!decide (okl l))) ∧ Below w.heap.size w w' := by
  have hle := hl.le
  have hcap := hl.cap
  have HL := Lib.hid hl
  have HZ := Lib.hid (bad_zero l)
  have tz : decide ((400 : Int) < (l.length : Int)) = bad l 0 := by
    rw [bad_zero]; apply decide_eq_decide.2; omega
  clear hl
  go_enter Try.func13, Try.ntmps13
  go_wp2
  go_loopw [3, 11] (fun i b wr => ∃ k : Nat, k ≤ l.length ∧ i = .bool (bad l k) ∧ b = .int .i64 k ∧ Below w.heap.size w wr) (fun _ i _ => l.length - (intOf i).toNat)
  case atStart => exact ⟨0, by omega, rfl, rfl, Below.refl _ _⟩
  case round =>
    obtain ⟨k, hk, rfl, rfl, hB⟩ := hrel
    have HB := Lib.hid hB
    clear hB tz
    by_cases hlt : k < l.length
    · obtain ⟨b, off, rfl, _, hcell⟩ := (HL.out.later HB.out).il.at (by omega)
      have hci := hcell k hlt
      have HS := Lib.hid (bad_succ hlt)
      clear hcell
      generalize bad l k = c at *
      generalize l.getD k 0 = x at *
      cases c with
      | true =>
        rw [Bool.true_or, Bool.true_or] at HS
        go_wp2
        go_roundw
        case rel => exact ⟨k + 1, by omega, by rw [HS.out], by go_num, HB.out⟩
        case measure => simp [intOf]; omega
      | false =>
        by_cases h1 : 1048576 < x
        · rw [decide_eq_true h1, Bool.false_or, Bool.true_or] at HS
          go_wp2
          go_roundw
          case rel => exact ⟨k + 1, by omega, by rw [HS.out], by go_num, HB.out⟩
          case measure => simp [intOf]; omega
        · by_cases h2 : x < -1048576
          · rw [decide_eq_true h2, Bool.or_true] at HS
            go_wp2
            go_roundw
            case rel => exact ⟨k + 1, by omega, by rw [HS.out], by go_num, HB.out⟩
            case measure => simp [intOf]; omega
          · rw [decide_eq_false h1, decide_eq_false h2, Bool.or_false, Bool.or_false] at HS
            go_wp2
            go_roundw
            case rel => exact ⟨k + 1, by omega, by rw [HS.out], by go_num, HB.out⟩
            case measure => simp [intOf]; omega
    · obtain rfl : k = l.length := by omega
      have R := Lib.hid (bad_all l)
      go_wp2
      go_ret
      exact ⟨by rw [R.out]; rfl, HB.out⟩
end Go.Proofs.Ytclfimpcacoefaa
