/- tape.Fair and lotdrawerref.BFair. -/
import Derived.Test.YtdfhlmacdgmpmaaT2
import Derived.Deep.QuietTactic
import Derived.BigQuiet
import Derived.WalkSmall
namespace Go.Proofs.Ytdfhlmacdgmpmaa
open Go.RowKit

def ftup (r : Bool × Int × Int) : Value := .tuple #[.bool r.1, .int .i64 r.2.1, .int .i64 r.2.2]

set_option maxHeartbeats 1000000 in
theorem fair_any (A : Option Addr) (ca : Nat) (t : List Bool) (w : World) (h : TP w A ca t) :
    Calls Try.prog 12 #[.slice A t.length ca] w fun e w' => e = .returned (ftup (fair t)) ∧ Below w.heap.size w w' := by
  have hl := h.short
  have H := Lib.hid h.tp
  clear h
  go_enter Try.func12, Try.ntmps12
  go_wp2
  go_loopw [5] (fun i wr => ∃ k : Nat, k ≤ t.length ∧ i = .int .i64 ((k : Int) + 2) ∧ fairF t = fsh k (fairF (t.drop k)) ∧ Below w.heap.size w wr) (fun i _ => t.length + 2 - (intOf i).toNat)
  case atStart => exact ⟨0, Nat.zero_le _, rfl, by simp [fsh_zero], Below.refl _ _⟩
  case round =>
    obtain ⟨k, hk, rfl, hf, hB⟩ := hrel
    have HF := Lib.hid hf
    have HB := Lib.hid hB
    clear hf hB
    by_cases hlt : k + 2 ≤ t.length
    · obtain ⟨b, off, rfl, _, hc⟩ := (H.out.later HB.out).at (by omega)
      have e1 := hc k (by omega)
      have e2 := hc (k + 1) (by omega)
      clear hc
      have i1 : (0 : Int) ≤ (k : Int) := by omega
      have i2 : (k : Int) < (t.length : Int) := by omega
      have i3 : (k : Int) + 1 < (t.length : Int) := by omega
      have G : Hid (t.getD k false = t.getD (k + 1) false → fairF t = fsh (k + 2) (fairF (t.drop (k + 2)))) := fun h => HF.out.trans (fair_go hlt h)
      have T : Hid (t.getD k false ≠ t.getD (k + 1) false → fairF t = some (t.getD k false, k + 2)) := fun h => HF.out.trans (fair_hit hlt h)
      clear HF
      generalize t.getD k false = x at *
      generalize t.getD (k + 1) false = y at *
      by_cases he : x = y
      · subst he
        have E := Lib.hid (G.out rfl)
        clear G T
        cases x
        all_goals
          go_wp2
          go_quiet (fail)
          go_wp2
          go_roundw
          case rel => exact ⟨k + 2, by omega, by go_num, E.out, below_drewN HB.out _⟩
          case measure => simp [intOf]; omega
      · have E := Lib.hid (T.out he)
        have hy : (!x) = y := by cases x <;> cases y <;> simp_all
        subst hy
        clear G T he
        cases x
        all_goals
          go_wp2
          go_quiet (fail)
          go_wp2
          go_ret3
          exact ⟨by unfold fair; rw [E.out]; simp [ftup, fansOf], below_drewN HB.out _⟩
    · have E : Hid (fairF t = none) := HF.out.trans (fair_end (by omega))
      go_wp2
      go_ret3
      exact ⟨by unfold fair; rw [E.out]; rfl, HB.out⟩

set_option maxHeartbeats 1000000 in
theorem bfair_any (A : Option Addr) (ca : Nat) (t : List Bool) (w : World) (h : TP w A ca t) :
    Calls Try.prog 13 #[.slice A t.length ca] w fun e w' => e = .returned (ftup (fair t)) ∧ Below w.heap.size w w' := by
  have hl := h.short
  have H := Lib.hid h.tp
  clear h
  go_enter Try.func13, Try.ntmps13
  go_wp2
  go_loopw [5] (fun i wr => ∃ k : Nat, k ≤ t.length ∧ i = .int .i64 (k : Int) ∧ fairF t = fsh k (fairF (t.drop k)) ∧ Below w.heap.size w wr) (fun i _ => t.length - (intOf i).toNat)
  case atStart => exact ⟨0, Nat.zero_le _, rfl, by simp [fsh_zero], Below.refl _ _⟩
  case round =>
    obtain ⟨k, hk, rfl, hf, hB⟩ := hrel
    have HF := Lib.hid hf
    have HB := Lib.hid hB
    clear hf hB
    by_cases hlt : k + 2 ≤ t.length
    · obtain ⟨b, off, rfl, _, hc⟩ := (H.out.later HB.out).at (by omega)
      have e1 := hc k (by omega)
      have e2 := hc (k + 1) (by omega)
      clear hc
      have i1 : (0 : Int) ≤ (k : Int) := by omega
      have i2 : (k : Int) < (t.length : Int) := by omega
      have i3 : (k : Int) + 1 < (t.length : Int) := by omega
      have G : Hid (t.getD k false = t.getD (k + 1) false → fairF t = fsh (k + 2) (fairF (t.drop (k + 2)))) := fun h => HF.out.trans (fair_go hlt h)
      have T : Hid (t.getD k false ≠ t.getD (k + 1) false → fairF t = some (t.getD k false, k + 2)) := fun h => HF.out.trans (fair_hit hlt h)
      clear HF
      generalize t.getD k false = x at *
      generalize t.getD (k + 1) false = y at *
      by_cases he : x = y
      · subst he
        have E := Lib.hid (G.out rfl)
        clear G T
        cases x
        all_goals
          go_wp2
          go_quiet (fail)
          go_wp2
          go_roundw
          case rel => exact ⟨k + 2, by omega, by go_num, E.out, below_drewN HB.out _⟩
          case measure => simp [intOf]; omega
      · have E := Lib.hid (T.out he)
        have hy : (!x) = y := by cases x <;> cases y <;> simp_all
        subst hy
        clear G T he
        cases x
        all_goals
          go_wp2
          go_quiet (fail)
          go_wp2
          go_ret3
          exact ⟨by unfold fair; rw [E.out]; simp [ftup, fansOf], below_drewN HB.out _⟩
    · have E : Hid (fairF t = none) := HF.out.trans (fair_end (by omega))
      go_wp2
      go_ret3
      exact ⟨by unfold fair; rw [E.out]; rfl, HB.out⟩
end Go.Proofs.Ytdfhlmacdgmpmaa
