/- lotdrawerref.DRight. -/
import Derived.Test.YtbchdnmpohnkiaaP1
import Derived.Test.YtbchdnmpohnkiaaPn
namespace Go.Proofs.Ytbchdnmpohnkiaa
open Go.RowKit Go.Deep

/-- So far each number stands just once. -/
def okN (p : List Int) (k : Nat) : Bool := decide (p.length ≤ 20) && (List.range k).all fun (j : Nat) => p.count (j : Int) == 1
theorem okN_zero (p : List Int) : okN p 0 = decide (p.length ≤ 20) := by simp [okN]
theorem okN_succ (p : List Int) (k : Nat) : okN p (k + 1) = (okN p k && p.count (k : Int) == 1) := by simp [okN, List.range_succ, Bool.and_assoc]
theorem okN_end (p : List Int) : okN p p.length = decide (Ok p) := by
  rw [Bool.eq_iff_iff]
  simp only [okN, Bool.and_eq_true, decide_eq_true_eq, List.all_eq_true, List.mem_range, beq_iff_eq]
  exact (ok_count p).symm
theorem count_snoc (l : List Int) (x k : Int) : (l ++ [x]).count k = l.count k + if x = k then 1 else 0 := by
  rw [List.count_append]
  by_cases h : x = k
  · subst h; simp
  · simp [h]

set_option maxRecDepth 100000 in
set_option maxHeartbeats 1000000 in
theorem dright_any (A : Option Addr) (ca : Nat) (p : List Int) (w : World) (hp : IP w A ca p) :
    Calls Try.prog 15 #[.slice A p.length ca] w fun e w' => e = .returned (.bool (decide (Ok p))) ∧ w' = w := by
  have hle := hp.le
  have hcap := hp.cap
  have HP := Lib.hid hp
  clear hp
  have HZ := Lib.hid (okN_zero p)
  have HE := Lib.hid (okN_end p)
  go_enter Try.func15, Try.ntmps15
  go_wp2_with fail
  go_loopw [3, 13] (fun bv iv wr => ∃ k : Nat, k ≤ p.length ∧ bv = .bool (okN p k) ∧ iv = .int .i64 k ∧ wr = w) (fun _ iv _ => p.length - (intOf iv).toNat)
  case atStart => exact ⟨0, by omega, by rw [HZ.out]; simp; omega, rfl, rfl⟩
  case round =>
    clear HZ
    obtain ⟨k, hk, rfl, rfl, rfl⟩ := hrel
    by_cases hlt : k < p.length
    · have ES := Lib.hid (okN_succ p k)
      have HC : Hid (∀ j, j < p.length → (p.take (j + 1)).count (k : Int) = (p.take j).count (k : Int) + if p.getD j 0 = (k : Int) then 1 else 0) := fun j hj => by
        show _ = _
        rw [take_snoc hj, count_snoc]
      have HL : Hid (∀ j, (p.take j).count (k : Int) ≤ j) := fun j => Nat.le_trans List.count_le_length (by rw [List.length_take]; omega)
      generalize okN p k = b0 at *
      go_wp2_with fail
      go_loopw [5, 18] (fun nv iv wq => ∃ j : Nat, j ≤ p.length ∧ nv = .int .i64 ((p.take j).count (k : Int) : Nat) ∧ iv = .int .i64 j ∧ wq = wr) (fun _ iv _ => p.length - (intOf iv).toNat)
      case atStart => exact ⟨0, by omega, by simp, rfl, rfl⟩
      case round =>
        obtain ⟨j, hj, rfl, rfl, rfl⟩ := hrel
        by_cases hjl : j < p.length
        · obtain ⟨b, off, rfl, _, hc⟩ := HP.out.il.at (by omega)
          have hcj := hc j hjl
          have E := Lib.hid (HC.out j hjl)
          have hb := HL.out j
          generalize (p.take j).count (k : Int) = c at *
          obtain ⟨y, hy⟩ : ∃ y, p.getD j 0 = y := ⟨_, rfl⟩
          rw [hy] at hcj E
          clear hc hy
          have i1 : (j : Int) < (p.length : Int) := by omega
          by_cases hyk : y = (k : Int)
          · have ty : (y == (k : Int)) = true := by rw [beq_iff_eq]; exact hyk
            rw [if_pos hyk] at E
            clear hyk
            go_wp2
            go_roundw
            case rel => exact ⟨j + 1, by omega, by rw [E.out]; go_num, by go_num, trivial⟩
            case measure => simp [intOf]; omega
          · have ty : (y == (k : Int)) = false := by rw [beq_eq_false_iff_ne]; exact hyk
            rw [if_neg hyk] at E
            clear hyk
            go_wp2
            go_roundw
            case rel => exact ⟨j + 1, by omega, by rw [E.out]; rfl, by go_num, trivial⟩
            case measure => simp [intOf]; omega
        · obtain rfl : p.length = j := by omega
          rw [List.take_length]
          generalize p.count (k : Int) = c at *
          have E1 : Hid (((c : Int) == 1) = (c == 1)) := by
            show _ = _
            rw [Bool.eq_iff_iff, beq_iff_eq, beq_iff_eq]; omega
          cases b0
          · go_wp2
            go_roundw
            case rel => exact ⟨k + 1, by omega, by rw [ES.out]; rfl, by go_num, trivial⟩
            case measure => simp [intOf]; omega
          · go_wp2
            go_roundw
            case rel => exact ⟨k + 1, by omega, by rw [ES.out]; simp [E1.out], by go_num, trivial⟩
            case measure => simp [intOf]; omega
    · obtain rfl : p.length = k := by omega
      rw [HE.out]
      go_wp2
      go_ret
      exact ⟨rfl, rfl⟩
end Go.Proofs.Ytbchdnmpohnkiaa
