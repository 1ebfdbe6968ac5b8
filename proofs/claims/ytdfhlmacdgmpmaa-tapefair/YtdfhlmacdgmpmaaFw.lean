/- lotdrawerkeep.TapeFair: the walk. -/
import Derived.Test.YtdfhlmacdgmpmaaFm
namespace Go.Proofs.Ytdfhlmacdgmpmaa
open Go.RowKit Go.Deep

theorem pow_facts12 {n : Nat} (hn : n ≤ 12) : ∃ q : Nat, 2 ^ n = q ∧ q ≤ 4096 ∧ (2 : Int) ^ n = (q : Int) :=
  ⟨2 ^ n, rfl, Nat.pow_le_pow_right (n := 2) (j := 12) (by omega) hn, by simp⟩
/-- The ways of a round. -/
theorem fair_cases (n set x : Nat) : (cnt (bitsOf x n) ≠ set ∧ runF n set (x + 1) = runF n set x) ∨
    (cnt (bitsOf x n) = set ∧ ((fair (bitsOf x n) = (false, 0, 7) ∧ runF n set (x + 1) = runF n set x) ∨ (∃ u : Nat, fair (bitsOf x n) = (true, (u : Int), 0) ∧ runF n set (x + 1) = runF n set x + 1) ∨ (∃ u : Nat, fair (bitsOf x n) = (false, (u : Int), 0) ∧ runF n set (x + 1) = runF n set x - 1))) := by
  rw [runF]
  unfold cF fair
  by_cases h : cnt (bitsOf x n) = set
  · right
    refine ⟨h, ?_⟩
    rw [if_pos h]
    cases fairF (bitsOf x n) with
    | none => exact .inl ⟨rfl, by simp [sgn]⟩
    | some p =>
      obtain ⟨b, u⟩ := p
      cases b
      · exact .inr (.inr ⟨u, rfl, by simp [sgn]; omega⟩)
      · exact .inr (.inl ⟨u, rfl, by simp [sgn]⟩)
  · left
    exact ⟨h, by rw [if_neg h]; omega⟩

set_option maxRecDepth 100000 in
set_option maxHeartbeats 2000000 in
theorem tapeFair_good (n set : Nat) (w : World) (h1 : n ≤ 12) (h2 : set ≤ n) :
    Calls Try.prog 6 #[.int .i64 n, .int .i64 set] w fun e w' => e = .returned (.bool true) ∧ Below w.heap.size w w' := by
  have CA := Lib.hid (alive2_any w)
  obtain ⟨q, eq, hq, eq2⟩ := pow_facts12 h1
  have EQ := Lib.hid eq
  clear eq
  have d1 : decide ((n : Int) < 0) = false := by simp
  have d2 : decide ((12 : Int) < (n : Int)) = false := by simp; omega
  have d3 : decide ((set : Int) < 0) = false := by simp
  have d4 : decide (n < set) = false := by simp; omega
  go_enter Try.func6, Try.ntmps6
  go_wp2_with fail
  refine CA.out.mono ?_
  rintro e w1 ⟨rfl, hB1⟩
  have HB1 := Lib.hid hB1
  clear CA hB1
  go_wp2_with fail
  clear eq2 d1 d2 d3 d4
  go_loopw [5, 33] (fun tv xv wr => ∃ x : Nat, x ≤ q ∧ tv = .int .i64 (runF n set x) ∧ xv = .int .i64 x ∧ Below w.heap.size w wr) (fun _ xv _ => q - (intOf xv).toNat)
  case atStart => exact ⟨0, by omega, rfl, rfl, HB1.out⟩
  case round =>
    clear HB1
    obtain ⟨x, hx, rfl, rfl, hB⟩ := hrel
    have hle := runF_le n set x
    have HB := Lib.hid hB
    clear hB
    by_cases hx2 : x < q
    · have C1 := Lib.hid (bits_any x n wr (by omega) (by omega))
      have W := Lib.hid (fair_cases n set x)
      generalize runF n set x = r at *
      go_wp2_with fail
      refine C1.out.mono ?_
      rintro e w2 ⟨rfl, hb2, hB2⟩
      have HB2 : Hid (Below w.heap.size w w2) := HB.out.trans (hB2.mono HB.out.size)
      have HTP := Lib.hid (bits_tp (by omega) hb2)
      clear hb2 hB2 C1 HB
      go_wp2_with fail
      go_loop [8, 41] (fun mv jv => ∃ j : Nat, j ≤ n ∧ mv = .int .i64 (cnt ((bitsOf x n).take j) : Nat) ∧ jv = .int .i64 j) (fun _ jv => n - (intOf jv).toNat)
      case atStart => exact ⟨0, by omega, rfl, rfl⟩
      case round =>
        obtain ⟨j, hj, rfl, rfl⟩ := hrel
        have hcl := cnt_le ((bitsOf x n).take j)
        have hcl2 : ((bitsOf x n).take j).length ≤ 12 := by simp; omega
        by_cases hj2 : j < n
        · obtain ⟨b, off, hA, _, hc⟩ := HTP.out.tp.at (by rw [bitsOf_len]; omega)
          simp only [Option.some.injEq, Addr.mk.injEq, and_true] at hA
          obtain ⟨rfl, rfl⟩ := hA
          have hci := hc j (by rw [bitsOf_len]; exact hj2)
          rw [Nat.zero_add] at hci
          have E := Lib.hid (cnt_take_succ (t := bitsOf x n) (k := j) (by rw [bitsOf_len]; exact hj2))
          clear hc
          generalize cnt ((bitsOf x n).take j) = c at *
          generalize (bitsOf x n).getD j false = bt at *
          cases bt
          · go_wp2
            go_round
            case rel => exact ⟨j + 1, by omega, by rw [E.out]; rfl, by go_num⟩
            case measure => simp [intOf]; omega
          · go_wp2
            go_round
            case rel => exact ⟨j + 1, by omega, by rw [E.out]; go_num, by go_num⟩
            case measure => simp [intOf]; omega
        · obtain rfl : n = j := by omega
          have C2 := Lib.hid (fair_any _ _ _ _ HTP.out)
          rw [bitsOf_len] at C2
          unfold ftup at C2
          have ec : (bitsOf x n).take n = bitsOf x n := List.take_of_length_le (by rw [bitsOf_len]; exact Nat.le_refl _)
          rw [ec] at hcl ⊢
          clear ec
          have hcm : cnt (bitsOf x n) ≤ 12 := by rw [bitsOf_len] at hcl; omega
          clear hcl hcl2
          rcases W.out with ⟨hc, hr⟩ | ⟨hc, ⟨hf, hr⟩ | ⟨u, hf, hr⟩ | ⟨u, hf, hr⟩⟩
          · have E := Lib.hid hr
            have hne : ((cnt (bitsOf x n) : Int) != (set : Int)) = true := neq_yes hc
            clear hr hc C2 W
            generalize cnt (bitsOf x n) = c at *
            go_wp2
            go_roundw
            case rel => exact ⟨x + 1, by omega, by rw [E.out], by go_num, HB2.out⟩
            case measure => simp [intOf]; omega
          · rw [hf] at C2
            have E := Lib.hid hr
            clear hr
            generalize cnt (bitsOf x n) = c at *
            subst hc
            go_wp2_with fail
            refine C2.out.mono ?_
            rintro e w3 ⟨rfl, hB3⟩
            have HB3 : Hid (Below w.heap.size w w3) := HB2.out.trans (hB3.mono HB2.out.size)
            clear hB3
            go_wp2
            go_roundw
            case rel => exact ⟨x + 1, by omega, by rw [E.out], by go_num, HB3.out⟩
            case measure => simp [intOf]; omega
          · rw [hf] at C2
            have E := Lib.hid hr
            clear hr
            generalize cnt (bitsOf x n) = c at *
            subst hc
            go_wp2_with fail
            refine C2.out.mono ?_
            rintro e w3 ⟨rfl, hB3⟩
            have HB3 : Hid (Below w.heap.size w w3) := HB2.out.trans (hB3.mono HB2.out.size)
            clear hB3
            go_wp2
            go_roundw
            case rel => exact ⟨x + 1, by omega, by rw [E.out], by go_num, HB3.out⟩
            case measure => simp [intOf]; omega
          · rw [hf] at C2
            have E := Lib.hid hr
            clear hr
            generalize cnt (bitsOf x n) = c at *
            subst hc
            go_wp2_with fail
            refine C2.out.mono ?_
            rintro e w3 ⟨rfl, hB3⟩
            have HB3 : Hid (Below w.heap.size w w3) := HB2.out.trans (hB3.mono HB2.out.size)
            clear hB3
            go_wp2
            go_roundw
            case rel => exact ⟨x + 1, by omega, by rw [E.out], by go_num, HB3.out⟩
            case measure => simp [intOf]; omega
    · obtain rfl : q = x := by omega
      have E : Hid (runF n set q = 0) := by
        show runF n set q = 0
        rw [← EQ.out]; exact runF_zero h1 (by omega)
      rw [E.out] at hle ⊢
      go_wp2
      go_ret
      exact ⟨rfl, HB.out⟩

set_option maxHeartbeats 400000 in
theorem tapeFair_bad (n set : Int) (w : World) (h : n < 0 ∨ (0 ≤ n ∧ 12 < n) ∨ (0 ≤ n ∧ n ≤ 12 ∧ set < 0) ∨ (0 ≤ n ∧ n ≤ 12 ∧ 0 ≤ set ∧ n < set)) :
    Calls Try.prog 6 #[.int .i64 n, .int .i64 set] w fun e w' => e = .returned (.bool true) ∧ Below w.heap.size w w' := by
  have CA := Lib.hid (alive2_any w)
  rcases h with h | ⟨h, h2⟩ | ⟨h, h2, h3⟩ | ⟨h, h2, h3, h4⟩
  all_goals
    go_enter Try.func6, Try.ntmps6
    go_wp2_with fail
    refine CA.out.mono ?_
    rintro e w1 ⟨rfl, hB1⟩
    have HB1 := Lib.hid hB1
    clear CA hB1
    go_wp2
    go_ret
    exact ⟨rfl, HB1.out⟩
theorem tapeFair_walk (n set : Int) (w : World) :
    Calls Try.prog 6 #[.int .i64 n, .int .i64 set] w fun e w' => e = .returned (.bool true) ∧ Below w.heap.size w w' := by
  by_cases h : 0 ≤ n ∧ n ≤ 12 ∧ 0 ≤ set ∧ set ≤ n
  · obtain ⟨m, rfl⟩ : ∃ m : Nat, n = m := ⟨n.toNat, by omega⟩
    obtain ⟨s, rfl⟩ : ∃ s : Nat, set = s := ⟨set.toNat, by omega⟩
    exact tapeFair_good m s w (by omega) (by omega)
  · exact tapeFair_bad n set w (by omega)
end Go.Proofs.Ytdfhlmacdgmpmaa
