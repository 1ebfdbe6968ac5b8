/- lotdrawerkeep.ComboEach: the walk. -/
import Derived.Test.YtfmmhhekkjgmlaaX6
import Derived.Test.YtfmmhhekkjgmlaaXf
import Derived.Test.YtfmmhhekkjgmlaaXg
namespace Go.Proofs.Ytfmmhhekkjgmlaa
open Go.RowKit Go.Deep

/-- What stands in the loop: the combination of rank i and no error; or none, behind the last. -/
def ERound (N K i : Nat) (cv ev : Value) (wr : World) : Prop := ∃ R cr, cv = .slice R (atRC (N : Int) (K : Int) (i : Int)).1.length cr ∧ ev = .int .i64 (atRC (N : Int) (K : Int) (i : Int)).2 ∧ IP wr R cr (atRC (N : Int) (K : Int) (i : Int)).1

set_option maxRecDepth 100000 in
set_option maxHeartbeats 4000000 in
theorem comboEach_walk (n k : Int) (w : World) :
    Calls Try.prog 6 #[.int .i64 n, .int .i64 k] w fun e w' => e = .returned (.bool true) ∧ Below w.heap.size w w' := by
  have CA := Lib.hid (alive5_any w)
  rcases (show n < 0 ∨ (0 ≤ n ∧ 9 < n) ∨ (0 ≤ n ∧ n ≤ 9 ∧ k < 0) ∨ (0 ≤ n ∧ n ≤ 9 ∧ 0 ≤ k ∧ n < k) ∨ (0 ≤ n ∧ n ≤ 9 ∧ 0 ≤ k ∧ k ≤ n) by omega) with h1 | ⟨h1, h2⟩ | ⟨h1, h2, h3⟩ | ⟨h1, h2, h3, h4⟩ | ⟨h1, h2, h3, h4⟩
  case inr.inr.inr.inr =>
    obtain ⟨N, rfl⟩ : ∃ N : Nat, n = (N : Int) := ⟨n.toNat, by omega⟩
    obtain ⟨K, rfl⟩ : ∃ K : Nat, k = (K : Int) := ⟨k.toNat, by omega⟩
    have hN : N ≤ 9 := by omega
    have hKN : K ≤ N := by omega
    have d1 : decide ((N : Int) < 0) = false := decide_eq_false (by omega)
    have d2 : decide ((9 : Int) < (N : Int)) = false := decide_eq_false (by omega)
    have d3 : decide ((K : Int) < 0) = false := decide_eq_false (by omega)
    have d4 : decide ((N : Int) < (K : Int)) = false := decide_eq_false (by omega)
    have d5 : decide (N < K) = false := decide_eq_false (by omega)
    clear h1 h2 h3 h4
    go_enter Try.func6, Try.ntmps6
    go_wp2_with fail
    refine CA.out.mono ?_
    rintro e w1 ⟨rfl, hB1⟩
    have HB := Lib.hid hB1
    have C1 := Lib.hid (eallC_all K (by omega) N w1 hN)
    clear CA hB1
    go_wp2_with fail
    refine C1.out.mono ?_
    rintro e w2 ⟨v, rfl, hO, hB2⟩
    have HB := Lib.hid (HB.out.trans (hB2.mono HB.out.size))
    have hel := eall_len N K
    have hpos : 0 < (eall K N).length := by rw [hel]; exact bc_pos hKN
    have hfew := bc_few hN K
    obtain ⟨g, cap, rfl, hc3, hc4, _⟩ := hO.at hpos
    rw [hel] at hpos hc4 hO ⊢
    have HO := Lib.hid hO
    have C2 := Lib.hid (at_any5 (N : Int) (K : Int) 0 w2 (by omega) (by omega))
    obtain ⟨L, hL⟩ : ∃ L, bc N K = L := ⟨_, rfl⟩
    rw [hL] at hpos hc4 HO hfew ⊢
    have HL := Lib.hid hL
    clear hO hB2 C1 hel hL
    go_wp2_with fail
    refine C2.out.mono ?_
    rintro e w3 ⟨R, cr, rfl, hI, hB3⟩
    have HS : Hid (ERound N K 0 (.slice R (atRC (N : Int) (K : Int) 0).1.length cr) (.int .i64 (atRC (N : Int) (K : Int) 0).2) w3) := ⟨R, cr, rfl, rfl, hI⟩
    have HB := Lib.hid (HB.out.trans (hB3.mono HB.out.size))
    have HO := Lib.hid (HO.out.later hB3)
    have HA := Lib.hid (atRC_in (N := N) (K := K) (i := 0) (by omega) (by rw [HL.out]; exact hpos))
    have hA0 : atRC (N : Int) (K : Int) 0 = (ints (atC N K 0), 0) := HA.out
    rw [hA0] at HS ⊢
    clear hI hB3 C2 hA0 HA
    unfold ltup
    simp only []
    simp only [] at HS
    go_wp2_with fail
    go_loopw [6, 7, 42] (fun cv ev iv wr => ∃ i : Nat, i ≤ L ∧ iv = .int .i64 i ∧ ERound N K i cv ev wr ∧ Below w3.heap.size w3 wr) (fun _ _ iv _ => L - (intOf iv).toNat)
    case atStart => exact ⟨0, by omega, rfl, HS.out, Below.refl _ _⟩
    case round =>
      clear HS
      obtain ⟨i, hi, rfl, hE, hBi⟩ := hrel
      obtain ⟨R6, c6, rfl, rfl, hI6⟩ := hE
      have HBi := Lib.hid hBi
      by_cases hlt : i < L
      · have hib : i < bc N K := by rw [HL.out]; exact hlt
        rw [atRC_in (by omega) hib] at hI6 ⊢
        simp only [] at hI6 ⊢
        obtain ⟨b, c, hcell, hI, _⟩ := (HO.out.later hBi).row (i := i) (by rw [eall_len, HL.out]; exact hlt)
        rw [eall_at N K hib] at hcell hI
        have hinc := atC_inc N hib
        have hln := atC_len N hib
        have hrk := rk_atC N hib
        have C1 := Lib.hid (rank_any5 (N : Int) R6 c6 (ints (atC N K i)) wr hI6)
        rw [rankC_yes (by omega) hinc, hrk] at C1
        have C2 := Lib.hid (iequal_any R6 (some ⟨b, 0, none⟩) c6 c (ints (atC N K i)) (ints (atC N K i)) wr hI6.il hI.il (by rw [ints_len, hln]; omega) (by rw [ints_len, hln]; omega))
        rw [decide_eq_true rfl] at C2
        have C3 : Hid (∀ w2, Below wr.heap.size wr w2 → Calls Try.prog 19 #[.int .i64 N, .slice R6 K c6] w2 (LPost w2 (atRC (N : Int) (K : Int) ((i + 1 : Nat) : Int)))) := fun w2 hb => by
          have := next_any5 (N : Int) R6 c6 (ints (atC N K i)) w2 (hI6.later hb)
          rw [nextC_at (by omega) hinc, ints_len, hln, hrk] at this
          rw [show ((i + 1 : Nat) : Int) = (i : Int) + 1 by omega]
          exact this
        have hle := hI.le
        have hcap := hI.cap
        have hcap6 := hI6.cap
        have hle6 := hI6.le
        rw [ints_len (atC N K i), hln] at C1 C2 hle hle6 ⊢
        rw [hln] at hcell
        unfold ptup at C1
        have t1 : ((i : Int) != (i : Int)) = false := by simp
        clear hI hI6 hinc hln hrk hib hBi
        go_wp2_with fail
        refine C1.out.mono ?_
        rintro e w4 ⟨rfl, rfl⟩
        clear C1
        go_wp2_with fail
        refine C2.out.mono ?_
        rintro e w5 ⟨rfl, hB5⟩
        have HB5 := Lib.hid (HBi.out.trans (hB5.mono HBi.out.size))
        have C3 := Lib.hid (C3.out w5 hB5)
        clear C2 hB5 HBi
        go_wp2_with fail
        refine C3.out.mono ?_
        rintro e w6 ⟨R7, c7, rfl, hI7, hB7⟩
        have HB7 := Lib.hid (HB5.out.trans (hB7.mono HB5.out.size))
        have HE : Hid (ERound N K (i + 1) (.slice R7 (atRC (N : Int) (K : Int) ((i + 1 : Nat) : Int)).1.length c7) (.int .i64 (atRC (N : Int) (K : Int) ((i + 1 : Nat) : Int)).2) w6) := ⟨R7, c7, rfl, rfl, hI7⟩
        unfold ltup
        generalize atRC (N : Int) (K : Int) ((i + 1 : Nat) : Int) = p at *
        obtain ⟨p1, p2⟩ := p
        simp only [] at HE ⊢
        clear C3 hI7 hB7 HB5 hcell t1
        go_wp2
        go_roundw
        case rel => exact ⟨i + 1, by omega, by go_num, HE.out, HB7.out⟩
        case measure => simp [intOf]; omega
      · obtain rfl : L = i := by omega
        rw [atRC_out (by omega) (by rw [HL.out]; exact Nat.le_refl _)] at hI6 ⊢
        have C4 := Lib.hid (of_any (N : Int) (K : Int) wr (by omega))
        unfold ofR at C4
        rw [if_neg (by omega), Int.toNat_natCast, Int.toNat_natCast, HL.out] at C4
        unfold ptup at C4
        simp only [List.length_nil]
        have HB2 := Lib.hid (HB.out.trans (HBi.out.mono HB.out.size))
        have t1 : ((L : Int) == (L : Int)) = true := by simp
        clear hI6 hBi HBi HB HO HL
        go_wp2_with fail
        refine C4.out.mono ?_
        rintro e w4 ⟨rfl, rfl⟩
        clear C4
        go_wp2
        go_ret
        exact ⟨rfl, HB2.out⟩
  all_goals
    go_enter Try.func6, Try.ntmps6
    go_wp2_with fail
    refine CA.out.mono ?_
    rintro e w1 ⟨rfl, hB1⟩
    have HB := Lib.hid hB1
    clear CA hB1
    go_wp2
    go_ret
    exact ⟨rfl, HB.out⟩
end Go.Proofs.Ytfmmhhekkjgmlaa
