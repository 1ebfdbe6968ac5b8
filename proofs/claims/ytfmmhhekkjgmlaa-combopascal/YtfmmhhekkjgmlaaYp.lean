/- lotdrawerkeep.ComboPascal: the walk. -/
import Derived.Test.YtfmmhhekkjgmlaaX6
namespace Go.Proofs.Ytfmmhhekkjgmlaa
open Go.RowKit Go.Deep

/-- Vandermonde's sum, its first i terms. -/
def vs (n m k : Nat) : Nat → Nat
  | 0 => 0
  | i + 1 => vs n m k i + bc n i * bc m (k - i)
theorem vs_zero (m k : Nat) : ∀ i, vs 0 m k (i + 1) = bc m k
  | 0 => by simp [vs, bc_zero]
  | i + 1 => by rw [vs, vs_zero m k i, bc_none]; omega
theorem vs_step (n m k : Nat) : ∀ i, vs (n + 1) m (k + 1) (i + 1) = vs n m (k + 1) (i + 1) + vs n m k i
  | 0 => by simp [vs, bc_zero]
  | i + 1 => by
    rw [vs, vs_step n m k i, vs.eq_2 n m (k + 1) (i + 1), vs.eq_2 n m k i, bc_succ, Nat.add_sub_add_right, Nat.add_mul]
    omega
theorem vandermonde : ∀ (n m k : Nat), vs n m k (k + 1) = bc (n + m) k
  | 0, m, k => by rw [vs_zero, Nat.zero_add]
  | n + 1, m, 0 => by simp [vs, bc_zero]
  | n + 1, m, k + 1 => by
    rw [vs_step, vandermonde n m (k + 1), vandermonde n m k, show n + 1 + m = n + m + 1 by omega, bc_succ]; omega
theorem vs_mono (n m k : Nat) {i j : Nat} (h : i ≤ j) : vs n m k i ≤ vs n m k j := by
  induction j with
  | zero => obtain rfl : i = 0 := by omega
            omega
  | succ j ih =>
    rcases Nat.lt_or_ge j i with h1 | h1
    · obtain rfl : i = j + 1 := by omega
      omega
    · rw [vs]; have := ih h1; omega

set_option maxHeartbeats 1000000 in
theorem ofIt_any (N K : Nat) (w : World) (hN : N ≤ 60) (hK : K ≤ 9223372036854775807) :
    Calls Try.prog 22 #[.int .i64 N, .int .i64 K] w fun e w' => e = .returned (.int .i64 (bc N K : Nat)) ∧ w' = w := by
  have C := Lib.hid (of_any N K w (by omega))
  unfold ofR at C
  rw [if_neg (by omega), Int.toNat_natCast, Int.toNat_natCast] at C
  have hb := bc_big hN K
  generalize bc N K = z at *
  unfold ptup at C
  go_enter Try.func22, Try.ntmps22
  go_wp2_with fail
  refine C.out.mono ?_
  rintro e w1 ⟨rfl, rfl⟩
  clear C
  go_wp2
  go_ret
  exact ⟨rfl, rfl⟩

set_option maxRecDepth 100000 in
set_option maxHeartbeats 4000000 in
theorem comboPascal_walk (n m k : Int) (w : World) (wn : -9223372036854775808 ≤ n ∧ n ≤ 9223372036854775807) (wm : -9223372036854775808 ≤ m ∧ m ≤ 9223372036854775807) :
    Calls Try.prog 5 #[.int .i64 n, .int .i64 m, .int .i64 k] w fun e w' => e = .returned (.bool true) ∧ Below w.heap.size w w' := by
  have CA := Lib.hid (alive5_any w)
  rcases (show n < 1 ∨ (1 ≤ n ∧ m < 0) ∨ (1 ≤ n ∧ 0 ≤ m ∧ 50 < n) ∨ (1 ≤ n ∧ 0 ≤ m ∧ n ≤ 50 ∧ 50 < m) ∨ (1 ≤ n ∧ 0 ≤ m ∧ n ≤ 50 ∧ m ≤ 50 ∧ 50 < n + m) ∨ (1 ≤ n ∧ 0 ≤ m ∧ n ≤ 50 ∧ m ≤ 50 ∧ n + m ≤ 50 ∧ k < 1) ∨ (1 ≤ n ∧ 0 ≤ m ∧ n ≤ 50 ∧ m ≤ 50 ∧ n + m ≤ 50 ∧ 1 ≤ k ∧ 50 < k) ∨ (1 ≤ n ∧ 0 ≤ m ∧ n ≤ 50 ∧ m ≤ 50 ∧ n + m ≤ 50 ∧ 1 ≤ k ∧ k ≤ 50) by omega) with h1 | ⟨h1, h2⟩ | ⟨h1, h2, h3⟩ | ⟨h1, h2, h3, h4⟩ | ⟨h1, h2, h3, h4, h5⟩ | ⟨h1, h2, h3, h4, h5, h6⟩ | ⟨h1, h2, h3, h4, h5, h6, h7⟩ | ⟨h1, h2, h3, h4, h5, h6, h7⟩
  case inr.inr.inr.inr.inr.inr.inr =>
    obtain ⟨N, rfl⟩ : ∃ N : Nat, n = (N : Int) := ⟨n.toNat, by omega⟩
    obtain ⟨M, rfl⟩ : ∃ M : Nat, m = (M : Int) := ⟨m.toNat, by omega⟩
    obtain ⟨K, rfl⟩ : ∃ K : Nat, k = (K : Int) := ⟨k.toNat, by omega⟩
    have hN : N ≤ 50 := by omega
    have hM : M ≤ 50 := by omega
    have hK : K ≤ 50 := by omega
    have hNM : N + M ≤ 50 := by omega
    have hN1 : 1 ≤ N := by omega
    have hK1 : 1 ≤ K := by omega
    have d1 : decide ((N : Int) < 1) = false := decide_eq_false (by omega)
    have d2 : decide ((M : Int) < 0) = false := decide_eq_false (by omega)
    have d3 : decide ((50 : Int) < (N : Int)) = false := decide_eq_false (by omega)
    have d4 : decide ((50 : Int) < (M : Int)) = false := decide_eq_false (by omega)
    have d5 : decide ((50 : Int) < (N : Int) + (M : Int)) = false := decide_eq_false (by omega)
    have d6 : decide ((K : Int) < 1) = false := decide_eq_false (by omega)
    have d7 : decide ((50 : Int) < (K : Int)) = false := decide_eq_false (by omega)
    have HV := Lib.hid (vandermonde N M K)
    clear h1 h2 h3 h4 h5 h6 h7 wn wm
    go_enter Try.func5, Try.ntmps5
    go_wp2_with fail
    refine CA.out.mono ?_
    rintro e w1 ⟨rfl, hB1⟩
    have HB := Lib.hid hB1
    clear CA hB1
    go_wp2_with fail
    go_loopw [8, 42] (fun sv iv wr => ∃ i : Nat, i ≤ K + 1 ∧ sv = .int .i64 (vs N M K i : Nat) ∧ iv = .int .i64 i ∧ wr = w1) (fun _ iv _ => K + 1 - (intOf iv).toNat)
    case atStart => exact ⟨0, by omega, rfl, rfl, rfl⟩
    case round =>
      obtain ⟨i, hi, rfl, rfl, rfl⟩ := hrel
      by_cases hlt : i < K + 1
      · have C1 := Lib.hid (ofIt_any N i wr (by omega) (by omega))
        have C2 := Lib.hid (ofIt_any M (K - i) wr (by omega) (by omega))
        have hs : vs N M K (i + 1) = vs N M K i + bc N i * bc M (K - i) := rfl
        have hmn := vs_mono N M K (show i + 1 ≤ K + 1 by omega)
        rw [HV.out] at hmn
        have hbig := bc_big (show N + M ≤ 60 by omega) K
        have hb1 := bc_big (show N ≤ 60 by omega) i
        have hb2 := bc_big (show M ≤ 60 by omega) (K - i)
        have e1 : (K : Int) - (i : Int) = ((K - i : Nat) : Int) := by omega
        have e2 : ((bc N i : Nat) : Int) * ((bc M (K - i) : Nat) : Int) = ((bc N i * bc M (K - i) : Nat) : Int) := castM _ _
        obtain ⟨d, hd⟩ : ∃ d, K - i = d := ⟨_, rfl⟩
        rw [hd] at C2 hs hb2 e1 e2
        have HS := Lib.hid hs
        rw [hs] at hmn
        generalize bc N i * bc M d = p at *
        generalize bc N i = x at *
        generalize bc M d = y at *
        generalize vs N M K i = s at *
        clear hs hd
        have hsum : s + p ≤ 118264581564861424 := by omega
        go_wp2_with fail
        refine C1.out.mono ?_
        rintro e w2 ⟨rfl, rfl⟩
        clear C1
        go_wp2_with fail
        refine C2.out.mono ?_
        rintro e w3 ⟨rfl, rfl⟩
        clear C2
        go_wp2
        go_roundw
        case rel => exact ⟨i + 1, by omega, by rw [HS.out]; go_num, by go_num, trivial⟩
        case measure => simp [intOf]; omega
      · obtain rfl : i = K + 1 := by omega
        rw [show vs N M K (K + 1) = bc (N + M) K from HV.out]
        have C1 := Lib.hid (ofIt_any N K wr (by omega) (by omega))
        have C2 := Lib.hid (ofIt_any (N - 1) K wr (by omega) (by omega))
        have C3 := Lib.hid (ofIt_any (N - 1) (K - 1) wr (by omega) (by omega))
        have C4 := Lib.hid (ofIt_any (N + M) K wr (by omega) (by omega))
        have C6 := Lib.hid (ofIt_any N 0 wr (by omega) (by omega))
        rw [bc_zero] at C6
        have hp : bc N K = bc (N - 1) K + bc (N - 1) (K - 1) := by
          obtain ⟨a, rfl⟩ : ∃ a, N = a + 1 := ⟨N - 1, by omega⟩
          obtain ⟨b, rfl⟩ : ∃ b, K = b + 1 := ⟨K - 1, by omega⟩
          rw [bc_succ, Nat.add_sub_cancel, Nat.add_sub_cancel]; omega
        have hb1 := bc_big (show N ≤ 60 by omega) K
        have hb2 := bc_big (show N + M ≤ 60 by omega) K
        have e1 : (N : Int) - 1 = ((N - 1 : Nat) : Int) := by omega
        have e2 : (K : Int) - 1 = ((K - 1 : Nat) : Int) := by omega
        have e3 : (N : Int) + (M : Int) = ((N + M : Nat) : Int) := by omega
        obtain ⟨N1, hN1'⟩ : ∃ a, N - 1 = a := ⟨_, rfl⟩
        obtain ⟨K1, hK1'⟩ : ∃ a, K - 1 = a := ⟨_, rfl⟩
        obtain ⟨NM, hNM'⟩ : ∃ a, N + M = a := ⟨_, rfl⟩
        rw [hN1'] at C2 C3 hp e1
        rw [hK1'] at C3 hp e2
        rw [hNM'] at C4 hb2 e3
        rw [hNM']
        have hNM2 : NM ≤ 50 := by omega
        clear hN1' hK1' hNM' HV d1 d2 d3 d4 d5 d6 d7
        by_cases hkn : N < K
        · generalize bc N K = x at *
          generalize bc N1 K = y at *
          generalize bc N1 K1 = z at *
          generalize bc NM K = u at *
          have t1 : ((x : Int) == (y : Int) + (z : Int)) = true := by rw [beq_iff_eq]; omega
          have t2 : ((x : Int) == (x : Int)) = true := by simp
          have t3 : ((u : Int) == (u : Int)) = true := by simp
          have hxx : y + z ≤ 118264581564861424 := by omega
          clear hp
          go_wp2_with fail
          refine C1.out.mono ?_
          rintro e w2 ⟨rfl, rfl⟩
          go_wp2_with fail
          refine C2.out.mono ?_
          rintro e w3 ⟨rfl, rfl⟩
          go_wp2_with fail
          refine C3.out.mono ?_
          rintro e w4 ⟨rfl, rfl⟩
          go_wp2_with fail
          refine C4.out.mono ?_
          rintro e w5 ⟨rfl, rfl⟩
          clear C2 C3 C4
          go_wp2_with fail
          refine C6.out.mono ?_
          rintro e w8 ⟨rfl, rfl⟩
          clear C1 C6
          go_wp2
          go_ret
          exact ⟨rfl, HB.out⟩
        · have C5 := Lib.hid (ofIt_any N (N - K) wr (by omega) (by omega))
          rw [bc_symm (by omega)] at C5
          have e4 : (N : Int) - (K : Int) = ((N - K : Nat) : Int) := by omega
          obtain ⟨NK, hNK'⟩ : ∃ a, N - K = a := ⟨_, rfl⟩
          rw [hNK'] at C5 e4
          clear hNK'
          generalize bc N K = x at *
          generalize bc N1 K = y at *
          generalize bc N1 K1 = z at *
          generalize bc NM K = u at *
          have t1 : ((x : Int) == (y : Int) + (z : Int)) = true := by rw [beq_iff_eq]; omega
          have t2 : ((x : Int) == (x : Int)) = true := by simp
          have t3 : ((u : Int) == (u : Int)) = true := by simp
          have hxx : y + z ≤ 118264581564861424 := by omega
          clear hp
          go_wp2_with fail
          refine C1.out.mono ?_
          rintro e w2 ⟨rfl, rfl⟩
          go_wp2_with fail
          refine C2.out.mono ?_
          rintro e w3 ⟨rfl, rfl⟩
          go_wp2_with fail
          refine C3.out.mono ?_
          rintro e w4 ⟨rfl, rfl⟩
          go_wp2_with fail
          refine C4.out.mono ?_
          rintro e w5 ⟨rfl, rfl⟩
          clear C2 C3 C4
          go_wp2_with fail
          refine C1.out.mono ?_
          rintro e w6 ⟨rfl, rfl⟩
          go_wp2_with fail
          refine C5.out.mono ?_
          rintro e w7 ⟨rfl, rfl⟩
          go_wp2_with fail
          refine C6.out.mono ?_
          rintro e w8 ⟨rfl, rfl⟩
          clear C1 C6
          go_wp2
          go_ret
          exact ⟨rfl, HB.out⟩
  all_goals
    go_enter Try.func5, Try.ntmps5
    go_wp2_with fail
    refine CA.out.mono ?_
    rintro e w1 ⟨rfl, hB1⟩
    have HB := Lib.hid hB1
    clear CA hB1
    go_wp2
    go_ret
    exact ⟨rfl, HB.out⟩
end Go.Proofs.Ytfmmhhekkjgmlaa
