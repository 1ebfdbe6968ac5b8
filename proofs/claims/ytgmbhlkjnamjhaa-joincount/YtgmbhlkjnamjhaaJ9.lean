/- lotdrawerkeep.JoinCount: the walk. -/
import Derived.Test.YtgmbhlkjnamjhaaJ8
import Derived.Test.YtgmbhlkjnamjhaaX7
import Derived.Test.YtgmbhlkjnamjhaaVm
namespace Go.Proofs.Ytgmbhlkjnamjhaa
open Go.RowKit Go.Deep

theorem cntR_ok {n m k i : Nat} (hn : n ≤ 25) (hm : m ≤ 25) (hi : i ≤ k) : cntR n m k i = (((bc n i * bc m (k - i) : Nat) : Int), 0) := by
  have h : ¬ CB n m k i := by unfold CB; omega
  have e : ((k : Int) - (i : Int)).toNat = k - i := by omega
  unfold cntR
  rw [if_neg h, e, Int.toNat_natCast, Int.toNat_natCast, Int.toNat_natCast]
theorem vs_term (n m k i : Nat) : vs n m k i + bc n i * bc m (k - i) = vs n m k (i + 1) := rfl

set_option maxRecDepth 100000 in
set_option maxHeartbeats 4000000 in
theorem joinCount_walk (n m k : Int) (w : World) :
    Calls Try.prog 5 #[.int .i64 n, .int .i64 m, .int .i64 k] w fun e w' => e = .returned (.bool true) ∧ Below w.heap.size w w' := by
  have CA := Lib.hid (alive7_any w)
  go_enter Try.func5, Try.ntmps5
  go_wp2_with fail
  refine CA.out.mono ?_
  rintro e w1 ⟨rfl, hb1⟩
  have HB := Lib.hid hb1
  clear CA hb1
  rcases (show n < 0 ∨ (0 ≤ n ∧ m < 0) ∨ (0 ≤ n ∧ 0 ≤ m ∧ 25 < n) ∨ (0 ≤ n ∧ 0 ≤ m ∧ n ≤ 25 ∧ 25 < m) ∨ (0 ≤ n ∧ 0 ≤ m ∧ n ≤ 25 ∧ m ≤ 25 ∧ k < 0) ∨ (0 ≤ n ∧ 0 ≤ m ∧ n ≤ 25 ∧ m ≤ 25 ∧ 0 ≤ k ∧ 50 < k) ∨ (0 ≤ n ∧ 0 ≤ m ∧ n ≤ 25 ∧ m ≤ 25 ∧ 0 ≤ k ∧ k ≤ 50) by omega) with h | ⟨h1, h⟩ | ⟨h1, h2, h⟩ | ⟨h1, h2, h3, h⟩ | ⟨h1, h2, h3, h4, h⟩ | ⟨h1, h2, h3, h4, h5, h⟩ | ⟨h1, h2, h3, h4, h5, h6⟩
  case inr.inr.inr.inr.inr.inr =>
    obtain ⟨N, rfl⟩ : ∃ N : Nat, n = (N : Int) := ⟨n.toNat, by omega⟩
    obtain ⟨M, rfl⟩ : ∃ M : Nat, m = (M : Int) := ⟨m.toNat, by omega⟩
    obtain ⟨K, rfl⟩ : ∃ K : Nat, k = (K : Int) := ⟨k.toNat, by omega⟩
    have hv := vandermonde N M K
    have hvb := bc_big (show N + M ≤ 60 by omega) K
    have HV := Lib.hid hv
    have HVB := Lib.hid hvb
    clear hv hvb
    go_wp2_with fail
    go_loopw [7, 39] (fun sv iv wr => ∃ i : Nat, i ≤ K + 1 ∧ sv = .int .i64 (vs N M K i : Nat) ∧ iv = .int .i64 i ∧ wr = w1) (fun _ iv _ => K + 1 - (intOf iv).toNat)
    case atStart => exact ⟨0, by omega, rfl, rfl, rfl⟩
    case round =>
      obtain ⟨i, hi, rfl, rfl, rfl⟩ := hrel
      have hm1 : vs N M K i ≤ vs N M K (K + 1) := vs_mono N M K hi
      have hb1 : vs N M K i ≤ 118264581564861424 := by have := HVB.out; have := HV.out; omega
      by_cases hlt : i < K + 1
      · have hm2 : vs N M K (i + 1) ≤ vs N M K (K + 1) := vs_mono N M K hlt
        have hb2 : vs N M K (i + 1) ≤ 118264581564861424 := by have := HVB.out; have := HV.out; omega
        have C1 := Lib.hid (count_any N M K i wr (by omega))
        have e1 := cntR_ok (n := N) (m := M) (k := K) (i := i) (by omega) (by omega) (by omega)
        have hd : (K : Int) - (i : Int) = ((K - i : Nat) : Int) := by omega
        have C2 := Lib.hid (count_any M N K ((K - i : Nat) : Int) wr (by omega))
        have e2 := cntR_ok (n := M) (m := N) (k := K) (i := K - i) (by omega) (by omega) (by omega)
        rw [show K - (K - i) = i by omega, Nat.mul_comm] at e2
        have ht := vs_term N M K i
        have HT : Hid (vs N M K (i + 1) = vs N M K (i + 1)) := rfl
        obtain ⟨s2, hs2⟩ : ∃ s2, vs N M K (i + 1) = s2 := ⟨_, rfl⟩
        have HS2 := Lib.hid hs2
        rw [hs2] at ht hb2
        rw [e1] at C1
        rw [e2] at C2
        generalize bc N i * bc M (K - i) = c at *
        generalize vs N M K i = s1 at *
        have hti : (s1 : Int) + (c : Int) = (s2 : Int) := by omega
        obtain ⟨D, hD⟩ : ∃ D : Nat, K - i = D := ⟨_, rfl⟩
        rw [hD] at C2 hd
        have hcc : ((c : Int) != (c : Int)) = false := by simp
        have hcb : c ≤ 118264581564861424 := by omega
        have hil : (i : Int) < (K : Int) + 1 := by omega
        unfold ptup at C1 C2
        clear hm1 hm2 ht hs2 e1 e2 HT hD
        go_wp2_with fail
        refine C1.out.mono ?_
        rintro e w2 ⟨rfl, rfl⟩
        go_wp2_with fail
        refine C2.out.mono ?_
        rintro e w3 ⟨rfl, rfl⟩
        clear C1 C2
        go_wp2
        go_roundw
        case rel => exact ⟨i + 1, hlt, by rw [HS2.out], by go_num, by first | rfl | trivial⟩
        case measure => simp [intOf]; omega
      · obtain rfl : i = K + 1 := by omega
        have hv := HV.out
        have C := Lib.hid (eOf_any (N + M) K wr (by omega) (by omega))
        rw [hv] at hb1 ⊢
        have hz : N + M < K → bc (N + M) K = 0 := bc_gt
        have HB2 := Lib.hid HB.out
        push_cast at C
        by_cases hk : N + M < K
        · have h0 := hz hk
          rw [h0] at C hb1 ⊢
          have hk2 : (N : Int) + (M : Int) < (K : Int) := by omega
          clear hz hm1 HV HVB hv
          go_wp2
          go_ret
          exact ⟨rfl, HB.out⟩
        · have hk2 : ¬ (N : Int) + (M : Int) < (K : Int) := by omega
          clear hz hm1 HV HVB hv
          generalize bc (N + M) K = s at *
          have hss : ((s : Int) == (s : Int)) = true := by simp
          go_wp2_with fail
          refine C.out.mono ?_
          rintro e w2 ⟨rfl, hb2⟩
          have HB3 := Lib.hid (HB.out.trans (hb2.mono HB.out.size))
          clear C hb2
          go_wp2
          go_ret
          exact ⟨rfl, HB3.out⟩
  all_goals
    go_wp2
    go_ret
    exact ⟨rfl, HB.out⟩
end Go.Proofs.Ytgmbhlkjnamjhaa
