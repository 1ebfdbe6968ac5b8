/- combo.choose, combo.Of, combo.Right. -/
import Derived.Test.YtojoecoocbjgaaaXn
import Derived.Test.YtojoecoocbjgaaaIv
import Derived.Deep.OwnRows
namespace Go.Proofs.Ytojoecoocbjgaaa
open Go.RowKit Go.Deep

theorem choose_num {a d i b m : Nat} (h : a * d = m) (h2 : m / (i + 1) = b) (hb : m ≤ 9223372036854775807) (hi : i ≤ 60) : Value.int .i64 (wrap64 (Int.tdiv (wrap64 ((a : Int) * (d : Int))) ((i : Int) + 1))) = .int .i64 (b : Int) := by
  rw [castM, h]
  have e : wrap64 (m : Int) = (m : Int) := by unfold wrap64; omega
  rw [e, show (i : Int) + 1 = ((i + 1 : Nat) : Int) by omega, ← Int.ofNat_tdiv, h2]
  have : b ≤ m := by rw [← h2]; exact Nat.div_le_self _ _
  congr 1
  unfold wrap64; omega

set_option maxRecDepth 100000 in
set_option maxHeartbeats 1000000 in
theorem choose_any (N K : Nat) (w : World) (hN : N ≤ 60) (hK : K ≤ 9223372036854775807) :
    Calls Try.prog 32 #[.int .i64 N, .int .i64 K] w fun e w' => e = .returned (.int .i64 (bc N K : Nat)) ∧ w' = w := by
  by_cases hgt : N < K
  · have E := Lib.hid (bc_gt hgt)
    go_enter Try.func32, Try.ntmps32
    go_wp2
    go_ret
    exact ⟨by rw [E.out]; rfl, rfl⟩
  · have hgt' : K ≤ N := by omega
    clear hgt
    by_cases hm : N - K < K
    case' pos =>
      obtain ⟨M, hM⟩ : ∃ M : Nat, (N : Int) - (K : Int) = (M : Int) := ⟨N - K, by omega⟩
      have hMN : M ≤ 60 := by omega
      have HB : Hid (bc N M = bc N K) := by
        have : M = N - K := by omega
        show bc N M = bc N K
        rw [this]; exact bc_symm hgt'
      have hlt : (M : Int) < (K : Int) := by omega
      have hMM : M + M ≤ N := by omega
      clear hgt'
      go_enter Try.func32, Try.ntmps32
      go_wp2_with fail
    case' neg =>
      have hMN : K ≤ 60 := by omega
      have hlt : (K : Int) ≤ (N : Int) - (K : Int) := by omega
      have hMM : K + K ≤ N := by omega
      clear hgt'
      go_enter Try.func32, Try.ntmps32
      go_wp2_with fail
      obtain ⟨M, hMK⟩ : ∃ M, M = K := ⟨K, rfl⟩
      subst hMK
      have HB : Hid (bc N M = bc N M) := rfl
    case' pos => clear hM
    all_goals
      clear hlt hm
      go_loopw [5, 15] (fun cv iv wr => ∃ k : Nat, k ≤ M ∧ cv = .int .i64 (bc N k : Nat) ∧ iv = .int .i64 k ∧ wr = w) (fun _ iv _ => M - (intOf iv).toNat)
      case atStart => exact ⟨0, by omega, by rw [bc_zero]; rfl, rfl, rfl⟩
      case round =>
        obtain ⟨k, hk, rfl, rfl, rfl⟩ := hrel
        by_cases hl : k < M
        · have e1 : (N : Int) - (k : Int) = ((N - k : Nat) : Int) := by omega
          have hs := bc_step N k
          have hd := bc_div N k
          have hbig := bc_big hN (k + 1)
          have hm : bc N k * (N - k) ≤ 9223372036854775807 := by
            rw [hs]
            exact Nat.le_trans (Nat.mul_le_mul hbig (show k + 1 ≤ 30 by omega)) (by omega)
          have hb2 := bc_big hN k
          obtain ⟨d, hdd⟩ : ∃ d, N - k = d := ⟨_, rfl⟩
          rw [hdd] at e1 hs hd hm
          have HD := Lib.hid hd
          obtain ⟨m, hmm⟩ : ∃ m, bc N k * d = m := ⟨_, rfl⟩
          rw [hmm] at hm HD
          have HM := Lib.hid hmm
          clear hs hd hdd hmm hbig HB
          obtain ⟨b, hbb⟩ : ∃ b, bc N (k + 1) = b := ⟨_, rfl⟩
          rw [hbb] at HD
          have HE := Lib.hid hbb
          clear hbb
          generalize bc N k = a at *
          go_wp2
          go_roundw
          case rel => exact ⟨k + 1, by omega, by rw [HE.out]; exact choose_num HM.out HD.out (by omega) (by omega), by go_num, trivial⟩
          case measure => simp [intOf]; omega
        · obtain rfl : M = k := by omega
          go_wp2
          go_ret
          exact ⟨by first | rfl | (rw [HB.out]; rfl), rfl⟩

/-- A number and an error. -/
def ofR (n k : Int) : Int × Int := if n < 0 ∨ 60 < n ∨ k < 0 then (0, 2) else ((bc n.toNat k.toNat : Nat), 0)

set_option maxHeartbeats 1000000 in
theorem of_any (n k : Int) (w : World) (hk : k ≤ 9223372036854775807) :
    Calls Try.prog 31 #[.int .i64 n, .int .i64 k] w fun e w' => e = .returned (ptup (ofR n k)) ∧ w' = w := by
  unfold ofR
  by_cases hbad : n < 0 ∨ 60 < n ∨ k < 0
  · rw [if_pos hbad]
    unfold ptup
    by_cases h1 : n < 0
    · clear hbad
      go_enter Try.func31, Try.ntmps31
      go_wp2
      go_ret2
      exact ⟨rfl, rfl⟩
    · by_cases h2 : 60 < n
      · clear hbad
        go_enter Try.func31, Try.ntmps31
        go_wp2
        go_ret2
        exact ⟨rfl, rfl⟩
      · have h3 : k < 0 := by omega
        clear hbad
        go_enter Try.func31, Try.ntmps31
        go_wp2
        go_ret2
        exact ⟨rfl, rfl⟩
  · rw [if_neg hbad]
    obtain ⟨N, rfl⟩ : ∃ N : Nat, n = (N : Int) := ⟨n.toNat, by omega⟩
    obtain ⟨K, rfl⟩ : ∃ K : Nat, k = (K : Int) := ⟨k.toNat, by omega⟩
    have hN : N ≤ 60 := by omega
    have C := Lib.hid (choose_any N K w hN (by omega))
    clear hbad
    rw [Int.toNat_natCast, Int.toNat_natCast]
    generalize bc N K = b at *
    unfold ptup
    go_enter Try.func31, Try.ntmps31
    go_wp2_with fail
    refine C.out.mono ?_
    rintro e w1 ⟨rfl, rfl⟩
    go_wp2
    go_ret2
    exact ⟨rfl, rfl⟩
end Go.Proofs.Ytojoecoocbjgaaa
