/- lfsr.Right, holds, stepper and its closure. -/
import Derived.Test.YtcadpgpenjpdiaaXl1
import Derived.Test.YtcadpgpenjpdiaaTv
import Derived.Test.YtcadpgpenjpdiaaBb
import Derived.Shelf.Abstract
import Derived.Below
import Derived.LoopN
import Derived.Deep.OwnRows
import Derived.Laws.MakeOwn
namespace Go.Proofs.Ytcadpgpenjpdiaa
open Go.RowKit Go.Deep

theorem pow20 {n : Nat} (hn : n ≤ 20) : ∃ q : Nat, 2 ^ n = q ∧ 1 ≤ q ∧ q ≤ 1048576 ∧ (2 : Int) ^ n = (q : Int) :=
  ⟨2 ^ n, rfl, Nat.two_pow_pos n, Nat.pow_le_pow_right (n := 2) (j := 20) (by decide) hn, by push_cast; rfl⟩
/-- n and taps are valid. -/
def OKr (n : Int) (t : Nat) : Prop := 1 ≤ n ∧ n ≤ 20 ∧ t / 2 ^ (n.toNat - 1) = 1
instance (n : Int) (t : Nat) : Decidable (OKr n t) := by unfold OKr; infer_instance
theorem NR.of {n : Int} {t : Nat} (h : OKr n t) : ∃ k : Nat, n = k ∧ NR k t := by
  obtain ⟨h1, h2, h3⟩ := h
  obtain ⟨k, rfl⟩ : ∃ k : Nat, n = ((k + 1 : Nat) : Int) := ⟨n.toNat - 1, by omega⟩
  rw [Int.toNat_natCast, Nat.add_sub_cancel] at h3
  refine ⟨k + 1, rfl, by omega, by omega, ?_, ?_⟩
  · have h4 : 0 < 2 ^ k := Nat.two_pow_pos k
    have h5 := Nat.div_add_mod t (2 ^ k)
    have h6 := Nat.mod_lt t h4
    rw [h3] at h5
    rw [Nat.pow_succ]
    omega
  · rw [Nat.add_sub_cancel, Nat.testBit_eq_decide_div_mod_eq, h3]; rfl
theorem NR.ok {n t : Nat} (h : NR n t) : OKr (n : Int) t := by
  obtain ⟨h1, h2, h3, h4⟩ := h
  obtain ⟨k, rfl⟩ : ∃ k : Nat, n = k + 1 := ⟨n - 1, by omega⟩
  refine ⟨by omega, by omega, ?_⟩
  rw [Int.toNat_natCast, Nat.add_sub_cancel]
  rw [Nat.add_sub_cancel, Nat.testBit_eq_decide_div_mod_eq, decide_eq_true_iff] at h4
  have h5 : t / 2 ^ k < 2 := (Nat.div_lt_iff_lt_mul (Nat.two_pow_pos k)).2 (by rw [Nat.pow_succ] at h3; omega)
  generalize t / 2 ^ k = y at *
  omega
/-- n, taps and state are valid. -/
def OKh (n : Int) (t x : Nat) : Prop := OKr n t ∧ x / 2 ^ n.toNat = 0
instance (n : Int) (t x : Nat) : Decidable (OKh n t x) := by unfold OKh; infer_instance
theorem OKh.of {n : Int} {t x : Nat} (h : OKh n t x) : ∃ k : Nat, n = k ∧ NR k t ∧ x < 2 ^ k := by
  obtain ⟨k, rfl, hk⟩ := NR.of h.1
  have h2 := h.2
  rw [Int.toNat_natCast] at h2
  rcases Nat.div_eq_zero_iff.1 h2 with h3 | h3
  · have := Nat.two_pow_pos k; omega
  · exact ⟨k, rfl, hk, h3⟩
theorem NR.okh {n t x : Nat} (h : NR n t) (hx : x < 2 ^ n) : OKh (n : Int) t x :=
  ⟨h.ok, by rw [Int.toNat_natCast]; exact Nat.div_eq_of_lt hx⟩

set_option maxRecDepth 100000 in
set_option maxHeartbeats 1000000 in
theorem right_any (n : Int) (t : Nat) (ht : t < 4294967296) (w : World) : Calls Try.prog 12 #[.int .i64 n, .int .u32 (t : Int)] w fun e w' => e = .returned (.bool (decide (OKr n t))) ∧ w' = w := by
  by_cases h1 : 1 ≤ n
  · by_cases h2 : n ≤ 20
    · obtain ⟨k, rfl⟩ : ∃ k : Nat, n = ((k + 1 : Nat) : Int) := ⟨n.toNat - 1, by omega⟩
      obtain ⟨n, hn⟩ : ∃ n : Nat, n = k + 1 := ⟨_, rfl⟩
      rw [← hn] at h1 h2
      rw [← hn]
      have e1 : (n : Int) - 1 = (k : Int) := by omega
      obtain ⟨q, hq, hq1, hq2, hqi⟩ := pow20 (n := k) (by omega)
      have E : Hid (decide (OKr (n : Int) t) = decide (t / q = 1)) := by
        show _ = _
        rw [decide_eq_decide]
        unfold OKr
        rw [Int.toNat_natCast, show n - 1 = k by omega, hq]
        exact ⟨fun h => h.2.2, fun h => ⟨h1, h2, h⟩⟩
      have hk : k ≤ 19 := by omega
      obtain ⟨y, hy⟩ : ∃ y, t / q = y := ⟨_, rfl⟩
      have hyi : (t : Int) / (q : Int) = (y : Int) := by rw [← hy]; norm_cast
      rw [E.out, hy]
      clear E hn hq hy
      by_cases h : y = 1
      · have hb : ((y : Int) == 1) = true := by rw [beq_iff_eq]; omega
        rw [decide_eq_true h]
        clear h
        go_enter Try.func12, Try.ntmps12
        go_wp2
        go_ret
        exact ⟨rfl, rfl⟩
      · have hb : ((y : Int) == 1) = false := by rw [beq_eq_false_iff_ne]; omega
        rw [decide_eq_false h]
        clear h
        go_enter Try.func12, Try.ntmps12
        go_wp2
        go_ret
        exact ⟨rfl, rfl⟩
    · rw [decide_eq_false (fun h => h2 h.2.1)]
      have h2 : ¬ n ≤ 20 := h2
      go_enter Try.func12, Try.ntmps12
      go_wp2
      go_ret
      exact ⟨rfl, rfl⟩
  · rw [decide_eq_false (fun h => h1 h.1)]
    go_enter Try.func12, Try.ntmps12
    go_wp2
    go_ret
    exact ⟨rfl, rfl⟩

set_option maxRecDepth 100000 in
set_option maxHeartbeats 1000000 in
theorem holds_any (n : Int) (t x : Nat) (ht : t < 4294967296) (hx : x < 4294967296) (w : World) : Calls Try.prog 19 #[.int .i64 n, .int .u32 (t : Int), .int .u32 (x : Int)] w fun e w' => e = .returned (.bool (decide (OKh n t x))) ∧ w' = w := by
  have C := Lib.hid (right_any n t ht w)
  by_cases h1 : OKr n t
  · rw [decide_eq_true h1] at C
    have hr := h1
    obtain ⟨h1, h2, -⟩ := h1
    obtain ⟨k, rfl⟩ : ∃ k : Nat, n = (k : Int) := ⟨n.toNat, by omega⟩
    obtain ⟨q, hq, hq1, hq2, hqi⟩ := pow20 (n := k) (by omega)
    have E : Hid (decide (OKh (k : Int) t x) = decide (x / q = 0)) := by
      show _ = _
      rw [decide_eq_decide]
      unfold OKh
      rw [Int.toNat_natCast, hq]
      exact ⟨fun h => h.2, fun h => ⟨hr, h⟩⟩
    obtain ⟨y, hy⟩ : ∃ y, x / q = y := ⟨_, rfl⟩
    have hyi : (x : Int) / (q : Int) = (y : Int) := by rw [← hy]; norm_cast
    have hk : k ≤ 20 := by omega
    rw [E.out, hy]
    clear E hq hy hr
    by_cases h : y = 0
    · have hb : ((y : Int) == 0) = true := by rw [beq_iff_eq]; omega
      rw [decide_eq_true h]
      clear h
      go_enter Try.func19, Try.ntmps19
      go_wp2_with fail
      refine C.out.mono ?_
      rintro e w1 ⟨rfl, rfl⟩
      go_wp2
      go_ret
      exact ⟨rfl, rfl⟩
    · have hb : ((y : Int) == 0) = false := by rw [beq_eq_false_iff_ne]; omega
      rw [decide_eq_false h]
      clear h
      go_enter Try.func19, Try.ntmps19
      go_wp2_with fail
      refine C.out.mono ?_
      rintro e w1 ⟨rfl, rfl⟩
      go_wp2
      go_ret
      exact ⟨rfl, rfl⟩
  · rw [decide_eq_false h1] at C
    rw [decide_eq_false (fun h => h1 h.1)]
    clear h1
    go_enter Try.func19, Try.ntmps19
    go_wp2_with fail
    refine C.out.mono ?_
    rintro e w1 ⟨rfl, rfl⟩
    go_wp2
    go_ret
    exact ⟨rfl, rfl⟩
end Go.Proofs.Ytcadpgpenjpdiaa
