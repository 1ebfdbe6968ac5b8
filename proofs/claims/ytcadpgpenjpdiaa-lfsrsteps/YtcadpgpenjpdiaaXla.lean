/- lotdrawerref.NRight, NStep, NPeriod. -/
import Derived.Test.YtcadpgpenjpdiaaXl2
namespace Go.Proofs.Ytcadpgpenjpdiaa
open Go.RowKit Go.Deep

theorem NR.iff {n t : Nat} (h1 : 1 ≤ n) (h2 : n ≤ 20) : OKr (n : Int) t ↔ 2 ^ (n - 1) ≤ t ∧ t < 2 ^ n := by
  obtain ⟨k, rfl⟩ : ∃ k, n = k + 1 := ⟨n - 1, by omega⟩
  unfold OKr
  rw [Int.toNat_natCast, Nat.add_sub_cancel, Nat.pow_succ]
  have h4 : 0 < 2 ^ k := Nat.two_pow_pos k
  have h5 := Nat.div_add_mod t (2 ^ k)
  have h6 := Nat.mod_lt t h4
  constructor
  · rintro ⟨-, -, h3⟩
    rw [h3] at h5
    omega
  · rintro ⟨a, b⟩
    refine ⟨by omega, by omega, ?_⟩
    have c1 : t / 2 ^ k < 2 := (Nat.div_lt_iff_lt_mul h4).2 (by omega)
    have c2 : 1 ≤ t / 2 ^ k := (Nat.le_div_iff_mul_le h4).2 (by omega)
    generalize t / 2 ^ k = y at *
    omega
set_option maxRecDepth 100000 in
set_option maxHeartbeats 1000000 in
theorem nright_any (n : Int) (t x : Nat) (ht : t < 4294967296) (hx : x < 4294967296) (w : World) : Calls Try.prog 13 #[.int .i64 n, .int .u32 (t : Int), .int .u32 (x : Int)] w fun e w' => e = .returned (.bool (decide (OKh n t x))) ∧ w' = w := by
  by_cases h1 : 0 < n
  · by_cases h2 : n < 21
    · obtain ⟨k, rfl⟩ : ∃ k : Nat, n = ((k + 1 : Nat) : Int) := ⟨n.toNat - 1, by omega⟩
      have HI := NR.iff (n := k + 1) (t := t) (by omega) (by omega)
      rw [Nat.add_sub_cancel] at HI
      have HX : (x / 2 ^ (k + 1) = 0) ↔ x < 2 ^ (k + 1) := by
        rw [Nat.div_eq_zero_iff]
        have := Nat.two_pow_pos (k + 1)
        constructor
        · rintro (h | h)
          · omega
          · exact h
        · exact .inr
      obtain ⟨n, hn⟩ : ∃ n : Nat, n = k + 1 := ⟨_, rfl⟩
      rw [← hn] at h1 h2 HI HX
      rw [← hn]
      have e1 : (n : Int) - 1 = (k : Int) := by omega
      obtain ⟨q, hq, hq1, hq2, hqi⟩ := pow20 (n := k) (by omega)
      obtain ⟨r, hr, hr1, hr2, hri⟩ := pow20 (n := n) (by omega)
      rw [hq, hr] at HI
      rw [hr] at HX
      have E : Hid (OKh (n : Int) t x ↔ (q ≤ t ∧ t < r) ∧ x < r) := by
        show _ ↔ _
        unfold OKh
        rw [Int.toNat_natCast, hr, HI, HX]
      have hk : k ≤ 19 := by omega
      have hn20 : n ≤ 20 := by omega
      clear HI HX hn hq hr
      by_cases a1 : (t : Int) < (r : Int)
      · by_cases a2 : (q : Int) ≤ (t : Int)
        · by_cases a3 : (x : Int) < (r : Int)
          · rw [decide_eq_true (E.out.2 ⟨⟨by omega, by omega⟩, by omega⟩)]
            go_enter Try.func13, Try.ntmps13
            go_wp2
            go_ret
            exact ⟨rfl, rfl⟩
          · rw [decide_eq_false (fun h => a3 (by have := (E.out.1 h).2; omega))]
            go_enter Try.func13, Try.ntmps13
            go_wp2
            go_ret
            exact ⟨rfl, rfl⟩
        · rw [decide_eq_false (fun h => a2 (by have := (E.out.1 h).1.1; omega))]
          go_enter Try.func13, Try.ntmps13
          go_wp2
          go_ret
          exact ⟨rfl, rfl⟩
      · rw [decide_eq_false (fun h => a1 (by have := (E.out.1 h).1.2; omega))]
        go_enter Try.func13, Try.ntmps13
        go_wp2
        go_ret
        exact ⟨rfl, rfl⟩
    · rw [decide_eq_false (fun h => h2 (by have := h.1.2.1; omega))]
      go_enter Try.func13, Try.ntmps13
      go_wp2
      go_ret
      exact ⟨rfl, rfl⟩
  · rw [decide_eq_false (fun h => h1 (by have := h.1.1; omega))]
    go_enter Try.func13, Try.ntmps13
    go_wp2
    go_ret
    exact ⟨rfl, rfl⟩
end Go.Proofs.Ytcadpgpenjpdiaa
