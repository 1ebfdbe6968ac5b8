/- math/bits.Len64. -/
import Derived.Test.YtnihcpaakbhpcaaB0
import Derived.Deep.QuietTactic
import Derived.BigQuiet
import Derived.WalkSmall
import Derived.Lib.BitFns
import Derived.Deep.DeepCutAuto
namespace Go.Proofs.Ytnihcpaakbhpcaa
open Go.RowKit

theorem bl_pow : ∀ (f x : Nat), x < 2 ^ f → x < 2 ^ Lib.bitLenAux f x ∧ (x ≠ 0 → 2 ^ Lib.bitLenAux f x ≤ 2 * x)
  | 0, x, h => ⟨by simpa [Lib.bitLenAux] using h, fun hx => by simp at h; omega⟩
  | f + 1, x, h => by
    simp only [Lib.bitLenAux]
    by_cases hx : x = 0
    · simp [hx]
    · rw [if_neg hx]
      have ih := bl_pow f (x / 2) (by rw [Nat.pow_succ] at h; omega)
      rw [Nat.add_comm, Nat.pow_succ]
      refine ⟨by omega, fun _ => ?_⟩
      by_cases h2 : x / 2 = 0
      · have : x = 1 := by omega
        subst this
        have : Lib.bitLenAux f (1 / 2) = 0 := by
          cases f <;> simp [Lib.bitLenAux]
        rw [this]; simp
      · have := ih.2 h2
        omega
/-- One value of the table, behind the cut by k bits. -/
theorem len_end {x k : Nat} {b : Int} (hx : x < 18446744073709551616) (hk : 2 ^ k ≤ x ∨ k = 0) (hb : b = ((x / 2 ^ k : Nat) : Int)) (h8 : x / 2 ^ k < 256) : (k : Int) + Lib.len8 b = (Lib.bitLen x : Int) := by
  subst hb
  have e := Lib.len8_eq ⟨x / 2 ^ k, h8⟩
  simp only at e
  rw [e]
  rcases hk with h | h
  · rw [Lib.bitLen_shift k x h (by omega)]; omega
  · subst h; simp

set_option maxRecDepth 100000 in
/-- The table of the lengths of bytes, as the translation writes it. -/
theorem tab_eq : (⟨(([0, 1, 2, 2, 3, 3, 3, 3, 4, 4, 4, 4, 4, 4, 4, 4, 5, 5, 5, 5, 5, 5, 5, 5, 5, 5, 5, 5, 5, 5, 5, 5, 6, 6, 6, 6, 6, 6, 6, 6, 6, 6, 6, 6, 6, 6, 6, 6, 6, 6, 6, 6, 6, 6, 6, 6, 6, 6, 6, 6, 6, 6, 6, 6].append [7, 7, 7, 7, 7, 7, 7, 7, 7, 7, 7, 7, 7, 7, 7, 7, 7, 7, 7, 7, 7, 7, 7, 7, 7, 7, 7, 7, 7, 7, 7, 7, 7, 7, 7, 7, 7, 7, 7, 7, 7, 7, 7, 7, 7, 7, 7, 7, 7, 7, 7, 7, 7, 7, 7, 7, 7, 7, 7, 7, 7, 7, 7, 7]).append ([8, 8, 8, 8, 8, 8, 8, 8, 8, 8, 8, 8, 8, 8, 8, 8, 8, 8, 8, 8, 8, 8, 8, 8, 8, 8, 8, 8, 8, 8, 8, 8, 8, 8, 8, 8, 8, 8, 8, 8, 8, 8, 8, 8, 8, 8, 8, 8, 8, 8, 8, 8, 8, 8, 8, 8, 8, 8, 8, 8, 8, 8, 8, 8].append [8, 8, 8, 8, 8, 8, 8, 8, 8, 8, 8, 8, 8, 8, 8, 8, 8, 8, 8, 8, 8, 8, 8, 8, 8, 8, 8, 8, 8, 8, 8, 8, 8, 8, 8, 8, 8, 8, 8, 8, 8, 8, 8, 8, 8, 8, 8, 8, 8, 8, 8, 8, 8, 8, 8, 8, 8, 8, 8, 8, 8, 8, 8, 8])).toArray⟩ : ByteArray) = Lib.len8tab := by rfl

theorem tab_at (i : Int) (h0 : 0 ≤ i) (h1 : i ≤ 255) : ∃ L : Nat, L = Lib.bitLen i.toNat ∧ L ≤ 8 ∧ ∀ w, (Instr.index 9 (.string Lib.len8tab) (.int .u8 i)).run Try.prog w = .ok (.int .u8 (L : Int)) w :=
  ⟨_, rfl, Lib.bitLen_le8' i h0 h1, fun w => by rw [Lib.run_index_len8tab w 9 .u8 i Try.underlying9 h0 h1, Lib.len8_of i h0 h1]⟩
/-- The length is that of what is left behind a cut by k bits, and k. -/
theorem len_sum {x i : Int} {k L : Nat} (h0 : 0 ≤ x) (h1 : x ≤ 18446744073709551615) (hL : L = Lib.bitLen i.toNat) (hi : i = x / 2 ^ k) (hk : k = 0 ∨ (2 : Int) ^ k ≤ x) : (k : Int) + (L : Int) = (Lib.bitLen x.toNat : Int) := by
  obtain ⟨n, rfl⟩ := Int.eq_ofNat_of_zero_le h0
  have e : i.toNat = n / 2 ^ k := by
    rw [hi, show (2 : Int) ^ k = ((2 ^ k : Nat) : Int) from by simp, ← Int.natCast_ediv, Int.toNat_natCast]
  rw [e] at hL
  rcases hk with rfl | hk
  · simp at hL ⊢; omega
  · have hk' : 2 ^ k ≤ n := by
      rw [show (2 : Int) ^ k = ((2 ^ k : Nat) : Int) from by simp] at hk
      omega
    have := Lib.bitLen_shift k n hk' (by omega)
    simp only [Int.toNat_natCast]
    omega

set_option maxRecDepth 100000 in
set_option maxHeartbeats 1000000 in
theorem len64_int (x : Int) (h0 : 0 ≤ x) (h1 : x ≤ 18446744073709551615) (w : World) :
    Calls Try.prog 78 #[.int .u64 x] w fun e w' => e = .returned (.int .i64 (Lib.bitLen x.toNat : Int)) ∧ w = w' := by
  by_cases a : 4294967296 ≤ x
  · by_cases b : 65536 ≤ x / 4294967296
    · by_cases c : 256 ≤ x / 4294967296 / 65536
      · obtain ⟨L, hL, hL8, hix⟩ := tab_at (x / 4294967296 / 65536 / 256) (by omega) (by omega)
        have E : Hid ((56 : Int) + (L : Int) = (Lib.bitLen x.toNat : Int)) := len_sum (k := 56) h0 h1 hL (by omega) (.inr (by omega))
        clear hL
        go_enter Try.func78, Try.ntmps78
        rw [tab_eq]
        go_wp2
        go_ret
        exact ⟨retI (by rw [← E.out]), rfl⟩
      · obtain ⟨L, hL, hL8, hix⟩ := tab_at (x / 4294967296 / 65536) (by omega) (by omega)
        have E : Hid ((48 : Int) + (L : Int) = (Lib.bitLen x.toNat : Int)) := len_sum (k := 48) h0 h1 hL (by omega) (.inr (by omega))
        clear hL
        go_enter Try.func78, Try.ntmps78
        rw [tab_eq]
        go_wp2
        go_ret
        exact ⟨retI (by rw [← E.out]), rfl⟩
    · by_cases c : 256 ≤ x / 4294967296
      · obtain ⟨L, hL, hL8, hix⟩ := tab_at (x / 4294967296 / 256) (by omega) (by omega)
        have E : Hid ((40 : Int) + (L : Int) = (Lib.bitLen x.toNat : Int)) := len_sum (k := 40) h0 h1 hL (by omega) (.inr (by omega))
        clear hL
        go_enter Try.func78, Try.ntmps78
        rw [tab_eq]
        go_wp2
        go_ret
        exact ⟨retI (by rw [← E.out]), rfl⟩
      · obtain ⟨L, hL, hL8, hix⟩ := tab_at (x / 4294967296) (by omega) (by omega)
        have E : Hid ((32 : Int) + (L : Int) = (Lib.bitLen x.toNat : Int)) := len_sum (k := 32) h0 h1 hL (by omega) (.inr (by omega))
        clear hL
        go_enter Try.func78, Try.ntmps78
        rw [tab_eq]
        go_wp2
        go_ret
        exact ⟨retI (by rw [← E.out]), rfl⟩
  · by_cases b : 65536 ≤ x
    · by_cases c : 256 ≤ x / 65536
      · obtain ⟨L, hL, hL8, hix⟩ := tab_at (x / 65536 / 256) (by omega) (by omega)
        have E : Hid ((24 : Int) + (L : Int) = (Lib.bitLen x.toNat : Int)) := len_sum (k := 24) h0 h1 hL (by omega) (.inr (by omega))
        clear hL
        go_enter Try.func78, Try.ntmps78
        rw [tab_eq]
        go_wp2
        go_ret
        exact ⟨retI (by rw [← E.out]), rfl⟩
      · obtain ⟨L, hL, hL8, hix⟩ := tab_at (x / 65536) (by omega) (by omega)
        have E : Hid ((16 : Int) + (L : Int) = (Lib.bitLen x.toNat : Int)) := len_sum (k := 16) h0 h1 hL (by omega) (.inr (by omega))
        clear hL
        go_enter Try.func78, Try.ntmps78
        rw [tab_eq]
        go_wp2
        go_ret
        exact ⟨retI (by rw [← E.out]), rfl⟩
    · by_cases c : 256 ≤ x
      · obtain ⟨L, hL, hL8, hix⟩ := tab_at (x / 256) (by omega) (by omega)
        have E : Hid ((8 : Int) + (L : Int) = (Lib.bitLen x.toNat : Int)) := len_sum (k := 8) h0 h1 hL (by omega) (.inr (by omega))
        clear hL
        go_enter Try.func78, Try.ntmps78
        rw [tab_eq]
        go_wp2
        go_ret
        exact ⟨retI (by rw [← E.out]), rfl⟩
      · obtain ⟨L, hL, hL8, hix⟩ := tab_at (x) (by omega) (by omega)
        have E : Hid ((0 : Int) + (L : Int) = (Lib.bitLen x.toNat : Int)) := len_sum (k := 0) h0 h1 hL (by omega) (.inl rfl)
        clear hL
        go_enter Try.func78, Try.ntmps78
        rw [tab_eq]
        go_wp2
        go_ret
        exact ⟨retI (by rw [← E.out]; omega), rfl⟩
end Go.Proofs.Ytnihcpaakbhpcaa
