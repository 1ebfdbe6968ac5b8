/- tape.binary and math/bits.Len. -/
import Derived.Test.YtdfhlmacdgmpmaaTm
import Derived.Test.YtdfhlmacdgmpmaaTe
import Derived.Lib.BitFns
namespace Go.Proofs.Ytdfhlmacdgmpmaa
open Go.RowKit

theorem or_one (x : Nat) (hx : x < 1152921504606846976) : bits .or .i64 ((x : Int) * 2) 1 = ((2 * x + 1 : Nat) : Int) := by
  have e : (x : Int) * 2 = ((2 * x : Nat) : Int) := by omega
  have h2 : 2 * x ||| 1 = 2 * x + 1 := by
    have := Nat.two_pow_add_eq_or_of_lt (i := 1) (b := 1) (by omega) x
    simpa using this.symm
  rw [e]
  show IntKind.i64.wrap ((BitVec.ofInt 64 ((2 * x : Nat) : Int) ||| BitVec.ofInt 64 ((1 : Nat) : Int)).toNat : Int) = _
  rw [BitVec.toNat_or, BitVec.ofInt_natCast, BitVec.ofInt_natCast, BitVec.toNat_ofNat, BitVec.toNat_ofNat, Nat.mod_eq_of_lt (by omega), Nat.mod_eq_of_lt (by omega), h2]
  have : IntKind.i64.wrap ((2 * x + 1 : Nat) : Int) = ((2 * x + 1 : Nat) : Int) := by
    simp [IntKind.wrap, IntKind.bits, IntKind.signed]; omega
  exact this

set_option maxHeartbeats 400000 in
theorem binary_any (A : Option Addr) (ca : Nat) (t : List Bool) (w : World) (h : Tp w A t) (hl : t.length ≤ 60) :
    Calls Try.prog 20 #[.slice A t.length ca] w fun e w' => e = .returned (.int .i64 (bn t : Int)) ∧ w = w' := by
  go_enter Try.func20, Try.ntmps20
  go_wp2
  go_loop [3, 8] (fun x i => ∃ k : Nat, k ≤ t.length ∧ i = .int .i64 k ∧ x = .int .i64 (bn (t.take k) : Int)) (fun _ i => t.length - (intOf i).toNat)
  case atStart => exact ⟨0, Nat.zero_le _, rfl, rfl⟩
  case round =>
    obtain ⟨k, hk, rfl, rfl⟩ := hrel
    have H := Lib.hid h
    clear h
    by_cases hlt : k < t.length
    · obtain ⟨b, off, rfl, _, hc⟩ := H.out.at (by omega)
      have hci := hc k hlt
      clear hc
      have hb : bn (t.take k) < 1152921504606846976 := by
        have := bn_lt (t.take k)
        have h2 : 2 ^ (t.take k).length ≤ 2 ^ 60 := Nat.pow_le_pow_right (by omega) (by simp; omega)
        omega
      have E := Lib.hid (bn_take_succ hlt)
      generalize bn (t.take k) = x at *
      generalize t.getD k false = bt at *
      cases bt
      · go_wp2
        go_round
        case rel => exact ⟨k + 1, by omega, by go_num, by rw [E.out]; go_num⟩
        case measure => simp [intOf]; omega
      · have O := Lib.hid (or_one x hb)
        go_wp2
        go_round
        case rel => exact ⟨k + 1, by omega, by go_num, by rw [E.out, O.out]; rfl⟩
        case measure => simp [intOf]; omega
    · go_wp2
      go_ret
      exact ⟨retI (by rw [List.take_of_length_le (by omega)]), rfl⟩
/-- One value of the table, behind the cut by k bits. -/
theorem len_end {x k : Nat} {b : Int} (hx : x < 18446744073709551616) (hk : 2 ^ k ≤ x ∨ k = 0) (hb : b = ((x / 2 ^ k : Nat) : Int)) (h8 : x / 2 ^ k < 256) : (k : Int) + Lib.len8 b = (Lib.bitLen x : Int) := by
  subst hb
  have e := Lib.len8_eq ⟨x / 2 ^ k, h8⟩
  simp only at e
  rw [e]
  rcases hk with h | h
  · rw [Lib.bitLen_shift k x h (by omega)]; omega
  · subst h; simp

set_option maxRecDepth 100000 in
/-- The table of the lengths of bytes, as the translation writes it. -/
theorem tab_eq : (⟨(([0, 1, 2, 2, 3, 3, 3, 3, 4, 4, 4, 4, 4, 4, 4, 4, 5, 5, 5, 5, 5, 5, 5, 5, 5, 5, 5, 5, 5, 5, 5, 5, 6, 6, 6, 6, 6, 6, 6, 6, 6, 6, 6, 6, 6, 6, 6, 6, 6, 6, 6, 6, 6, 6, 6, 6, 6, 6, 6, 6, 6, 6, 6, 6].append [7, 7, 7, 7, 7, 7, 7, 7, 7, 7, 7, 7, 7, 7, 7, 7, 7, 7, 7, 7, 7, 7, 7, 7, 7, 7, 7, 7, 7, 7, 7, 7, 7, 7, 7, 7, 7, 7, 7, 7, 7, 7, 7, 7, 7, 7, 7, 7, 7, 7, 7, 7, 7, 7, 7, 7, 7, 7, 7, 7, 7, 7, 7, 7]).append ([8, 8, 8, 8, 8, 8, 8, 8, 8, 8, 8, 8, 8, 8, 8, 8, 8, 8, 8, 8, 8, 8, 8, 8, 8, 8, 8, 8, 8, 8, 8, 8, 8, 8, 8, 8, 8, 8, 8, 8, 8, 8, 8, 8, 8, 8, 8, 8, 8, 8, 8, 8, 8, 8, 8, 8, 8, 8, 8, 8, 8, 8, 8, 8].append [8, 8, 8, 8, 8, 8, 8, 8, 8, 8, 8, 8, 8, 8, 8, 8, 8, 8, 8, 8, 8, 8, 8, 8, 8, 8, 8, 8, 8, 8, 8, 8, 8, 8, 8, 8, 8, 8, 8, 8, 8, 8, 8, 8, 8, 8, 8, 8, 8, 8, 8, 8, 8, 8, 8, 8, 8, 8, 8, 8, 8, 8, 8, 8])).toArray⟩ : ByteArray) = Lib.len8tab := by rfl

theorem tab_at (i : Int) (h0 : 0 ≤ i) (h1 : i ≤ 255) : ∃ L : Nat, L = Lib.bitLen i.toNat ∧ L ≤ 8 ∧ ∀ w, (Instr.index 9 (.string Lib.len8tab) (.int .u8 i)).run Try.prog w = .ok (.int .u8 (L : Int)) w :=
  ⟨_, rfl, Lib.bitLen_le8' i h0 h1, fun w => by rw [Lib.run_index_len8tab w 9 .u8 i Try.underlying9 h0 h1, Lib.len8_of i h0 h1]⟩
/-- The length is that of what is left behind a cut by k bits, and k. -/
theorem len_sum {x i : Int} {k L : Nat} (h0 : 0 ≤ x) (h1 : x ≤ 18446744073709551615) (hL : L = Lib.bitLen i.toNat) (hi : i = x / 2 ^ k) (hk : k = 0 ∨ (2 : Int) ^ k ≤ x) : (k : Int) + (L : Int) = (Lib.bitLen x.toNat : Int) := by
  obtain ⟨n, rfl⟩ := Int.eq_ofNat_of_zero_le h0
  have e : i.toNat = n / 2 ^ k := by
    rw [hi, show (2 : Int) ^ k = ((2 ^ k : Nat) : Int) from by simp, ← Int.natCast_ediv, Int.toNat_natCast]
  rw [e] at hL
  rcases hk with rfl | hk
  · simp at hL ⊢; omega
  · have hk' : 2 ^ k ≤ n := by
      rw [show (2 : Int) ^ k = ((2 ^ k : Nat) : Int) from by simp] at hk
      omega
    have := Lib.bitLen_shift k n hk' (by omega)
    simp only [Int.toNat_natCast]
    omega

set_option maxRecDepth 100000 in
set_option maxHeartbeats 1000000 in
theorem len64_int (x : Int) (h0 : 0 ≤ x) (h1 : x ≤ 18446744073709551615) (w : World) :
    Calls Try.prog 24 #[.int .u64 x] w fun e w' => e = .returned (.int .i64 (Lib.bitLen x.toNat : Int)) ∧ w = w' := by
  by_cases a : 4294967296 ≤ x
  · by_cases b : 65536 ≤ x / 4294967296
    · by_cases c : 256 ≤ x / 4294967296 / 65536
      · obtain ⟨L, hL, hL8, hix⟩ := tab_at (x / 4294967296 / 65536 / 256) (by omega) (by omega)
        have E : Hid ((56 : Int) + (L : Int) = (Lib.bitLen x.toNat : Int)) := len_sum (k := 56) h0 h1 hL (by omega) (.inr (by omega))
        clear hL
        go_enter Try.func24, Try.ntmps24
        rw [tab_eq]
        go_wp2
        go_ret
        exact ⟨retI (by rw [← E.out]), rfl⟩
      · obtain ⟨L, hL, hL8, hix⟩ := tab_at (x / 4294967296 / 65536) (by omega) (by omega)
        have E : Hid ((48 : Int) + (L : Int) = (Lib.bitLen x.toNat : Int)) := len_sum (k := 48) h0 h1 hL (by omega) (.inr (by omega))
        clear hL
        go_enter Try.func24, Try.ntmps24
        rw [tab_eq]
        go_wp2
        go_ret
        exact ⟨retI (by rw [← E.out]), rfl⟩
    · by_cases c : 256 ≤ x / 4294967296
      · obtain ⟨L, hL, hL8, hix⟩ := tab_at (x / 4294967296 / 256) (by omega) (by omega)
        have E : Hid ((40 : Int) + (L : Int) = (Lib.bitLen x.toNat : Int)) := len_sum (k := 40) h0 h1 hL (by omega) (.inr (by omega))
        clear hL
        go_enter Try.func24, Try.ntmps24
        rw [tab_eq]
        go_wp2
        go_ret
        exact ⟨retI (by rw [← E.out]), rfl⟩
      · obtain ⟨L, hL, hL8, hix⟩ := tab_at (x / 4294967296) (by omega) (by omega)
        have E : Hid ((32 : Int) + (L : Int) = (Lib.bitLen x.toNat : Int)) := len_sum (k := 32) h0 h1 hL (by omega) (.inr (by omega))
        clear hL
        go_enter Try.func24, Try.ntmps24
        rw [tab_eq]
        go_wp2
        go_ret
        exact ⟨retI (by rw [← E.out]), rfl⟩
  · by_cases b : 65536 ≤ x
    · by_cases c : 256 ≤ x / 65536
      · obtain ⟨L, hL, hL8, hix⟩ := tab_at (x / 65536 / 256) (by omega) (by omega)
        have E : Hid ((24 : Int) + (L : Int) = (Lib.bitLen x.toNat : Int)) := len_sum (k := 24) h0 h1 hL (by omega) (.inr (by omega))
        clear hL
        go_enter Try.func24, Try.ntmps24
        rw [tab_eq]
        go_wp2
        go_ret
        exact ⟨retI (by rw [← E.out]), rfl⟩
      · obtain ⟨L, hL, hL8, hix⟩ := tab_at (x / 65536) (by omega) (by omega)
        have E : Hid ((16 : Int) + (L : Int) = (Lib.bitLen x.toNat : Int)) := len_sum (k := 16) h0 h1 hL (by omega) (.inr (by omega))
        clear hL
        go_enter Try.func24, Try.ntmps24
        rw [tab_eq]
        go_wp2
        go_ret
        exact ⟨retI (by rw [← E.out]), rfl⟩
    · by_cases c : 256 ≤ x
      · obtain ⟨L, hL, hL8, hix⟩ := tab_at (x / 256) (by omega) (by omega)
        have E : Hid ((8 : Int) + (L : Int) = (Lib.bitLen x.toNat : Int)) := len_sum (k := 8) h0 h1 hL (by omega) (.inr (by omega))
        clear hL
        go_enter Try.func24, Try.ntmps24
        rw [tab_eq]
        go_wp2
        go_ret
        exact ⟨retI (by rw [← E.out]), rfl⟩
      · obtain ⟨L, hL, hL8, hix⟩ := tab_at (x) (by omega) (by omega)
        have E : Hid ((0 : Int) + (L : Int) = (Lib.bitLen x.toNat : Int)) := len_sum (k := 0) h0 h1 hL (by omega) (.inl rfl)
        clear hL
        go_enter Try.func24, Try.ntmps24
        rw [tab_eq]
        go_wp2
        go_ret
        exact ⟨retI (by rw [← E.out]; omega), rfl⟩

set_option maxHeartbeats 400000 in
theorem len_any (x : Int) (h0 : 0 ≤ x) (h1 : x ≤ 18446744073709551615) (w : World) :
    Calls Try.prog 19 #[.int .u64 x] w fun e w' => e = .returned (.int .i64 (Lib.bitLen x.toNat : Int)) ∧ w = w' := by
  have C := Lib.hid (len64_int x h0 h1 w)
  go_enter Try.func19, Try.ntmps19
  go_wp2_with fail
  refine C.out.mono ?_
  rintro e w' ⟨rfl, rfl⟩
  go_wp2
  go_ret
  exact ⟨rfl, rfl⟩
end Go.Proofs.Ytdfhlmacdgmpmaa
