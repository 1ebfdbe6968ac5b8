/- lotdrawerref.EAt. -/
import Derived.Test.YtfmmhhekkjgmlaaX7
import Derived.Test.YtfmmhhekkjgmlaaX4
import Derived.Test.YtfmmhhekkjgmlaaX5
namespace Go.Proofs.Ytfmmhhekkjgmlaa
open Go.RowKit Go.Deep

def EAPost (w : World) (l : List Nat) (e : Ending) (w' : World) : Prop := ∃ v, e = .returned (.tuple #[v, .int .i64 0]) ∧ OI w' w.heap.size v (ints l) ∧ Below w.heap.size w w'
def EAtC (K : Nat) : Prop := ∀ (N R : Nat) (w : World), N ≤ 60 → R < bc N K → Calls Try.prog 18 #[.int .i64 N, .int .i64 K, .int .i64 R] w (EAPost w (atC N K R))
theorem OI.base {w : World} {B B' : Nat} {v : Value} {xs : List Int} (h : OI w B v xs) (hb : B' ≤ B) : OI w B' v xs := by
  refine ⟨h.1, ?_⟩
  rcases h.2 with h | ⟨g, cap, cur, hv, hB, hg, h1, h2, h3, h4⟩
  · exact .inl h
  · exact .inr ⟨g, cap, cur, hv, by omega, hg, h1, h2, h3, h4⟩

set_option maxRecDepth 100000 in
set_option maxHeartbeats 1000000 in
theorem eat_zero : EAtC 0 := by
  intro N R w hN hR
  have C := Lib.hid (eOf_any N 0 w hN (by omega))
  rw [bc_zero] at hR C
  obtain rfl : R = 0 := by omega
  rw [atC_zero]
  clear hR
  go_enter Try.func18, Try.ntmps18
  go_wp2_with fail
  refine C.out.mono ?_
  rintro e w1 ⟨rfl, hB⟩
  have HB := Lib.hid hB
  clear C hB
  go_wp2
  go_ret2
  exact ⟨_, rfl, OI.nil _ _, HB.out⟩

set_option maxRecDepth 100000 in
set_option maxHeartbeats 1000000 in
theorem eat_step (K : Nat) (ih : EAtC K) : EAtC (K + 1) := by
  intro N R w hN hR
  have HIH := Lib.hid ih
  have hkN := le_of_bc hR
  have hbig := bc_big hN (K + 1)
  have C := Lib.hid (eOf_any N (K + 1) w hN (by omega))
  have HR := Lib.hid hR
  obtain ⟨M, rfl⟩ : ∃ M, N = M + 1 := ⟨N - 1, by omega⟩
  have hRb : R < 118264581564861424 := by omega
  obtain ⟨L, hL⟩ : ∃ L, atC (M + 1) (K + 1) R = L := ⟨_, rfl⟩
  rw [hL]
  have HL := Lib.hid hL
  obtain ⟨z, hz⟩ : ∃ z, bc (M + 1) (K + 1) = z := ⟨_, rfl⟩
  rw [hz] at C hR hbig
  obtain ⟨n, hn⟩ : ∃ n, M + 1 = n := ⟨_, rfl⟩
  obtain ⟨k, hk⟩ : ∃ k, K + 1 = k := ⟨_, rfl⟩
  rw [hk] at C HR HL hkN ⊢
  rw [hn] at C HR HL hkN hN ⊢
  have e1 : (n : Int) - 1 = (M : Int) := by omega
  have e2 : ((k : Int) == 0) = false := eqz_no (by omega)
  have d1 : decide ((n : Int) < (k : Int)) = false := by simp; omega
  have d2 : decide (n < k) = false := by simp; omega
  have d3 : decide ((z : Int) ≤ (R : Int)) = false := by simp; omega
  have d4 : decide (z ≤ R) = false := by simp; omega
  have HN := Lib.hid hn
  have HK := Lib.hid hk
  have hk1 : k ≤ 60 := by omega
  have hk0 : 0 < k := by omega
  have hMn : M < n := by omega
  clear ih hz hL hn hk
  go_enter Try.func18, Try.ntmps18
  go_wp2_with fail
  refine C.out.mono ?_
  rintro e w1 ⟨rfl, hB⟩
  have HB := Lib.hid hB
  clear C hB
  go_wp2_with fail
  go_loopw [8] (fun tv wr => ∃ m : Nat, m ≤ M ∧ tv = .int .i64 m ∧ R < bc (m + 1) k ∧ atC (m + 1) k R = L ∧ Below w.heap.size w wr) (fun tv _ => (intOf tv).toNat)
  case atStart => exact ⟨M, Nat.le_refl _, rfl, by have := HR.out; rwa [← HN.out] at this, by have := HL.out; rwa [← HN.out] at this, HB.out⟩
  case round =>
    clear HB HR HL d1 d2 d3 d4
    obtain ⟨m, hm, rfl, hR2, hL2, hB⟩ := hrel
    have HB := Lib.hid hB
    have C := Lib.hid (eOf_any m k wr (by omega) (by omega))
    have hmb := bc_big (show m ≤ 60 by omega) k
    have hkm := le_of_bc hR2
    clear hB
    by_cases hg : R < bc m k
    · have hkm2 := le_of_bc hg
      have HR3 : Hid (R < bc (m - 1 + 1) k) := by show _ < _; rw [show m - 1 + 1 = m by omega]; exact hg
      have HL3 : Hid (atC (m - 1 + 1) k R = L) := by
        show _ = _
        rw [show m - 1 + 1 = m by omega]
        have := HK.out
        rw [← this] at hL2 hg ⊢
        rw [atC_miss hg] at hL2
        exact hL2
      have e3 : (m : Int) - 1 = ((m - 1 : Nat) : Int) := by omega
      obtain ⟨m1, hm1⟩ : ∃ m1, m - 1 = m1 := ⟨_, rfl⟩
      rw [hm1] at e3 HR3 HL3
      have hm2 : m1 < m := by omega
      generalize bc m k = y at C hg hmb
      clear hR2 hL2 hm1
      go_wp2_with fail
      refine C.out.mono ?_
      rintro e w2 ⟨rfl, hB2⟩
      have HB2 := Lib.hid (HB.out.trans (hB2.mono HB.out.size))
      clear C hB2
      go_wp2
      go_roundw
      case rel => exact ⟨m1, by omega, by go_num, HR3.out, HL3.out, HB2.out⟩
      case measure => simp [intOf]; omega
    · have hk' := HK.out
      rw [← hk'] at hR2 hL2 hg
      rw [bc_succ] at hR2
      rw [atC_hit (by omega)] at hL2
      have HL2 := Lib.hid hL2
      have HRr : Hid (R - bc m (K + 1) < bc m K) := by show _ < _; omega
      obtain ⟨d, hd⟩ : ∃ d, R - bc m (K + 1) = d := ⟨_, rfl⟩
      rw [hd] at HL2 HRr
      rw [hk'] at hd hg
      have C2 : Hid (∀ w2, Calls Try.prog 11 #[.int .i64 m, .int .i64 k] w2 fun e w' => e = .returned (.int .i64 (bc m k : Nat)) ∧ Below w2.heap.size w2 w') := fun w2 => eOf_any m k w2 (by omega) (by omega)
      have C3 : Hid (∀ w2, Calls Try.prog 18 #[.int .i64 m, .int .i64 K, .int .i64 d] w2 (EAPost w2 (atC m K d))) := fun w2 => HIH.out m d w2 (by omega) HRr.out
      have e3 : (k : Int) - 1 = (K : Int) := by omega
      have hal := atC_len m HRr.out
      have e4 : (R : Int) - (bc m k : Nat) = (d : Int) := by omega
      generalize bc m k = y at C C2 hg hmb e4 hd
      clear hR2 hL2 hd hk'
      go_wp2_with fail
      refine C.out.mono ?_
      rintro e w2 ⟨rfl, hB2⟩
      have HB2 := Lib.hid (HB.out.trans (hB2.mono HB.out.size))
      clear C hB2 HB
      go_wp2_with fail
      refine (C2.out w2).mono ?_
      rintro e w3 ⟨rfl, hB3⟩
      have HB3 := Lib.hid (HB2.out.trans (hB3.mono HB2.out.size))
      clear hB3 HB2 C2
      go_wp2_with fail
      refine (C3.out w3).mono ?_
      rintro e w4 ⟨v, rfl, hO, hB4⟩
      have HO := Lib.hid hO
      have HB4 := Lib.hid hB4
      have hxl : (ints (atC m K d)).length < 17592186044416 := by rw [ints_len, hal]; omega
      clear C3 hO hB4 hal
      go_wp2_with (at_builtin; refine wpList_push rfl _ _ rfl w3.heap.size v (ints (atC m K d)) (m : Int) rfl HO.out rfl hxl HB4.out.size HB4.out ?_)
      intro g cap w5 hO5 hB5 _
      rw [ints_snoc, HL2.out] at hO5
      have HO5 := Lib.hid (hO5.base HB3.out.size)
      have HB5 := Lib.hid (HB3.out.trans (hB5.mono HB3.out.size))
      clear hO5 hB5 HO HB4
      go_wp2
      go_ret2
      exact ⟨_, rfl, HO5.out, HB5.out⟩
theorem eat_all : ∀ K, EAtC K
  | 0 => eat_zero
  | K + 1 => eat_step K (eat_all K)

set_option maxRecDepth 100000 in
set_option maxHeartbeats 1000000 in
theorem eAt_any (n k r : Int) (w : World) (hk : k ≤ 9223372036854775807) (hr : r ≤ 9223372036854775807) :
    Calls Try.prog 18 #[.int .i64 n, .int .i64 k, .int .i64 r] w (LPost w (atRC n k r)) := by
  unfold atRC
  rcases (show n < 0 ∨ (0 ≤ n ∧ 60 < n) ∨ (0 ≤ n ∧ n ≤ 60 ∧ k < 0) ∨ (0 ≤ n ∧ n ≤ 60 ∧ 0 ≤ k ∧ r < 0) ∨ (0 ≤ n ∧ n ≤ 60 ∧ 0 ≤ k ∧ 0 ≤ r) by omega) with h1 | ⟨h0, h1⟩ | ⟨h0, h1, h2⟩ | ⟨h0, h1, h2, h3⟩ | ⟨h0, h1, h2, h3⟩
  case' inr.inr.inr.inr =>
    rw [if_neg (by omega)]
    obtain ⟨N, rfl⟩ : ∃ N : Nat, n = (N : Int) := ⟨n.toNat, by omega⟩
    obtain ⟨K, rfl⟩ : ∃ K : Nat, k = (K : Int) := ⟨k.toNat, by omega⟩
    obtain ⟨R, rfl⟩ : ∃ R : Nat, r = (R : Int) := ⟨r.toNat, by omega⟩
    rw [Int.toNat_natCast, Int.toNat_natCast, Int.toNat_natCast]
    by_cases hb : bc N K ≤ R
    · rw [if_pos hb]
      by_cases hkn : N < K
      · clear hb
        go_enter Try.func18, Try.ntmps18
        go_wp2
        go_ret2
        exact lpost_none (Below.refl _ _)
      · have C := Lib.hid (eOf_any N K w (by omega) (by omega))
        have hbig := bc_big (show N ≤ 60 by omega) K
        generalize bc N K = z at *
        go_enter Try.func18, Try.ntmps18
        go_wp2_with fail
        refine C.out.mono ?_
        rintro e w1 ⟨rfl, hB⟩
        have HB := Lib.hid hB
        clear C hB
        go_wp2
        go_ret2
        exact lpost_none HB.out
    · rw [if_neg hb]
      refine (eat_all K N R w (by omega) (by omega)).mono ?_
      rintro e w' ⟨v, rfl, hO, hB⟩
      exact lpost_oi hO hB
  all_goals
    rw [if_pos (by omega)]
    go_enter Try.func18, Try.ntmps18
    go_wp2
    go_ret2
    exact lpost_none (Below.refl _ _)
end Go.Proofs.Ytfmmhhekkjgmlaa
