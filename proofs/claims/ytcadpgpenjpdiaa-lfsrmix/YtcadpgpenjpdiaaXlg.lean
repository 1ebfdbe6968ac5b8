/- lotdrawerkeep.LfsrMix. -/
import Derived.Test.YtcadpgpenjpdiaaXlf
namespace Go.Proofs.Ytcadpgpenjpdiaa
open Go.RowKit Go.Deep

/-- What Jump answers. -/
def jumpC (n : Int) (t x : Nat) (B : Int) : Nat × Int :=
  if OKh n t x then (if 0 ≤ B ∧ B ≤ 1099511627776 then (nit n.toNat t B.toNat x, 0) else (0, 2)) else (0, 1)
theorem jump_any {n : Int} {t x : Nat} (ht : t < 4294967296) (hx : x < 4294967296) (B : Int) (w : World) : Calls Try.prog 16 #[.int .i64 n, .int .u32 (t : Int), .int .u32 (x : Int), .int .i64 B] w fun e w' => e = .returned (.tuple #[.int .u32 ((jumpC n t x B).1 : Int), .int .i64 (jumpC n t x B).2]) ∧ Below w.heap.size w w' := by
  unfold jumpC
  by_cases h : OKh n t x
  · obtain ⟨k, rfl, hR, hk⟩ := OKh.of h
    rw [if_pos h]
    by_cases h2 : 0 ≤ B ∧ B ≤ 1099511627776
    · rw [if_pos h2]
      obtain ⟨b, rfl⟩ : ∃ b : Nat, B = (b : Int) := ⟨B.toNat, by omega⟩
      rw [Int.toNat_natCast, Int.toNat_natCast]
      exact jump_ok hR hk b (by omega) w
    · rw [if_neg h2]
      exact (jump_far hR hk B h2 w).mono fun e w' he => ⟨he.1, by rw [he.2]; exact Below.refl _ _⟩
  · rw [if_neg h]
    exact (jump_bad ht hx h B w).mono fun e w' he => ⟨he.1, by rw [he.2]; exact Below.refl _ _⟩
theorem jumpC_ok {n : Int} {t x : Nat} {B : Int} (h : (jumpC n t x B).2 = 0) : ∃ k b : Nat, n = k ∧ NR k t ∧ x < 2 ^ k ∧ B = b ∧ b ≤ 1099511627776 ∧ (jumpC n t x B).1 = nit k t b x := by
  unfold jumpC at *
  by_cases h1 : OKh n t x
  · rw [if_pos h1] at h ⊢
    by_cases h2 : 0 ≤ B ∧ B ≤ 1099511627776
    · rw [if_pos h2] at h ⊢
      obtain ⟨k, rfl, hR, hk⟩ := OKh.of h1
      obtain ⟨b, rfl⟩ : ∃ b : Nat, B = (b : Int) := ⟨B.toNat, by omega⟩
      exact ⟨k, b, rfl, hR, hk, rfl, by omega, by rw [Int.toNat_natCast, Int.toNat_natCast]⟩
    · rw [if_neg h2] at h; simp at h
  · rw [if_neg h1] at h; simp at h
theorem jumpC_of {n t x b : Nat} (h : NR n t) (hx : x < 2 ^ n) (hb : b ≤ 1099511627776) : jumpC (n : Int) t x (b : Int) = (nit n t b x, 0) := by
  unfold jumpC
  rw [if_pos (h.okh hx), if_pos ⟨by omega, by omega⟩, Int.toNat_natCast, Int.toNat_natCast]

set_option maxRecDepth 100000 in
set_option maxHeartbeats 2000000 in
theorem lfsrMix_walk (n : Int) (t a b : Nat) (B : Int) (ht : t < 4294967296) (ha : a < 4294967296) (hb : b < 4294967296) (w : World) : Calls Try.prog 6 #[.int .i64 n, .int .u32 (t : Int), .int .u32 (a : Int), .int .u32 (b : Int), .int .i64 B] w fun e w' => e = .returned (.bool true) ∧ Below w.heap.size w w' := by
  have CA := Lib.hid alive14_any
  have C1 := Lib.hid (jump_any (n := n) ht ha B)
  have C2 := Lib.hid (jump_any (n := n) ht hb B)
  have hc : a ^^^ b < 4294967296 := by have := Nat.xor_lt_two_pow (n := 32) (x := a) (y := b) (by omega) (by omega); omega
  have C3 := Lib.hid (jump_any (n := n) ht hc B)
  have ex := xor_u32 a b ha hb
  have key : ((jumpC n t a B).2 != 0) = true ∨ (((jumpC n t a B).2 != 0) = false ∧ ((jumpC n t b B).2 != 0) = true) ∨ (((jumpC n t a B).2 != 0) = false ∧ ((jumpC n t b B).2 != 0) = false ∧ (jumpC n t (a ^^^ b) B).2 = 0 ∧ (jumpC n t (a ^^^ b) B).1 = (jumpC n t a B).1 ^^^ (jumpC n t b B).1 ∧ (jumpC n t a B).1 < 4294967296 ∧ (jumpC n t b B).1 < 4294967296) := by
    by_cases h1 : (jumpC n t a B).2 = 0
    · by_cases h2 : (jumpC n t b B).2 = 0
      · obtain ⟨k, c, rfl, hR, hak, rfl, hcb, e1⟩ := jumpC_ok h1
        obtain ⟨k', c', hk, _, hbk, hc', _, e2⟩ := jumpC_ok h2
        have : k' = k := by omega
        subst this
        have : c' = c := by omega
        subst this
        refine .inr (.inr ⟨by rw [h1]; rfl, by rw [h2]; rfl, ?_⟩)
        have hl : 2 ^ k' ≤ 2 ^ 20 := Nat.pow_le_pow_right (by decide) hR.hi
        have l1 := nit_lt (t := t) hR.lo hak c'
        have l2 := nit_lt (t := t) hR.lo hbk c'
        rw [jumpC_of hR (Nat.xor_lt_two_pow hak hbk) hcb, e1, e2]
        exact ⟨rfl, nit_xor hR.lo t a b c', by omega, by omega⟩
      · exact .inr (.inl ⟨by rw [h1]; rfl, by rw [bne_iff_ne]; exact h2⟩)
    · exact .inl (by rw [bne_iff_ne]; exact h1)
  generalize jumpC n t a B = j1 at *
  generalize jumpC n t b B = j2 at *
  generalize jumpC n t (a ^^^ b) B = j3 at *
  generalize a ^^^ b = c at *
  obtain ⟨v1, r1⟩ := j1
  obtain ⟨v2, r2⟩ := j2
  obtain ⟨v3, r3⟩ := j3
  dsimp only at *
  rcases key with k1 | ⟨k1, k2⟩ | ⟨k1, k2, k3, k4, k5, k6⟩
  · go_enter Try.func6, Try.ntmps6
    go_wp2_with fail
    refine (CA.out _).mono ?_
    rintro e w1 ⟨rfl, hb1⟩
    go_wp2_with fail
    refine (C1.out _).mono ?_
    rintro e w2 ⟨rfl, hb2⟩
    have HB2 := Lib.hid (hb1.trans (hb2.mono hb1.size))
    clear hb1 hb2
    go_wp2_with fail
    refine (C2.out _).mono ?_
    rintro e w3 ⟨rfl, hb3⟩
    have HB3 := Lib.hid (HB2.out.trans (hb3.mono HB2.out.size))
    clear hb3 HB2
    go_wp2_with fail
    refine (C3.out _).mono ?_
    rintro e w4 ⟨rfl, hb4⟩
    have HB4 := Lib.hid (HB3.out.trans (hb4.mono HB3.out.size))
    clear hb4 HB3
    go_wp2
    go_ret
    exact ⟨rfl, HB4.out⟩
  · go_enter Try.func6, Try.ntmps6
    go_wp2_with fail
    refine (CA.out _).mono ?_
    rintro e w1 ⟨rfl, hb1⟩
    go_wp2_with fail
    refine (C1.out _).mono ?_
    rintro e w2 ⟨rfl, hb2⟩
    have HB2 := Lib.hid (hb1.trans (hb2.mono hb1.size))
    clear hb1 hb2
    go_wp2_with fail
    refine (C2.out _).mono ?_
    rintro e w3 ⟨rfl, hb3⟩
    have HB3 := Lib.hid (HB2.out.trans (hb3.mono HB2.out.size))
    clear hb3 HB2
    go_wp2_with fail
    refine (C3.out _).mono ?_
    rintro e w4 ⟨rfl, hb4⟩
    have HB4 := Lib.hid (HB3.out.trans (hb4.mono HB3.out.size))
    clear hb4 HB3
    go_wp2
    go_ret
    exact ⟨rfl, HB4.out⟩
  · have ex2 := xor_u32 v1 v2 k5 k6
    subst k3
    rw [← k4] at ex2
    have e9 : ((v3 : Int) == (v3 : Int)) = true := by simp
    clear k4
    go_enter Try.func6, Try.ntmps6
    go_wp2_with fail
    refine (CA.out _).mono ?_
    rintro e w1 ⟨rfl, hb1⟩
    go_wp2_with fail
    refine (C1.out _).mono ?_
    rintro e w2 ⟨rfl, hb2⟩
    have HB2 := Lib.hid (hb1.trans (hb2.mono hb1.size))
    clear hb1 hb2
    go_wp2_with fail
    refine (C2.out _).mono ?_
    rintro e w3 ⟨rfl, hb3⟩
    have HB3 := Lib.hid (HB2.out.trans (hb3.mono HB2.out.size))
    clear hb3 HB2
    go_wp2_with fail
    refine (C3.out _).mono ?_
    rintro e w4 ⟨rfl, hb4⟩
    have HB4 := Lib.hid (HB3.out.trans (hb4.mono HB3.out.size))
    clear hb4 HB3
    go_wp2
    go_ret
    exact ⟨rfl, HB4.out⟩
end Go.Proofs.Ytcadpgpenjpdiaa
