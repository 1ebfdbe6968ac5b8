/- lotdrawerref.CRight and CToss. -/
import Derived.Test.YtkfpomeemcmfmaaC1
import Derived.Test.YtkfpomeemcmfmaaNn
import Derived.Test.YtkfpomeemcmfmaaTm
namespace Go.Proofs.Ytkfpomeemcmfmaa
open Go.RowKit Go.Deep

set_option maxHeartbeats 1000000 in
theorem cright_any (n d : Int) (w : World) :
    Calls Try.prog 16 #[frac n d] w fun e w' => e = .returned (.bool (rgt n d)) ∧ Below w.heap.size w w' := by
  have hB : Hid (Below w.heap.size w (w.alloc (.cells #[.int .i64 n, .int .i64 d] 24))) := (Below.refl _ _).alloc (Nat.le_refl _) _
  unfold frac
  by_cases h1 : n < 0
  · have R : Hid (rgt n d = false) := by show rgt n d = false; simp [rgt]; omega
    go_enter Try.func16, Try.ntmps16
    go_wp2
    go_ret
    exact ⟨by rw [R.out]; rfl, hB.out⟩
  · by_cases h2 : d ≤ 0
    · have R : Hid (rgt n d = false) := by show rgt n d = false; simp [rgt]; omega
      go_enter Try.func16, Try.ntmps16
      go_wp2
      go_ret
      exact ⟨by rw [R.out]; rfl, hB.out⟩
    · by_cases h3 : d < n
      · have R : Hid (rgt n d = false) := by show rgt n d = false; simp [rgt]; omega
        have h3' : decide (n ≤ d) = false := decide_eq_false (by omega)
        go_enter Try.func16, Try.ntmps16
        go_wp2
        go_ret
        exact ⟨by rw [R.out]; rfl, hB.out⟩
      · have R : Hid (rgt n d = decide (d ≤ 1099511627776)) := by show rgt n d = decide (d ≤ 1099511627776); simp [rgt, show 1 ≤ d by omega, show n ≤ d by omega, show 0 ≤ n by omega]
        have h3' : decide (n ≤ d) = true := decide_eq_true (by omega)
        go_enter Try.func16, Try.ntmps16
        go_wp2
        go_ret
        exact ⟨by rw [R.out]; rfl, hB.out⟩

theorem dl_of_lt {x m : Nat} (h : x < 2 ^ m) : DL (x : Int) (m / 32 + 1) := by
  refine ⟨(H.words_len _ _).2 ?_⟩
  rw [Int.natAbs_natCast]
  have e : H.Bw ^ (m / 32 + 1) = 2 ^ (32 * (m / 32 + 1)) := by
    rw [Nat.pow_mul]; rfl
  rw [e]
  exact Nat.lt_of_lt_of_le h (Nat.pow_le_pow_right (by omega) (by omega))
/-- The sizes of a round: behind k bits. -/
structure CS (a d v k : Nat) : Prop where
  hv : v < 2 ^ k
  ha : a < 2 ^ 41
  hd : d < 2 ^ 41
  hk : k ≤ 140737488351232
theorem CS.sv {a d v k : Nat} (h : CS a d v k) : DL (v : Int) 5000000000000 := (dl_of_lt h.hv).up (by have := h.hk; omega)
theorem CS.sa {a d v k : Nat} (h : CS a d v k) : DL (a : Int) 5000000000000 := (dl_of_lt h.ha).up (by omega)
theorem CS.sd {a d v k : Nat} (h : CS a d v k) : DL (d : Int) 5000000000000 := (dl_of_lt h.hd).up (by omega)
theorem CS.sy {a d v k : Nat} (h : CS a d v k) : DL ((a : Int) * 2 ^ k) 11000000000000 := by
  have e : (a : Int) * 2 ^ k = ((a * 2 ^ k : Nat) : Int) := by simp
  rw [e]
  have : a * 2 ^ k < 2 ^ (41 + k) := by rw [Nat.pow_add]; exact Nat.mul_lt_mul_of_pos_right h.ha (Nat.two_pow_pos k)
  exact (dl_of_lt this).up (by have := h.hk; omega)
theorem CS.vd {a d v k : Nat} (h : CS a d v k) : v * d < 2 ^ (41 + k) := by
  rw [Nat.pow_add, Nat.mul_comm (2 ^ 41)]
  rcases Nat.eq_zero_or_pos d with e | e
  · subst e; rw [Nat.mul_zero]; exact Nat.mul_pos (Nat.two_pow_pos k) (Nat.two_pow_pos 41)
  · exact Nat.lt_of_lt_of_le (Nat.mul_lt_mul_of_pos_right h.hv e) (Nat.mul_le_mul_left _ (Nat.le_of_lt h.hd))
theorem CS.sl {a d v k : Nat} (h : CS a d v k) : DL ((v : Int) * (d : Int)) 11000000000000 := by
  have e : (v : Int) * (d : Int) = ((v * d : Nat) : Int) := by simp
  rw [e]
  exact (dl_of_lt h.vd).up (by have := h.hk; omega)
theorem CS.sh {a d v k : Nat} (h : CS a d v k) : DL ((v : Int) * (d : Int) + (d : Int)) 11000000000000 := by
  have e : (v : Int) * (d : Int) + (d : Int) = ((v * d + d : Nat) : Int) := by simp
  rw [e]
  have h1 := h.vd
  have h2 : d < 2 ^ (41 + k) := Nat.lt_of_lt_of_le h.hd (Nat.pow_le_pow_right (by omega) (by omega))
  have : v * d + d < 2 ^ (41 + k + 1) := by rw [Nat.pow_succ]; omega
  exact (dl_of_lt this).up (by have := h.hk; omega)

/-- What the reference's toss knows behind k bits that make v. -/
def KRel (a d : Nat) (t : List Bool) (k v : Nat) : Prop :=
  (v * d + d ≤ a * 2 ^ k ∧ tosG a d t = some (true, k)) ∨ (a * 2 ^ k ≤ v * d ∧ tosG a d t = some (false, k)) ∨
  (v * d < a * 2 ^ k ∧ a * 2 ^ k < v * d + d ∧ ∃ r, 0 < r ∧ r < d ∧ a * 2 ^ k = v * d + r ∧ tosG a d t = csh k (tossF d r (t.drop k)))
theorem krel_start {a d : Nat} (t : List Bool) (h : a ≤ d) (hd : 0 < d) : KRel a d t 0 0 := by
  by_cases e : a = d
  · exact .inl ⟨by simp; omega, by simp [tosG, e]⟩
  · by_cases e0 : a = 0
    · exact .inr (.inl ⟨by simp [e0], by unfold tosG; rw [if_neg e, e0, tossF_zero]⟩)
    · refine .inr (.inr ⟨by simp; omega, by simp; omega, a, by omega, by omega, by simp, ?_⟩)
      unfold tosG
      rw [if_neg e, List.drop_zero, csh_zero]
theorem krel_next {a d k v r : Nat} {t : List Bool} (hr : 0 < r) (hrd : r < d) (he : a * 2 ^ k = v * d + r) (hT : tosG a d t = csh k (tossF d r (t.drop k))) (hk : k < t.length) :
    KRel a d t (k + 1) (2 * v + (t.getD k false).toNat) := by
  have e2 : a * 2 ^ (k + 1) = 2 * (v * d) + 2 * r := by rw [Nat.pow_succ, ← Nat.mul_assoc, he]; omega
  have e3 : (2 * v + (t.getD k false).toNat) * d = 2 * (v * d) + (t.getD k false).toNat * d := by rw [Nat.add_mul, Nat.mul_assoc]
  unfold KRel
  rw [e2, e3]
  by_cases h : d ≤ 2 * r
  · cases hb : t.getD k false with
    | false =>
      refine .inl ⟨by simp; omega, ?_⟩
      rw [hT, toss_diff (by omega) hk (by rw [hb]; simp [h])]; simp [csh, h]
    | true =>
      rw [toss_high (by omega) hk h hb, csh_csh] at hT
      by_cases h0 : 2 * r - d = 0
      · refine .inr (.inl ⟨by simp; omega, ?_⟩)
        rw [hT, h0, tossF_zero]; rfl
      · exact .inr (.inr ⟨by simp; omega, by simp; omega, 2 * r - d, by omega, by omega, by simp; omega, hT⟩)
  · cases hb : t.getD k false with
    | true =>
      refine .inr (.inl ⟨by simp; omega, ?_⟩)
      rw [hT, toss_diff (by omega) hk (by rw [hb]; simp; omega)]; simp [csh, h]
    | false =>
      rw [toss_low (by omega) hk h hb, csh_csh] at hT
      exact .inr (.inr ⟨by simp; omega, by simp; omega, 2 * r, by omega, by omega, by simp, hT⟩)
theorem krel_cast {a d k v : Nat} : ((a : Int) * 2 ^ k = ((a * 2 ^ k : Nat) : Int)) ∧ ((v : Int) * (d : Int) = ((v * d : Nat) : Int)) := ⟨by simp, by simp⟩
end Go.Proofs.Ytkfpomeemcmfmaa
