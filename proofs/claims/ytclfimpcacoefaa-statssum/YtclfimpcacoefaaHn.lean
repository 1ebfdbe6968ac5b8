/- Which of two rows of digits is greater. -/
import Derived.Test.YtclfimpcacoefaaHm
import Derived.Test.YtclfimpcacoefaaBb
namespace Go.Proofs.Ytclfimpcacoefaa.H

theorem list_of_wd {xs ys : List Nat} (hl : xs.length = ys.length) (h : ∀ j, j < xs.length → wd xs j = wd ys j) : xs = ys := by
  apply List.ext_getElem hl
  intro i h1 h2
  have e := h i h1
  have e1 := wd_in h1
  have e2 := wd_in h2
  rw [List.getElem?_eq_getElem h1] at e1
  rw [List.getElem?_eq_getElem h2] at e2
  simp at e1 e2
  rw [e1, e2, e]

theorem val_split {xs : List Nat} {m : Nat} (h : m ≤ xs.length) : val xs = val (xs.take m) + Bw ^ m * val (xs.drop m) := by
  have e := val_append (xs.take m) (xs.drop m)
  rw [List.take_append_drop] at e
  rw [e, List.length_take, Nat.min_eq_left h]
theorem drop_cons_val {xs : List Nat} {m : Nat} (h : m < xs.length) : val (xs.drop m) = wd xs m + Bw * val (xs.drop (m + 1)) := by
  rw [List.drop_eq_getElem_cons h, val]
  have : xs[m] = wd xs m := by have := wd_in h; rw [List.getElem?_eq_getElem h] at this; simpa using this
  rw [this]
theorem wd_dropp (zs : List Nat) (off k : Nat) : wd (zs.drop off) k = wd zs (off + k) := by
  unfold wd; rw [List.getD_eq_getElem?_getD, List.getD_eq_getElem?_getD, List.getElem?_drop]
theorem digit_lt {xs ys : List Nat} {m : Nat} (hs : Sm xs) (hl : xs.length = ys.length) (hm : m < xs.length) (he : ∀ j, m + 1 ≤ j → wd xs j = wd ys j) (h : wd xs m < wd ys m) : val xs < val ys := by
  have hd : xs.drop (m + 1) = ys.drop (m + 1) := list_of_wd (by simp [hl]) (fun j _ => by rw [wd_dropp, wd_dropp]; exact he _ (by omega))
  rw [val_split (xs := xs) (m := m) (by omega), val_split (xs := ys) (m := m) (by omega), drop_cons_val hm, drop_cons_val (xs := ys) (by omega), hd]
  have h1 : val (xs.take m) < Bw ^ m := by
    have := val_lt (hs.take m)
    rwa [List.length_take, Nat.min_eq_left (by omega)] at this
  have h2 : Bw ^ m * (wd xs m + Bw * val (ys.drop (m + 1)) + 1) ≤ Bw ^ m * (wd ys m + Bw * val (ys.drop (m + 1))) := Nat.mul_le_mul_left _ (by omega)
  rw [Nat.mul_add _ _ 1] at h2
  omega
theorem len_lt {xs ys : List Nat} (hs : Sm xs) (hc : Cn ys) (h : xs.length < ys.length) : val xs < val ys := by
  have h1 : val xs < Bw ^ xs.length := val_lt hs
  have hne : wd ys (ys.length - 1) ≠ 0 := by
    rcases hc with h0 | h0
    · rw [h0] at h; simp at h
    · exact h0
  have h2 : Bw ^ (ys.length - 1) ≤ val ys := by
    rw [val_split (xs := ys) (m := ys.length - 1) (by omega), drop_cons_val (by omega)]
    have : Bw ^ (ys.length - 1) * 1 ≤ Bw ^ (ys.length - 1) * (wd ys (ys.length - 1) + Bw * val (ys.drop (ys.length - 1 + 1))) := Nat.mul_le_mul_left _ (by omega)
    omega
  have h3 : Bw ^ xs.length ≤ Bw ^ (ys.length - 1) := Nat.pow_le_pow_right Bw_pos (by omega)
  omega

theorem ord_digit {xs ys : List Nat} {m : Nat} (hs : Sm xs) (ht : Sm ys) (hl : xs.length = ys.length) (hm : m < xs.length) (he : ∀ j, m + 1 ≤ j → wd xs j = wd ys j) (h : wd xs m ≠ wd ys m) : ord (wd xs m) (wd ys m) = ord (val xs) (val ys) := by
  rcases Nat.lt_or_gt_of_ne h with k | k
  · rw [ord_lt k, ord_lt (digit_lt hs hl hm he k)]
  · rw [ord_gt k, ord_gt (digit_lt ht hl.symm (by omega) (fun j hj => (he j hj).symm) k)]
theorem ord_len {xs ys : List Nat} (hs : Sm xs) (ht : Sm ys) (hc : Cn xs) (hd : Cn ys) (h : xs.length ≠ ys.length) : ord xs.length ys.length = ord (val xs) (val ys) := by
  rcases Nat.lt_or_gt_of_ne h with k | k
  · rw [ord_lt k, ord_lt (len_lt hs hd k)]
  · rw [ord_gt k, ord_gt (len_lt ht hc k)]

end Go.Proofs.Ytclfimpcacoefaa.H
