/- parts keeps its word at every divisor of one or two digits. -/
import Derived.Test.YtfhbnolppahfhaaDd
import Derived.Test.YtfhbnolppahfhaaDh
namespace Go.Proofs.Ytfhbnolppahfhaa
open Go.RowKit Go.Deep

theorem digits400 {X : Nat} (h : Sz5 X) : (H.words X).length ≤ 400000 := by
  have := digits_le (z := (X : Int)) (k := 100000) (by rw [Int.natAbs_natCast]; exact h.out)
  rw [Int.natAbs_natCast] at this
  exact Nat.le_trans this (by decide)
theorem partsOk {X Y : Nat} (hX : (H.words X).length ≤ 400000) (h3 : 3 ≤ (H.words X).length) (hY : 0 < Y) (hYB : Y < Bw) : PartsOk X Y := by
  intro A B ca cb w hA hB
  have hl : (H.words Y).length ≤ 2 := (H.words_len Y 2).2 hYB
  have hv := H.val_words Y
  have hc := H.words_cn Y
  generalize H.words Y = ys at *
  match ys, hl with
  | [], _ => simp [H.val] at hv; omega
  | [y], _ =>
    have hy : y = Y := by simpa [H.val] using hv
    subst hy
    have C := parts1_any A B ca cb y (H.words X) w hA hB hX hY
    rw [H.val_words] at C
    exact C
  | [y0, y1], _ =>
    have hy : 0 < y1 := by
      rcases Nat.eq_zero_or_pos y1 with e | e
      · subst e
        exact absurd hc (by unfold H.Cn; simp [H.wd])
      · exact e
    have C := parts2_any A B ca cb y0 y1 (H.words X) w hA hB hX h3 hy
    rw [H.val_words, hv] at C
    exact C
end Go.Proofs.Ytfhbnolppahfhaa
