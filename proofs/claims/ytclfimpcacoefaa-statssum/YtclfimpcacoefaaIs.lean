/- Int.Sign. -/
import Derived.Test.YtclfimpcacoefaaI2
namespace Go.Proofs.Ytclfimpcacoefaa
open Go.RowKit

set_option maxHeartbeats 400000 in
theorem isign_any (g : Nat) (z : Int) (w : World) (h : IsI w g z) (hs : z.natAbs < Bh ^ 100000) :
    Calls Try.prog 29 #[.pointer (some ⟨g, 0, none⟩)] w fun e w' => e = .returned (.int .i64 z.sign) ∧ w = w' := by
  obtain ⟨A, c, h1, h2, h3⟩ := h
  have hl := digits_le hs
  have c0 := h1.cell0
  have c1 := h1.cell1
  by_cases h0 : z = 0
  · subst h0
    have e : (H.words (0 : Int).natAbs).length = 0 := rfl
    rw [e] at c1
    clear h1 h2 h3 hl hs e c0
    go_enter Try.func29, Try.ntmps29
    go_wp2
    go_ret
    exact ⟨rfl, rfl⟩
  · have hne : ((H.words z.natAbs).length : Int) ≠ 0 := by
      intro e
      have e1 : (H.words z.natAbs).length ≤ 0 := by omega
      have := (H.words_len _ _).1 e1
      simp at this; omega
    obtain ⟨n, hn⟩ : ∃ n, n = (H.words z.natAbs).length := ⟨_, rfl⟩
    rw [← hn] at c1 hne hl
    have hz : ((n : Int) == 0) = false := by rw [beq_eq_false_iff_ne]; exact hne
    by_cases hp : z < 0
    · have hd : decide (z < 0) = true := by simpa using hp
      have hsg : z.sign = -1 := Int.sign_eq_neg_one_of_neg hp
      rw [hd] at c0
      rw [hsg]
      clear h1 h2 h3 hs hn hne h0 hd hsg hp
      go_enter Try.func29, Try.ntmps29
      go_wp2
      go_ret
      exact ⟨rfl, rfl⟩
    · have hd : decide (z < 0) = false := by simpa using hp
      have hsg : z.sign = 1 := Int.sign_eq_one_of_pos (by omega)
      rw [hd] at c0
      rw [hsg]
      clear h1 h2 h3 hs hn hne h0 hd hsg hp
      go_enter Try.func29, Try.ntmps29
      go_wp2
      go_ret
      exact ⟨rfl, rfl⟩

end Go.Proofs.Ytclfimpcacoefaa
