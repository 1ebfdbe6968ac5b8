/- The small functions of package nat: wordAt, Right, trim, fit, Of. -/
import Derived.Test.YtfhbnolppahfhaaMem
namespace Go.Proofs.Ytfhbnolppahfhaa
open Go.RowKit
set_option maxHeartbeats 400000 in
theorem wordAt_any (A : Option Addr) (ca : Nat) (xs : List Nat) (i : Nat) (w : World) (h : Wd w A xs) (hl : xs.length ≤ 1000000) (hi : i ≤ 1000000) :
    Calls Try.prog 32 #[.slice A xs.length ca, .int .i64 i] w fun e w' => e = .returned (.int .u64 (wd xs i : Int)) ∧ w = w' := by
  by_cases hlt : i < xs.length
  · obtain ⟨b, off, rfl, _, hc⟩ := h.2 (by omega)
    have hci := hc i hlt
    clear hc h
    go_enter Try.func32, Try.ntmps32
    go_wp2
    go_ret
    exact ⟨rfl, rfl⟩
  · rw [wd_out (by omega)]
    clear h
    go_enter Try.func32, Try.ntmps32
    go_wp2
    go_ret
    exact ⟨rfl, rfl⟩

set_option maxHeartbeats 400000 in
theorem right_any (A : Option Addr) (ca : Nat) (xs : List Nat) (w : World) (h : Wd w A xs) (hl : xs.length ≤ 9223372036854775807) :
    Calls Try.prog 13 #[.slice A xs.length ca] w fun e w' => e = .returned (.bool (rt xs)) ∧ w = w' := by
  by_cases h0 : xs.length = 0
  · have hr : rt xs = true := by unfold rt; simp [h0]
    rw [hr, h0]
    clear h hr hl
    go_enter Try.func13, Try.ntmps13
    go_wp2
    go_ret
    exact ⟨rfl, rfl⟩
  · obtain ⟨b, off, rfl, _, hc⟩ := h.2 (by omega)
    have hci := hc (xs.length - 1) (by omega)
    clear hc h
    obtain ⟨n, hn⟩ : ∃ n, xs.length = n + 1 := ⟨xs.length - 1, by omega⟩
    have hr : rt xs = (decide (n + 1 ≤ 64) && decide (wd xs n ≠ 0)) := by unfold rt; simp [hn]
    rw [hr]
    rw [hn] at hci ⊢ hl
    simp only [Nat.add_sub_cancel] at hci
    clear hr h0 hn
    generalize wd xs n = x at *
    clear xs
    have hz : (((n : Int) + 1) == 0) = false := by simp; omega
    by_cases h1 : n + 1 ≤ 64
    · by_cases h2 : x = 0
      · subst h2
        have hx : (decide (n + 1 ≤ 64) && decide (0 ≠ 0)) = false := by simp
        rw [hx]; clear hx
        go_enter Try.func13, Try.ntmps13
        go_wp2
        go_ret
        exact ⟨rfl, rfl⟩
      · have hx : (decide (n + 1 ≤ 64) && decide (x ≠ 0)) = true := by simp [h2]; omega
        have h2' : ((x : Int) != 0) = true := nez_yes h2
        rw [hx]; clear hx h2
        go_enter Try.func13, Try.ntmps13
        go_wp2
        go_ret
        exact ⟨rfl, rfl⟩
    · have hx : (decide (n + 1 ≤ 64) && decide (x ≠ 0)) = false := by simp; omega
      rw [hx]; clear hx
      go_enter Try.func13, Try.ntmps13
      go_wp2
      go_ret
      exact ⟨rfl, rfl⟩

set_option maxHeartbeats 400000 in
theorem trim_any (A : Option Addr) (ca : Nat) (xs : List Nat) (w : World) (h : Wd w A xs) (hl : xs.length ≤ 1000000) (hca : xs.length ≤ ca) :
    Calls Try.prog 35 #[.slice A xs.length ca] w fun e w' => e = .returned (.slice A (words (val xs)).length ca) ∧ w = w' := by
  go_enter Try.func35, Try.ntmps35
  go_wp2
  go_loop [3] (fun t => ∃ k : Nat, k ≤ xs.length ∧ t = .int .i64 k ∧ ∀ j, k ≤ j → wd xs j = 0) (fun t => (intOf t).toNat)
  case atStart => exact ⟨xs.length, Nat.le_refl _, rfl, fun j hj => wd_out hj⟩
  case round =>
    obtain ⟨k, hk, rfl, hz⟩ := hrel
    have HZ := Lib.hid hz
    clear hz
    have H := Lib.hid h
    clear h
    by_cases h0 : k = 0
    · subst h0
      have E : Hid (0 = (words (val xs)).length) := by rw [words_trim H.out.1 hk HZ.out (.inl rfl)]; rfl
      go_wp2
      go_ret
      exact ⟨retS E.out, rfl⟩
    · obtain ⟨b, off, rfl, _, hc⟩ := H.out.2 (by omega)
      obtain ⟨m, rfl⟩ : ∃ m, k = m + 1 := ⟨k - 1, by omega⟩
      have hci := hc m (by omega)
      clear hc h0
      by_cases h1 : wd xs m = 0
      · rw [h1] at hci
        have H1 := Lib.hid h1
        clear h1
        go_wp2
        go_round
        case rel => exact ⟨m, by omega, by go_num, fun j hj => by
                      by_cases e : j = m
                      · rw [e]; exact H1.out
                      · exact HZ.out j (by omega)⟩
        case measure => simp [intOf]
      · have E : Hid (m + 1 = (words (val xs)).length) := by
          show m + 1 = _
          rw [words_trim H.out.1 hk HZ.out (.inr (by simpa using h1)), List.length_take]
          omega
        have h1' : ((wd xs m : Int) == 0) = false := eqz_no h1
        clear h1
        go_wp2
        go_ret
        exact ⟨retS E.out, rfl⟩

set_option maxHeartbeats 400000 in
theorem fit_any (A : Option Addr) (ca : Nat) (xs : List Nat) (w : World) (h : Wd w A xs) (hl : xs.length ≤ 1000000) (hca : xs.length ≤ ca) :
    Calls Try.prog 33 #[.slice A xs.length ca] w fun e w' => w = w' ∧ ∃ R c, e = .returned (.tuple #[.slice R (fitL (val xs)).length c, .int .i64 (fitE (val xs))]) ∧ Wd w R (fitL (val xs)) ∧ (fitL (val xs)).length ≤ c := by
  have hlen : (words (val xs)).length ≤ xs.length := (words_len _ _).2 (val_lt h.1)
  have hw : Wd w A (words (val xs)) := by
    have e : ∃ n, words (val xs) = xs.take n := words_is_take h.1
    obtain ⟨n, hn⟩ := e
    rw [hn]; exact h.take n
  by_cases hf : val xs < Bw ^ 64
  · have e1 : fitL (val xs) = words (val xs) := if_pos hf
    have e2 : fitE (val xs) = 0 := if_pos hf
    rw [e1, e2]
    have h64 : (words (val xs)).length ≤ 64 := (words_len _ _).2 hf
    have HW := Lib.hid hw
    clear e1 e2 hw hf
    go_enter Try.func33, Try.ntmps33
    go_wp2_with (go_at_call 35; refine (trim_any _ _ _ _ h hl hca).mono ?_; rintro e w' ⟨rfl, rfl⟩)
    go_ret2
    exact ⟨rfl, A, ca, rfl, HW.out, by omega⟩
  · have e1 : fitL (val xs) = [] := if_neg hf
    have e2 : fitE (val xs) = 4 := if_neg hf
    rw [e1, e2]
    have h64 : 64 < (words (val xs)).length := by
      rcases Nat.lt_or_ge 64 (words (val xs)).length with h | h
      · exact h
      · exact absurd ((words_len _ _).1 h) hf
    clear e1 e2 hw hf
    go_enter Try.func33, Try.ntmps33
    go_wp2_with (go_at_call 35; refine (trim_any _ _ _ _ h hl hca).mono ?_; rintro e w' ⟨rfl, rfl⟩)
    go_ret2
    exact ⟨rfl, none, 0, rfl, Wd.nil, by simp⟩

set_option maxHeartbeats 400000 in
theorem of_any (n : Nat) (w : World) (hn : n < Bw) :
    Calls Try.prog 16 #[.int .u64 n] w fun e w' => ∃ R c, e = .returned (.slice R (words n).length c) ∧ Wd w' R (words n) ∧ (words n).length ≤ c ∧ Below w.heap.size w w' := by
  have hB : Bk (w.alloc (.cells #[.int .u64 n] 23)) w.heap.size [n] := by unfold Bk; rw [heap_alloc_new]; rfl
  have hW : Wd (w.alloc (.cells #[.int .u64 n] 23)) (some ⟨w.heap.size, 0, none⟩) [n] := hB.wd (Sm.one hn)
  have hbel : Below w.heap.size w (w.alloc (.cells #[.int .u64 n] 23)) := (Below.refl _ _).alloc (Nat.le_refl _) _
  have e : val [n] = n := by simp [val]
  have hw : Wd (w.alloc (.cells #[.int .u64 n] 23)) (some ⟨w.heap.size, 0, none⟩) (words n) := by
    obtain ⟨k, hk⟩ := words_is_take (xs := [n]) (Sm.one hn)
    rw [e] at hk; rw [hk]; exact hW.take k
  have hlen : (words n).length ≤ 1 := (words_len _ _).2 (by simpa using hn)
  have C := Lib.hid (trim_any (some ⟨w.heap.size, 0, none⟩) 1 [n] _ hW (by simp) (by simp))
  have HW := Lib.hid hw
  rw [e] at C
  clear hB hW e hw
  go_enter Try.func16, Try.ntmps16
  go_wp2_with fail
  refine C.out.mono ?_
  rintro e w' ⟨rfl, rfl⟩
  go_wp2
  go_ret
  exact ⟨_, _, rfl, HW.out, hlen, hbel⟩
end Go.Proofs.Ytfhbnolppahfhaa
