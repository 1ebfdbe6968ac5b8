/- Smaller reservoirs over all choices: counted by the kernel. -/
import Derived.Test.YtimeimagncechaaMs6
namespace Go.Proofs.Ytimeimagncechaa

def uK (room less : Nat) : Nat := outsN less (room - less) / (subs room less).length
def okP (room less : Nat) : Bool :=
  let P := posS room less (outsN less (room - less))
  let K := subs room less
  P.all (fun T => decide (T < 32)) && K.all (fun T => decide (T < 32)) && (List.range 32).all (fun T => P.count T == uK room less * K.count T) && decide (0 < uK room less)
theorem okP_all : ((List.range 6).all fun r => (List.range r).all fun l => l == 0 || okP r l) = true := by decide +kernel
def cK (room less n : Nat) : Nat := fc n * (subs room less).length / wn n less
def okK (room less n : Nat) : Bool :=
  let S := seenK room less n (fc n)
  let D := dd S
  D.length == wn n less && D.all (fun s => S.count s == cK room less n)
theorem okK_low : ((List.range 5).all fun n => (List.range (n + 1)).all fun r => (List.range r).all fun l => l == 0 || okK r l n) = true := by decide +kernel
theorem okK_2 : okK 2 1 5 = true := by decide +kernel
theorem okK_3 : (okK 3 1 5 && okK 3 2 5) = true := by decide +kernel
theorem okK_4 : (okK 4 1 5 && okK 4 2 5 && okK 4 3 5) = true := by decide +kernel
set_option maxRecDepth 1000000 in
theorem okK_5 : (okK 5 1 5 && okK 5 2 5 && okK 5 3 5 && okK 5 4 5) = true := by decide +kernel
theorem okK_at {room less n : Nat} (h0 : 1 ≤ less) (h1 : less < room) (h2 : room ≤ n) (h3 : n ≤ 5) : okK room less n = true := by
  by_cases h4 : n ≤ 4
  · have h := List.all_eq_true.1 okK_low n (List.mem_range.2 (by omega))
    have h := List.all_eq_true.1 h room (List.mem_range.2 (by omega))
    have h := List.all_eq_true.1 h less (List.mem_range.2 h1)
    rw [Bool.or_eq_true, beq_iff_eq] at h
    rcases h with h | h
    · omega
    · exact h
  · obtain rfl : n = 5 := by omega
    have e2 := okK_2
    have e3 := okK_3
    have e4 := okK_4
    have e5 := okK_5
    simp only [Bool.and_eq_true] at e3 e4 e5
    rcases (show room = 2 ∨ room = 3 ∨ room = 4 ∨ room = 5 by omega) with rfl | rfl | rfl | rfl
    · obtain rfl : less = 1 := by omega
      exact e2
    · rcases (show less = 1 ∨ less = 2 by omega) with rfl | rfl
      · exact e3.1
      · exact e3.2
    · rcases (show less = 1 ∨ less = 2 ∨ less = 3 by omega) with rfl | rfl | rfl
      · exact e4.1.1
      · exact e4.1.2
      · exact e4.2
    · rcases (show less = 1 ∨ less = 2 ∨ less = 3 ∨ less = 4 by omega) with rfl | rfl | rfl | rfl
      · exact e5.1.1.1
      · exact e5.1.1.2
      · exact e5.1.2
      · exact e5.2
theorem okP_at {room less : Nat} (h0 : 1 ≤ less) (h1 : less < room) (h2 : room ≤ 5) : 0 < uK room less ∧ ∀ T, (posS room less (outsN less (room - less))).count T = uK room less * (subs room less).count T := by
  have h := List.all_eq_true.1 okP_all room (List.mem_range.2 (by omega))
  have h := List.all_eq_true.1 h less (List.mem_range.2 h1)
  rw [Bool.or_eq_true, beq_iff_eq] at h
  rcases h with h | h
  · omega
  · simp only [okP, Bool.and_eq_true, List.all_eq_true, decide_eq_true_iff, beq_iff_eq] at h
    obtain ⟨⟨⟨hP, hK⟩, hc⟩, hu⟩ := h
    refine ⟨hu, fun T => ?_⟩
    by_cases hT : T < 32
    · exact hc T (List.mem_range.2 hT)
    · rw [List.count_eq_zero.2 (fun h => hT (hP T h)), List.count_eq_zero.2 (fun h => hT (hK T h)), Nat.mul_zero]
theorem small_mem {room less n s : Nat} (h0 : 1 ≤ less) (h1 : less < room) (h2 : room ≤ n) (h3 : n ≤ 5) : s ∈ seenS room less n (fc n) ↔ s ∈ seenK room less n (fc n) := by
  obtain ⟨hu, hc⟩ := okP_at h0 h1 (Nat.le_trans h2 h3)
  have h := seenS_count (n := n) h2 (by omega) hc s (fc n)
  rw [← List.count_pos_iff, ← List.count_pos_iff, h]
  constructor
  · exact fun h => Nat.pos_of_mul_pos_left h
  · exact fun h => Nat.mul_pos hu h
theorem small_len {room less n : Nat} (h0 : 1 ≤ less) (h1 : less < room) (h2 : room ≤ n) (h3 : n ≤ 5) : (dd (seenS room less n (fc n))).length = wn n less := by
  rw [dd_same (fun s => small_mem h0 h1 h2 h3)]
  have h := okK_at h0 h1 h2 h3
  simp only [okK, Bool.and_eq_true, beq_iff_eq] at h
  exact h.1
theorem small_at {room less n s : Nat} (h0 : 1 ≤ less) (h1 : less < room) (h2 : room ≤ n) (h3 : n ≤ 5) (hs : s ∈ seenS room less n (fc n)) : (seenS room less n (fc n)).count s = uK room less * cK room less n := by
  have h := okK_at h0 h1 h2 h3
  simp only [okK, Bool.and_eq_true, beq_iff_eq, List.all_eq_true] at h
  rw [seenS_count (n := n) h2 (by omega) (okP_at h0 h1 (Nat.le_trans h2 h3)).2 s (fc n), h.2 s ((mem_dd _).2 ((small_mem h0 h1 h2 h3).1 hs))]
theorem outs_le : ∀ room, room ≤ 5 → ∀ less, less ≤ room → 1 ≤ outsN less (room - less) ∧ outsN less (room - less) ≤ 120 := by decide +kernel
end Go.Proofs.Ytimeimagncechaa
