/- Systematic sampling: mathematics. -/
import Derived.Test.YthfnnceehhhfkaaVa
namespace Go.Proofs.Ythfnnceehhhfkaa

/-- Weights and a number that are in order. -/
def WP (W : List Int) (m : Int) : Prop := W.length ≤ 400 ∧ (∀ x ∈ W, 0 ≤ x ∧ x ≤ 1048576) ∧ 1 ≤ m ∧ m ≤ 400
open Classical in
noncomputable def sumP (W : List Int) (m : Int) : Int × Int := if WP W m then (if sumW W = 0 then (0, 3) else (sumW W, 0)) else (0, 2)
theorem WP.wf {W : List Int} {m : Int} (h : WP W m) : WF W := ⟨h.1, fun x hx => by have := h.2.1 x hx; omega⟩
theorem WP.at {W : List Int} {m : Int} (h : WP W m) (k : Nat) : 0 ≤ W.getD k 0 ∧ W.getD k 0 ≤ 1048576 := by
  by_cases hk : k < W.length
  · exact h.2.1 _ (memV hk)
  · rw [List.getD_eq_getElem?_getD, List.getElem?_eq_none (by omega)]; decide
theorem WP.bound {W : List Int} {m : Int} (h : WP W m) : ∀ {k : Nat}, k ≤ W.length → 0 ≤ pre W k ∧ pre W k ≤ (k : Int) * 1048576
  | 0, _ => by rw [pre_zero]; simp
  | k + 1, hk => by
    have ih := h.bound (k := k) (by omega)
    have h1 := h.at k
    rw [pre_succ (by omega)]
    push_cast
    omega
theorem WP.sum {W : List Int} {m : Int} (h : WP W m) : 0 ≤ sumW W ∧ sumW W ≤ 419430400 := by
  have h1 := h.bound (k := W.length) (Nat.le_refl _)
  have h2 := h.1
  rw [pre_all] at h1
  omega
theorem sumP_cases (W : List Int) (m : Int) : (sumP W m = (0, 2) ∧ ¬ WP W m) ∨ (sumP W m = (0, 3) ∧ WP W m ∧ sumW W = 0) ∨ (sumP W m = (sumW W, 0) ∧ WP W m ∧ 0 < sumW W) := by
  unfold sumP
  by_cases h : WP W m
  · by_cases h0 : sumW W = 0
    · exact .inr (.inl ⟨by rw [if_pos h, if_pos h0], h, h0⟩)
    · exact .inr (.inr ⟨by rw [if_pos h, if_neg h0], h, by have := h.sum; omega⟩)
  · exact .inl ⟨by rw [if_neg h], h⟩

/-- Who owns the integer n. -/
def ow (W : List Int) (m n : Int) : Int := pk W (n / m)
theorem ow_in {W : List Int} {m : Int} (hW : WP W m) {n : Int} {k : Nat} (hk : k < W.length) (h1 : pre W k * m ≤ n) (h2 : n < pre W (k + 1) * m) : ow W m n = (k : Int) :=
  pk_in hW.wf hk ((Int.le_ediv_iff_mul_le (by have := hW.2.2.1; omega)).2 h1) (Int.ediv_lt_of_lt_mul (by have := hW.2.2.1; omega) h2)
theorem ow_some {W : List Int} {m : Int} (hW : WP W m) {n : Int} (h0 : 0 ≤ n) (h1 : n < sumW W * m) : ∃ k : Nat, ow W m n = (k : Int) ∧ k < W.length ∧ pre W k * m ≤ n ∧ n < pre W (k + 1) * m ∧ 0 < W.getD k 0 := by
  have hm : 0 < m := by have := hW.2.2.1; omega
  obtain ⟨k, a, b, c, d, e⟩ := pk_some hW.wf (n := n / m) (Int.ediv_nonneg h0 (by omega)) (Int.ediv_lt_of_lt_mul hm h1)
  exact ⟨k, a, b, (Int.le_ediv_iff_mul_le hm).1 c, Int.lt_mul_of_ediv_lt hm d, e⟩
theorem preM_mono {W : List Int} {m : Int} (hW : WP W m) {i k : Nat} (h : i ≤ k) (hk : k ≤ W.length) : pre W i * m ≤ pre W k * m :=
  Int.mul_le_mul_of_nonneg_right (pre_mono hW.wf h hk) (by have := hW.2.2.1; omega)
theorem ow_mono {W : List Int} {m : Int} (hW : WP W m) {a b : Int} (h0 : 0 ≤ a) (h : a ≤ b) (h1 : b < sumW W * m) : ow W m a ≤ ow W m b := by
  obtain ⟨k, e, k1, k2, k3, _⟩ := ow_some hW h0 (by omega)
  obtain ⟨l, f, l1, l2, l3, _⟩ := ow_some hW (by omega) h1
  rw [e, f]
  by_cases g : k ≤ l
  · omega
  · have := preM_mono hW (i := l + 1) (k := k) (by omega) (by omega)
    omega
/-- The integers that are taken. -/
def stp (s S : Int) (i : Nat) : Int := s + (i : Int) * S
theorem stp_zero (s S : Int) : stp s S 0 = s := by simp [stp]
theorem stp_succ (s S : Int) (i : Nat) : stp s S (i + 1) = stp s S i + S := by
  unfold stp; push_cast; rw [Int.add_mul]; omega
theorem stp_mono {s S : Int} (hS : 0 ≤ S) {i : Nat} : ∀ {j : Nat}, i ≤ j → stp s S i ≤ stp s S j
  | 0, h => by obtain rfl : i = 0 := by omega
               exact Int.le_refl _
  | j + 1, h => by
    by_cases e : i = j + 1
    · subst e; exact Int.le_refl _
    · have := stp_mono (s := s) hS (i := i) (j := j) (by omega)
      rw [stp_succ]; omega
theorem stp_nonneg {s S : Int} (hs : 0 ≤ s) (hS : 0 ≤ S) (i : Nat) : 0 ≤ stp s S i := by
  have := stp_mono (s := s) hS (Nat.zero_le i)
  rw [stp_zero] at this; omega
theorem stp_lt {s S : Int} {m : Nat} (h : s < S) (hS : 0 ≤ S) {i : Nat} (hi : i < m) : stp s S i < S * (m : Int) := by
  have h1 := stp_mono (s := s) hS (i := i) (j := m - 1) (by omega)
  have h2 : stp s S (m - 1) + (S - s) = S * (m : Int) := by
    obtain ⟨q, rfl⟩ : ∃ q, m = q + 1 := ⟨m - 1, by omega⟩
    unfold stp
    rw [Nat.add_sub_cancel]
    push_cast
    rw [Int.mul_add, Int.mul_comm S (q : Int)]
    omega
  omega
theorem stp_ge {s S : Int} {m : Nat} (h : 0 ≤ s) : S * (m : Int) ≤ stp s S m := by
  unfold stp
  rw [Int.mul_comm S]
  omega
theorem lt_of_stp {s S : Int} {m i : Nat} (h : 0 ≤ s) (hS : 0 ≤ S) (hl : stp s S i < S * (m : Int)) : i < m := by
  by_cases e : i < m
  · exact e
  · have h1 := stp_ge (S := S) (m := m) h
    have h2 := stp_mono (s := s) hS (i := m) (j := i) (by omega)
    omega
/-- What is taken. -/
def tkL (W : List Int) (m : Nat) (s : Int) : List Int := (List.range m).map fun i => ow W (m : Int) (stp s (sumW W) i)
theorem tkL_len (W : List Int) (m : Nat) (s : Int) : (tkL W m s).length = m := by simp [tkL]
theorem tkL_at {W : List Int} {m : Nat} {s : Int} {i : Nat} (h : i < m) : (tkL W m s).getD i 0 = ow W (m : Int) (stp s (sumW W) i) := by
  simp [tkL, List.getD_eq_getElem?_getD, h]
theorem tkL_take {W : List Int} {m : Nat} {s : Int} {i : Nat} (h : i < m) : (tkL W m s).take i ++ [ow W (m : Int) (stp s (sumW W) i)] = (tkL W m s).take (i + 1) := by
  rw [take_snocV (by rw [tkL_len]; exact h), tkL_at h]
open Classical in
noncomputable def takeP (W : List Int) (m s : Int) : List Int × Int :=
  if (sumP W m).2 = 0 then (if 0 ≤ s ∧ s < sumW W then (tkL W m.toNat s, 0) else ([], 2)) else ([], (sumP W m).2)
theorem takeP_err {W : List Int} {m s e : Int} (h : sumP W m = (0, e)) (he : e ≠ 0) : takeP W m s = ([], e) := by
  unfold takeP; rw [h]; exact if_neg he
theorem takeP_out {W : List Int} {m s : Int} (h : sumP W m = (sumW W, 0)) (hs : ¬ (0 ≤ s ∧ s < sumW W)) : takeP W m s = ([], 2) := by
  unfold takeP; rw [h]; rw [if_pos rfl, if_neg hs]
theorem takeP_in {W : List Int} {m : Nat} {s : Int} (h : sumP W (m : Int) = (sumW W, 0)) (h0 : 0 ≤ s) (hs : s < sumW W) : takeP W (m : Int) s = (tkL W m s, 0) := by
  unfold takeP; rw [h, if_pos rfl, if_pos ⟨h0, hs⟩, Int.toNat_natCast]
theorem takeP_cases (W : List Int) (m s : Int) : (∃ e : Int, takeP W m s = ([], e) ∧ e ≠ 0) ∨ ∃ n : Nat, m = n ∧ takeP W m s = (tkL W n s, 0) ∧ sumP W m = (sumW W, 0) ∧ WP W m ∧ 0 < sumW W ∧ 0 ≤ s ∧ s < sumW W := by
  rcases sumP_cases W m with ⟨h, _⟩ | ⟨h, _⟩ | ⟨h, hW, h0⟩
  · exact .inl ⟨2, takeP_err h (by decide), by decide⟩
  · exact .inl ⟨3, takeP_err h (by decide), by decide⟩
  · by_cases hs : 0 ≤ s ∧ s < sumW W
    · obtain ⟨n, rfl⟩ : ∃ n : Nat, m = n := ⟨m.toNat, by have := hW.2.2.1; omega⟩
      exact .inr ⟨n, rfl, takeP_in h hs.1 hs.2, h, hW, h0, hs.1, hs.2⟩
    · exact .inl ⟨2, takeP_out h hs, by decide⟩
/-- Every one that is taken. -/
theorem tkL_mem {W : List Int} {m : Nat} {s : Int} (hW : WP W (m : Int)) (h0 : 0 ≤ s) (h1 : s < sumW W) {i : Nat} (hi : i < m) :
    ∃ k : Nat, (tkL W m s).getD i 0 = (k : Int) ∧ k < W.length ∧ pre W k * m ≤ stp s (sumW W) i ∧ stp s (sumW W) i < pre W (k + 1) * m ∧ 0 < W.getD k 0 := by
  rw [tkL_at hi]
  exact ow_some hW (stp_nonneg h0 (by omega) i) (stp_lt h1 (by omega) hi)
theorem tkL_sorted {W : List Int} {m : Nat} {s : Int} (hW : WP W (m : Int)) (h0 : 0 ≤ s) (h1 : s < sumW W) {i j : Nat} (hij : i ≤ j) (hj : j < m) : (tkL W m s).getD i 0 ≤ (tkL W m s).getD j 0 := by
  rw [tkL_at hj, tkL_at (by omega)]
  exact ow_mono hW (stp_nonneg h0 (by omega) i) (stp_mono (by omega) hij) (stp_lt h1 (by omega) hj)
/-- Scaling. -/
theorem sumW_mul (b : Int) : ∀ (W : List Int), sumW (W.map (fun x => x * b)) = sumW W * b
  | [] => by simp [sumW]
  | x :: r => by rw [List.map_cons, sumW, sumW, sumW_mul b r, Int.add_mul]
theorem pre_mul (b : Int) (W : List Int) (k : Nat) : pre (W.map (fun x => x * b)) k = pre W k * b := by
  unfold pre; rw [← List.map_take, sumW_mul]
theorem tkL_mul {W : List Int} {m : Nat} {s b : Int} (hb : 0 < b) (hW : WP W (m : Int)) (hV : WP (W.map (fun x => x * b)) (m : Int)) (h0 : 0 ≤ s) (h1 : s < sumW W) : tkL (W.map (fun x => x * b)) m (s * b) = tkL W m s := by
  unfold tkL
  refine List.map_congr_left fun i hi => ?_
  rw [List.mem_range] at hi
  have e : stp (s * b) (sumW (W.map (fun x => x * b))) i = stp s (sumW W) i * b := by
    unfold stp; rw [sumW_mul, Int.add_mul, Int.mul_assoc]
  rw [e]
  obtain ⟨k, e1, k1, k2, k3, _⟩ := ow_some hW (stp_nonneg h0 (by omega) i) (stp_lt h1 (by omega) hi)
  rw [e1]
  refine ow_in hV (by simpa using k1) ?_ ?_
  · rw [pre_mul, Int.mul_assoc, Int.mul_comm b, ← Int.mul_assoc]
    exact Int.mul_le_mul_of_nonneg_right k2 (by omega)
  · rw [pre_mul, Int.mul_assoc, Int.mul_comm b, ← Int.mul_assoc]
    exact Int.mul_lt_mul_of_pos_right k3 hb
end Go.Proofs.Ythfnnceehhhfkaa
