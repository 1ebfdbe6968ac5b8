/- Prefix sums, picking by a number and drawing without replacement: mathematics. -/
import Derived.Test.YtkcgcojhgcfgmaaHa
namespace Go.Proofs.Ytkcgcojhgcfgmaa

theorem take_snocV {W : List Int} {k : Nat} (h : k < W.length) : W.take (k + 1) = W.take k ++ [W.getD k 0] := by
  rw [List.take_add_one]; simp [List.getD_eq_getElem?_getD, h]
theorem memV {W : List Int} {k : Nat} (h : k < W.length) : W.getD k 0 ∈ W := by
  rw [List.getD_eq_getElem?_getD, List.getElem?_eq_getElem h]; exact List.getElem_mem h
/-- Right: not too many, all of them in range. -/
def WF (W : List Int) : Prop := W.length ≤ 400 ∧ ∀ x ∈ W, 0 ≤ x ∧ x ≤ 1073741824
/-- The sum of the first k. -/
def pre (W : List Int) (k : Nat) : Int := sumW (W.take k)
theorem pre_zero (W : List Int) : pre W 0 = 0 := rfl
theorem pre_succ {W : List Int} {k : Nat} (h : k < W.length) : pre W (k + 1) = pre W k + W.getD k 0 := by
  unfold pre; rw [take_snocV h, sumW_snoc]
theorem pre_all (W : List Int) : pre W W.length = sumW W := by unfold pre; rw [List.take_length]
theorem WF.at {W : List Int} (h : WF W) (k : Nat) : 0 ≤ W.getD k 0 ∧ W.getD k 0 ≤ 1073741824 := by
  by_cases hk : k < W.length
  · exact h.2 _ (memV hk)
  · rw [List.getD_eq_getElem?_getD, List.getElem?_eq_none (by omega)]; decide
theorem pre_bound {W : List Int} (h : WF W) : ∀ {k : Nat}, k ≤ W.length → 0 ≤ pre W k ∧ pre W k ≤ (k : Int) * 1073741824
  | 0, _ => by rw [pre_zero]; simp
  | k + 1, hk => by
    have ih := pre_bound h (k := k) (by omega)
    have h1 := h.at k
    rw [pre_succ (by omega)]
    push_cast
    omega
theorem pre_mono {W : List Int} (h : WF W) {i : Nat} : ∀ {k : Nat}, i ≤ k → k ≤ W.length → pre W i ≤ pre W k
  | 0, hi, _ => by obtain rfl : i = 0 := by omega
                   exact Int.le_refl _
  | k + 1, hi, hk => by
    by_cases e : i = k + 1
    · subst e; exact Int.le_refl _
    · have ih := pre_mono h (i := i) (k := k) (by omega) (by omega)
      have h1 := h.at k
      rw [pre_succ (by omega)]
      omega

/-- The first index whose sum, itself included, is above n. -/
def hitP (W : List Int) (n : Int) (i : Nat) : Bool := decide (n < pre W (i + 1))
def pk (W : List Int) (n : Int) : Int := if n < 0 then -1 else first (hitP W n) W.length
/-- What is answered where the weights are right. -/
def fnd (W : List Int) (n : Int) : Int × Int := if pk W n < 0 then (0, 3) else (pk W n, 0)
open Classical in
noncomputable def pickC (W : List Int) (n : Int) : Int × Int := if WF W then fnd W n else (0, 2)
theorem pickC_ok {W : List Int} (h : WF W) (n : Int) : pickC W n = fnd W n := if_pos h
theorem pickC_no {W : List Int} (h : ¬ WF W) (n : Int) : pickC W n = (0, 2) := if_neg h
theorem fnd_neg {W : List Int} {n : Int} (h : n < 0) : fnd W n = (0, 3) := by
  have e : pk W n = -1 := if_pos h
  unfold fnd; rw [if_pos (by rw [e]; decide)]
/-- A walk has come to k, n less all before. -/
theorem pk_hit {W : List Int} {n : Int} {k : Nat} (h0 : 0 ≤ n) (hk : k < W.length) (hJ : ∀ j, j < k → hitP W n j = false) (h : n - pre W k < W.getD k 0) : pk W n = (k : Int) := by
  unfold pk
  rw [if_neg (by omega)]
  refine first_hit ?_ hk hJ
  unfold hitP
  rw [pre_succ hk, decide_eq_true_iff]
  omega
theorem pk_step {W : List Int} {n : Int} {k : Nat} (hk : k < W.length) (hJ : ∀ j, j < k → hitP W n j = false) (h : ¬ n - pre W k < W.getD k 0) : ∀ j, j < k + 1 → hitP W n j = false := by
  intro j hj
  by_cases e : j = k
  · subst e
    unfold hitP
    rw [pre_succ hk, decide_eq_false_iff_not]
    omega
  · exact hJ j (by omega)
theorem pk_miss {W : List Int} {n : Int} (h0 : 0 ≤ n) (hJ : ∀ j, j < W.length → hitP W n j = false) : pk W n = -1 := by
  unfold pk
  rw [if_neg (by omega)]
  exact first_miss hJ
theorem fnd_hit {W : List Int} {n : Int} {k : Nat} (h : pk W n = (k : Int)) : fnd W n = ((k : Int), 0) := by
  unfold fnd; rw [if_neg (by omega), h]
theorem fnd_miss {W : List Int} {n : Int} (h : pk W n = -1) : fnd W n = (0, 3) := by
  unfold fnd; rw [if_pos (by omega)]
/-- What is picked. -/
theorem pk_cases {W : List Int} (hW : WF W) (n : Int) : (pk W n = -1 ∧ (n < 0 ∨ sumW W ≤ n)) ∨ ∃ k : Nat, pk W n = (k : Int) ∧ k < W.length ∧ pre W k ≤ n ∧ n < pre W (k + 1) ∧ 0 < W.getD k 0 ∧ 0 ≤ n := by
  by_cases h0 : n < 0
  · exact .inl ⟨if_pos h0, .inl h0⟩
  · have e : pk W n = first (hitP W n) W.length := if_neg h0
    rw [e]
    rcases first_cases (hitP W n) W.length with ⟨h1, h2⟩ | ⟨k, h1, h2, h3, h4⟩
    · refine .inl ⟨h1, .inr ?_⟩
      by_cases hl : W.length = 0
      · have : W = [] := List.eq_nil_of_length_eq_zero hl
        subst this
        simp [sumW]; omega
      · have := h2 (W.length - 1) (by omega)
        unfold hitP at this
        rw [decide_eq_false_iff_not, show W.length - 1 + 1 = W.length by omega, pre_all] at this
        omega
    · unfold hitP at h3
      rw [decide_eq_true_iff] at h3
      have hp : pre W k ≤ n := by
        cases k with
        | zero => rw [pre_zero]; omega
        | succ j =>
          have := h4 j (by omega)
          unfold hitP at this
          rw [decide_eq_false_iff_not] at this
          omega
      refine .inr ⟨k, h1, h2, hp, h3, ?_, by omega⟩
      rw [pre_succ h2] at h3
      omega
/-- Within its part it is picked. -/
theorem pk_in {W : List Int} (hW : WF W) {n : Int} {k : Nat} (hk : k < W.length) (h1 : pre W k ≤ n) (h2 : n < pre W (k + 1)) : pk W n = (k : Int) := by
  have h0 := (pre_bound hW (k := k) (by omega)).1
  have e : pk W n = first (hitP W n) W.length := if_neg (by omega)
  rw [e]
  refine first_hit (by unfold hitP; rw [decide_eq_true_iff]; exact h2) hk fun j hj => ?_
  unfold hitP
  rw [decide_eq_false_iff_not]
  have := pre_mono hW (i := j + 1) (k := k) (by omega) (by omega)
  omega
theorem pk_some {W : List Int} (hW : WF W) {n : Int} (h0 : 0 ≤ n) (h1 : n < sumW W) : ∃ k : Nat, pk W n = (k : Int) ∧ k < W.length ∧ pre W k ≤ n ∧ n < pre W (k + 1) ∧ 0 < W.getD k 0 := by
  rcases pk_cases hW n with ⟨_, h⟩ | ⟨k, a, b, c, d, e, _⟩
  · omega
  · exact ⟨k, a, b, c, d, e⟩
theorem pk_none {W : List Int} (hW : WF W) {n : Int} (h1 : sumW W ≤ n) : pk W n = -1 := by
  rcases pk_cases hW n with ⟨h, _⟩ | ⟨k, a, b, c, d, e, _⟩
  · exact h
  · have := pre_mono hW (i := k + 1) (k := W.length) (by omega) (Nat.le_refl _)
    rw [pre_all] at this
    omega

/-- One after the other; what is drawn weighs nothing from then on. -/
def drF : List Int → List Int → List Int → List Int × Int
  | _, [], out => (out, 0)
  | L, n :: r, out => if pk L n < 0 then ([], 3) else drF (L.set (pk L n).toNat 0) r (out ++ [pk L n])
open Classical in
noncomputable def drawC (W N : List Int) : List Int × Int := if WF W then drF W N [] else ([], 2)
theorem drawC_ok {W : List Int} (h : WF W) (N : List Int) : drawC W N = drF W N [] := if_pos h
theorem drawC_no {W : List Int} (h : ¬ WF W) (N : List Int) : drawC W N = ([], 2) := if_neg h
theorem drF_nil (L out : List Int) : drF L [] out = (out, 0) := rfl
theorem drF_stop {L N out : List Int} {j : Nat} (hj : j < N.length) (h : pk L (N.getD j 0) = -1) : drF L (N.drop j) out = ([], 3) := by
  rw [List.drop_eq_getElem_cons hj, drF]
  rw [List.getD_eq_getElem?_getD, List.getElem?_eq_getElem hj] at h
  simp only [Option.getD_some] at h
  rw [if_pos (by rw [h]; decide)]
theorem drF_go {L N out : List Int} {j k : Nat} (hj : j < N.length) (h : pk L (N.getD j 0) = (k : Int)) : drF L (N.drop j) out = drF (L.set k 0) (N.drop (j + 1)) (out ++ [(k : Int)]) := by
  rw [List.drop_eq_getElem_cons hj, drF]
  rw [List.getD_eq_getElem?_getD, List.getElem?_eq_getElem hj] at h
  simp only [Option.getD_some] at h
  rw [if_neg (by omega), h]
  rfl
theorem getD_setV {L : List Int} {i : Nat} (h : i < L.length) (x : Int) : (L.set i x).getD i 0 = x := by simp [List.getD_eq_getElem?_getD, h]
theorem getD_setV' {L : List Int} {i j : Nat} (h : i ≠ j) (x : Int) : (L.set i x).getD j 0 = L.getD j 0 := by simp [List.getD_eq_getElem?_getD, h]
theorem WF.set {W : List Int} (h : WF W) (k : Nat) : WF (W.set k 0) := by
  refine ⟨by rw [List.length_set]; exact h.1, fun x hx => ?_⟩
  rcases List.mem_or_eq_of_mem_set hx with hx | rfl
  · exact h.2 x hx
  · decide
theorem sumW_set : ∀ {W : List Int} {k : Nat} (x : Int), k < W.length → sumW (W.set k x) = sumW W - W.getD k 0 + x
  | [], k, x, h => by simp at h
  | y :: r, 0, x, h => by simp [sumW]; omega
  | y :: r, k + 1, x, h => by
    have := sumW_set (W := r) (k := k) x (by simpa using h)
    rw [List.set_cons_succ, sumW, this, sumW]
    simp only [List.getD_cons_succ]
    omega
/-- Nobody twice, nobody who weighs nothing. -/
theorem drF_once : ∀ (N L out d : List Int), WF L → drF L N out = (d, 0) → ∃ e : List Int, d = out ++ e ∧ e.length = N.length ∧ e.Nodup ∧ ∀ x ∈ e, ∃ k : Nat, x = k ∧ k < L.length ∧ L.getD k 0 ≠ 0
  | [], L, out, d, hL, h => by
    rw [drF_nil] at h
    injection h with h _
    exact ⟨[], by simp [h], rfl, List.nodup_nil, fun x hx => by cases hx⟩
  | n :: r, L, out, d, hL, h => by
    rw [drF] at h
    rcases pk_cases hL n with ⟨h1, _⟩ | ⟨k, h1, h2, h3, h4, h5, h6⟩
    · rw [if_pos (by rw [h1]; decide)] at h
      injection h with _ h
      exact absurd h (by decide)
    · rw [if_neg (by omega), h1, Int.toNat_natCast] at h
      obtain ⟨e, e1, e2, e3, e4⟩ := drF_once r _ _ d (hL.set k) h
      refine ⟨(k : Int) :: e, by rw [e1]; simp, by simp [e2], List.nodup_cons.2 ⟨fun hm => ?_, e3⟩, fun x hx => ?_⟩
      · obtain ⟨k', a, b, c⟩ := e4 _ hm
        obtain rfl : k = k' := by omega
        rw [List.length_set] at b
        exact c (getD_setV b 0)
      · rcases List.mem_cons.1 hx with rfl | hx
        · exact ⟨k, rfl, h2, by omega⟩
        · obtain ⟨k', a, b, c⟩ := e4 _ hx
          rw [List.length_set] at b
          refine ⟨k', a, b, fun e => ?_⟩
          by_cases e5 : k = k'
          · subst e5; omega
          · rw [getD_setV' e5] at c; exact c e
theorem drF_err : ∀ (N L out : List Int), (∃ d, drF L N out = (d, 0)) ∨ drF L N out = ([], 3)
  | [], L, out => .inl ⟨out, rfl⟩
  | n :: r, L, out => by
    rw [drF]
    split
    · exact .inr rfl
    · exact drF_err r _ _

/-- All sums. -/
def sumsL (W : List Int) : List Int := (List.range (W.length + 1)).map (pre W)
open Classical in
noncomputable def sumsC (W : List Int) : List Int × Int := if WF W then (sumsL W, 0) else ([], 2)
theorem sumsC_ok {W : List Int} (h : WF W) : sumsC W = (sumsL W, 0) := if_pos h
theorem sumsC_no {W : List Int} (h : ¬ WF W) : sumsC W = ([], 2) := if_neg h
theorem sumsL_len (W : List Int) : (sumsL W).length = W.length + 1 := by simp [sumsL]
theorem sumsL_at {W : List Int} {k : Nat} (h : k ≤ W.length) : (sumsL W).getD k 0 = pre W k := by
  have : k < W.length + 1 := by omega
  simp [sumsL, List.getD_eq_getElem?_getD, this]
/-- The sums of the first k; the others are 0 yet. -/
def sumsT (W : List Int) (k : Nat) : List Int := (List.range (W.length + 1)).map fun j => if j ≤ k then pre W j else 0
theorem sumsT_len (W : List Int) (k : Nat) : (sumsT W k).length = W.length + 1 := by simp [sumsT]
theorem sumsT_at {W : List Int} {k j : Nat} (h : j ≤ W.length) : (sumsT W k).getD j 0 = if j ≤ k then pre W j else 0 := by
  have : j < W.length + 1 := by omega
  simp [sumsT, List.getD_eq_getElem?_getD, this]
theorem sumsT_zero (W : List Int) : sumsT W 0 = List.replicate (W.length + 1) 0 := by
  apply List.ext_getElem?
  intro j
  by_cases h : j < W.length + 1
  · simp [sumsT, h]
    intro e; subst e; rfl
  · simp [sumsT, h]
theorem sumsT_step {W : List Int} {k : Nat} (h : k < W.length) : (sumsT W k).set (k + 1) (pre W (k + 1)) = sumsT W (k + 1) := by
  apply List.ext_getElem?
  intro j
  by_cases hj : j < W.length + 1
  · by_cases e : k + 1 = j
    · subst e
      rw [List.getElem?_set_self (by rw [sumsT_len]; exact hj)]
      simp [sumsT, h]
    · rw [List.getElem?_set_ne e]
      have e2 : (j ≤ k) ↔ (j ≤ k + 1) := by omega
      simp [sumsT, hj, e2]
  · rw [List.getElem?_eq_none (by simp [sumsT_len]; omega), List.getElem?_eq_none (by rw [sumsT_len]; omega)]
theorem sumsT_all (W : List Int) : sumsT W W.length = sumsL W := by
  unfold sumsT sumsL
  refine List.map_congr_left fun j hj => ?_
  rw [List.mem_range] at hj
  rw [if_pos (by omega)]
end Go.Proofs.Ytkcgcojhgcfgmaa
