import Derived.Test.YtnihcpaakbhpcaaJn5
/- lotdrawerref.LLeast: the one that is least of those that are left. -/
namespace Go.Proofs.Ytnihcpaakbhpcaa

section
variable {r : W64 → Nat} (hr : ∀ x y, r x = r y → x = y)
include hr
theorem ful_next {l out : List W64} {j : Nat} {best : W64} (ho : out = (ful r l).take j) (h1 : best ∈ l) (h2 : best ∉ out) (h3 : ∀ x ∈ l, x ∉ out → r best ≤ r x) : out ++ [best] = (ful r l).take (j + 1) ∧ j < (ful r l).length := by
  have hm : best ∈ ful r l := (mem_ful r hr).2 h1
  obtain ⟨i, hi, e⟩ := List.getElem_of_mem hm
  have hji : j ≤ i := by
    rcases Nat.lt_or_ge i j with h | h
    · exfalso
      apply h2
      rw [ho, ← e, List.mem_take_iff_getElem]
      exact ⟨i, by omega, rfl⟩
    · exact h
  have hj : j < (ful r l).length := by omega
  have hra := ful_ra r hr l
  have hnot : (ful r l)[j] ∉ out := by
    rw [ho, List.mem_take_iff_getElem]
    rintro ⟨k, hk, ek⟩
    have := List.pairwise_iff_getElem.1 hra k j (by omega) hj (by omega)
    rw [ek] at this
    omega
  have h4 := h3 _ ((mem_ful r hr).1 (List.getElem_mem hj)) hnot
  have hij : i = j := by
    rcases Nat.eq_or_lt_of_le hji with h | h
    · exact h.symm
    · have := List.pairwise_iff_getElem.1 hra j i hj hi h
      rw [e] at this
      omega
  subst hij
  refine ⟨?_, hj⟩
  rw [List.take_add_one, ho]
  simp [hj, e]
theorem ful_end {l out : List W64} {j : Nat} (ho : out = (ful r l).take j) (h : ∀ x ∈ l, x ∈ out) : out = ful r l := by
  have hle : (ful r l).length ≤ j := by
    rcases Nat.lt_or_ge j (ful r l).length with hj | hj
    · exfalso
      have hm := h _ ((mem_ful r hr).1 (List.getElem_mem hj))
      rw [ho, List.mem_take_iff_getElem] at hm
      obtain ⟨k, hk, ek⟩ := hm
      have := List.pairwise_iff_getElem.1 (ful_ra r hr l) k j (by omega) hj (by omega)
      rw [ek] at this
      omega
    · exact hj
  rw [ho, List.take_of_length_le hle]
end
/-- The best one of the first k that is not in out. -/
def BI (s : W64) (l out : List W64) (k : Nat) (best : W64) (some : Bool) : Prop :=
  (some = false ∧ ∀ x ∈ l.take k, x ∈ out) ∨ (some = true ∧ best ∈ l.take k ∧ best ∉ out ∧ ∀ x ∈ l.take k, x ∉ out → rk s best ≤ rk s x)
theorem BI.zero (s : W64) (l out : List W64) (b : W64) : BI s l out 0 b false := .inl ⟨rfl, by simp⟩
theorem take_getD {l : List W64} {k : Nat} (h : k < l.length) : l.take (k + 1) = l.take k ++ [l.getD k 0] := by
  rw [List.take_add_one]; simp [List.getD_eq_getElem?_getD, h]
theorem BI.had {s : W64} {l out : List W64} {k : Nat} {b : W64} {sm : Bool} (h : BI s l out k b sm) (hk : k < l.length) (hx : l.getD k 0 ∈ out) : BI s l out (k + 1) b sm := by
  unfold BI
  rw [take_getD hk]
  rcases h with ⟨h1, h2⟩ | ⟨h1, h2, h3, h4⟩
  · refine .inl ⟨h1, fun x hm => ?_⟩
    rcases List.mem_append.1 hm with e | e
    · exact h2 x e
    · rw [List.mem_singleton] at e; rw [e]; exact hx
  · refine .inr ⟨h1, List.mem_append_left _ h2, h3, fun x hm hn => ?_⟩
    rcases List.mem_append.1 hm with e | e
    · exact h4 x e hn
    · rw [List.mem_singleton] at e; rw [e] at hn; exact absurd hx hn
theorem BI.new {s : W64} {l out : List W64} {k : Nat} {b : W64} {sm : Bool} (h : BI s l out k b sm) (hk : k < l.length) (hx : l.getD k 0 ∉ out) (hb : sm = false ∨ rk s (l.getD k 0) < rk s b) : BI s l out (k + 1) (l.getD k 0) true := by
  unfold BI
  rw [take_getD hk]
  refine .inr ⟨rfl, by simp, hx, fun x hm hn => ?_⟩
  rcases List.mem_append.1 hm with e | e
  · rcases h with ⟨h1, h2⟩ | ⟨h1, h2, h3, h4⟩
    · exact absurd (h2 x e) hn
    · rcases hb with hb | hb
      · rw [h1] at hb; cases hb
      · have := h4 x e hn; omega
  · rw [List.mem_singleton] at e; rw [e]; exact Nat.le_refl _
theorem BI.old {s : W64} {l out : List W64} {k : Nat} {b : W64} (h : BI s l out k b true) (hk : k < l.length) (hb : ¬ rk s (l.getD k 0) < rk s b) : BI s l out (k + 1) b true := by
  unfold BI
  rw [take_getD hk]
  rcases h with ⟨h1, h2⟩ | ⟨h1, h2, h3, h4⟩
  · cases h1
  · refine .inr ⟨rfl, List.mem_append_left _ h2, h3, fun x hm hn => ?_⟩
    rcases List.mem_append.1 hm with e | e
    · exact h4 x e hn
    · rw [List.mem_singleton] at e; rw [e]; omega
theorem BI.done {s : W64} {l out : List W64} {j : Nat} {b : W64} {sm : Bool} (h : BI s l out l.length b sm) (ho : out = (ful (rk s) l).take j) : (sm = false ∧ out = ful (rk s) l) ∨ (sm = true ∧ out ++ [b] = (ful (rk s) l).take (j + 1) ∧ j < (ful (rk s) l).length) := by
  unfold BI at h
  rw [List.take_length] at h
  rcases h with ⟨h1, h2⟩ | ⟨h1, h2, h3, h4⟩
  · exact .inl ⟨h1, ful_end (fun x y => rk_inj) ho h2⟩
  · have := ful_next (fun x y => rk_inj) ho h2 h3 h4
    exact .inr ⟨h1, this.1, this.2⟩
end Go.Proofs.Ytnihcpaakbhpcaa
