/- Which indices are left, by a set of those that are gone. -/
import Derived.Test.YtgmbhlkjnamjhaaJ1
namespace Go.Proofs.Ytgmbhlkjnamjhaa

/-- The indices below n that are not gone. -/
def rem (n : Nat) (S : Int → Bool) : List Nat := (List.range n).filter (fun i : Nat => !S (i : Int))
def remX (xs : List Int) (S : Int → Bool) : List Int := (rem xs.length S).map (fun i => xs.getD i 0)
theorem rem_zero (S : Int → Bool) : rem 0 S = [] := rfl
theorem rem_in {n : Nat} {S : Int → Bool} (h : S (n : Int) = true) : rem (n + 1) S = rem n S := by simp [rem, List.range_succ, h]
theorem rem_out {n : Nat} {S : Int → Bool} (h : S (n : Int) = false) : rem (n + 1) S = rem n S ++ [n] := by simp [rem, List.range_succ, h]
theorem rem_len (n : Nat) (S : Int → Bool) : (rem n S).length ≤ n := by
  have := List.length_filter_le (fun i : Nat => !S (i : Int)) (List.range n)
  simpa [rem] using this
theorem remX_len (xs : List Int) (S : Int → Bool) : (remX xs S).length = (rem xs.length S).length := by simp [remX]
/-- The place that is found among the first n. -/
def atR (n : Nat) (S : Int → Bool) (h : Int) : Int := if 0 ≤ h ∧ h < ((rem n S).length : Int) then ((rem n S).getD h.toNat 0 : Nat) else -1
theorem atR_zero (S : Int → Bool) (h : Int) : atR 0 S h = -1 := by
  unfold atR
  rw [if_neg (by rw [rem_zero]; simp)]
theorem atR_in {n : Nat} {S : Int → Bool} {h : Int} (hs : S (n : Int) = true) : atR (n + 1) S h = atR n S h := by unfold atR; rw [rem_in hs]
theorem atR_hit {n : Nat} {S : Int → Bool} {h : Int} (hs : S (n : Int) = false) (e : h = ((rem n S).length : Int)) : atR (n + 1) S h = n := by
  unfold atR
  rw [rem_out hs, if_pos (by rw [List.length_append]; simp; omega)]
  subst e
  simp [List.getD_eq_getElem?_getD]
theorem atR_miss {n : Nat} {S : Int → Bool} {h : Int} (hs : S (n : Int) = false) (e : h ≠ ((rem n S).length : Int)) : atR (n + 1) S h = atR n S h := by
  unfold atR
  rw [rem_out hs]
  by_cases h1 : 0 ≤ h ∧ h < ((rem n S).length : Int)
  · rw [if_pos h1, if_pos (by rw [List.length_append]; simp; omega)]
    have h2 : h.toNat < (rem n S).length := by omega
    rw [List.getD_eq_getElem?_getD, List.getD_eq_getElem?_getD, List.getElem?_append_left h2]
  · rw [if_neg h1, if_neg (by rw [List.length_append]; simp; omega)]
theorem rem_succ_len {n : Nat} {S : Int → Bool} (hs : S (n : Int) = false) : (rem (n + 1) S).length = (rem n S).length + 1 := by rw [rem_out hs]; simp
theorem atR_bad {n : Nat} {S : Int → Bool} {h : Int} (hb : h < 0 ∨ ((rem n S).length : Int) ≤ h) : atR n S h = -1 := by
  unfold atR
  rw [if_neg (by omega)]
theorem atR_ok {n : Nat} {S : Int → Bool} {h : Nat} (hb : h < (rem n S).length) : atR n S h = (((rem n S).getD h 0 : Nat) : Int) := by
  unfold atR
  rw [if_pos (by omega), Int.toNat_natCast]
theorem filter_ne : ∀ (l : List Nat) (h : Nat), l.Nodup → h < l.length → l.filter (fun i => !(i == l.getD h 0)) = l.eraseIdx h
  | [], h, _, hh => by simp at hh
  | a :: l, 0, hn, _ => by
    rw [List.nodup_cons] at hn
    simp only [List.getD_cons_zero, List.eraseIdx_cons_zero]
    rw [List.filter_cons_of_neg (by simp), List.filter_eq_self]
    intro x hx
    have : x ≠ a := fun e => hn.1 (e ▸ hx)
    simp [this]
  | a :: l, h + 1, hn, hh => by
    rw [List.nodup_cons] at hn
    have hl : h < l.length := by simpa using hh
    simp only [List.getD_cons_succ, List.eraseIdx_cons_succ]
    have hm : l.getD h 0 ∈ l := by
      rw [List.getD_eq_getElem?_getD, List.getElem?_eq_getElem hl]
      exact List.getElem_mem hl
    have hne : a ≠ l.getD h 0 := fun e => hn.1 (e ▸ hm)
    rw [List.filter_cons_of_pos (by rw [Bool.not_eq_true', beq_eq_false_iff_ne]; exact hne), filter_ne l h hn.2 hl]
theorem rem_nodup (n : Nat) (S : Int → Bool) : (rem n S).Nodup := (List.filter_sublist).nodup List.nodup_range
theorem rem_put {n : Nat} {S : Int → Bool} {h : Nat} (hb : h < (rem n S).length) : rem n (fun z => z == (((rem n S).getD h 0 : Nat) : Int) || S z) = (rem n S).eraseIdx h := by
  rw [← filter_ne (rem n S) h (rem_nodup n S) hb]
  obtain ⟨j, hj⟩ : ∃ j, (rem n S).getD h 0 = j := ⟨_, rfl⟩
  rw [hj]
  unfold rem
  rw [List.filter_filter]
  congr 1
  funext i
  have : (((i : Nat) : Int) == ((j : Nat) : Int)) = (i == j) := by
    rw [Bool.eq_iff_iff, beq_iff_eq, beq_iff_eq]
    omega
  show (!((((i : Nat) : Int) == ((j : Nat) : Int)) || S (i : Int))) = _
  rw [this]
  cases (i == j) <;> simp
theorem rem_lt {n : Nat} {S : Int → Bool} {h : Nat} (hb : h < (rem n S).length) : (rem n S).getD h 0 < n := by
  have hm : (rem n S).getD h 0 ∈ rem n S := by
    rw [List.getD_eq_getElem?_getD, List.getElem?_eq_getElem hb]
    exact List.getElem_mem hb
  unfold rem at hm
  exact List.mem_range.1 (List.mem_filter.1 hm).1
theorem map_erase (f : Nat → Int) : ∀ (l : List Nat) (h : Nat), (l.eraseIdx h).map f = (l.map f).eraseIdx h
  | [], h => by simp
  | a :: l, 0 => by simp
  | a :: l, h + 1 => by simp [map_erase f l h]
theorem remX_put {xs : List Int} {S : Int → Bool} {h : Nat} (hb : h < (rem xs.length S).length) : remX xs (fun z => z == (((rem xs.length S).getD h 0 : Nat) : Int) || S z) = (remX xs S).eraseIdx h := by
  unfold remX
  rw [rem_put hb, map_erase]
theorem remX_at {xs : List Int} {S : Int → Bool} {h : Nat} (hb : h < (rem xs.length S).length) : (remX xs S).getD h 0 = xs.getD ((rem xs.length S).getD h 0) 0 := by
  unfold remX
  simp [List.getD_eq_getElem?_getD, hb]
theorem remX_all (xs : List Int) : remX xs (fun _ => false) = xs := by
  unfold remX rem
  rw [List.filter_eq_self.2 (by simp)]
  apply List.ext_getElem?
  intro i
  by_cases hi : i < xs.length
  · simp [hi, List.getD_eq_getElem?_getD]
  · rw [List.getElem?_eq_none (by simpa using hi), List.getElem?_eq_none (by omega)]
end Go.Proofs.Ytgmbhlkjnamjhaa
