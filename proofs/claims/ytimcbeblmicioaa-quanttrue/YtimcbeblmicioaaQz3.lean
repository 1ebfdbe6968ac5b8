/- quant: all; the least and the greatest; who stands near; few ones (ahead of the code; builds by itself). -/
import Derived.Test.YtimcbeblmicioaaQz2
namespace Go.Proofs.Ytimcbeblmicioaa

theorem qaddC_inv {p : Int} {S : List Rk} {xs : List Int} (h : QI p S xs) (x : Int) (h0 : (qaddC p S x).2 = 0) : QI p (qaddC p S x).1 (xs ++ [x]) := by
  unfold qaddC at h0 ⊢
  rw [if_pos h.right] at h0 ⊢
  by_cases h1 : S.length < 400 ∧ qtot S < 1099511627776
  · rw [if_pos h1]
    exact qadd_inv h h1.1 h1.2 x
  · rw [if_neg h1] at h0
    simp at h0
theorem qallG_inv {p : Int} : ∀ (xs ys : List Int) (S : List Rk), QI p S ys → (qallG p S xs).2 = 0 → QI p (qallG p S xs).1 (ys ++ xs)
  | [], ys, S, h, _ => by rw [List.append_nil]; exact h
  | x :: xs, ys, S, h, h0 => by
    unfold qallG at h0 ⊢
    by_cases h1 : (qaddC p S x).2 = 0
    · rw [if_pos h1] at h0 ⊢
      have := qallG_inv xs (ys ++ [x]) _ (qaddC_inv h x h1) h0
      rwa [List.append_assoc] at this
    · rw [if_neg h1] at h0
      exact absurd h0 h1
theorem qallC_inv {p : Int} {xs : List Int} (h : (qallC p xs).2 = 0) : QI p (qallC p xs).1 xs := by
  unfold qallC at h ⊢
  by_cases h1 : 1 ≤ p ∧ p ≤ 100
  · rw [if_pos h1] at h ⊢
    exact qallG_inv xs [] [] (QI.nil h1.1 h1.2) h
  · rw [if_neg h1] at h
    simp at h
theorem qallG_bad {p : Int} : ∀ (xs : List Int) (S : List Rk), (qallG p S xs).2 ≠ 0 → (qallG p S xs).1 = []
  | [], S, h => absurd rfl h
  | x :: xs, S, h => by
    unfold qallG at h ⊢
    by_cases h1 : (qaddC p S x).2 = 0
    · rw [if_pos h1] at h ⊢
      exact qallG_bad xs _ h
    · rw [if_neg h1]
theorem qallC_bad {p : Int} {xs : List Int} (h : (qallC p xs).2 ≠ 0) : (qallC p xs).1 = [] := by
  unfold qallC at h ⊢
  by_cases h1 : 1 ≤ p ∧ p ≤ 100
  · rw [if_pos h1] at h ⊢
    exact qallG_bad xs [] h
  · rw [if_neg h1]

/-! the least and the greatest -/
theorem QI.least {p : Int} {r : Rk} {l : List Rk} {xs : List Int} (h : QI p (r :: l) xs) : r.n ∈ xs ∧ ∀ x ∈ xs, r.n ≤ x := by
  obtain ⟨⟨h1, h2, h3, h5⟩, -⟩ := h.tru
  obtain ⟨f1, f2⟩ := h.first r l rfl
  exact ⟨h1, clt_none (by omega)⟩
theorem qtru_end {xs : List Int} : ∀ {l : List Rk} {a : Int} {z : Rk}, qtru xs a l → l.getLast? = some z → z.n ∈ xs ∧ a + qtot l ≤ cle xs z.n
  | [], _, _, _, h => by simp at h
  | [r], a, z, h, hz => by
    obtain ⟨⟨h1, h2, _, _⟩, _⟩ := h
    simp at hz
    rw [← hz]
    refine ⟨h1, ?_⟩
    simp only [qtot]; omega
  | r :: s :: l, a, z, h, hz => by
    obtain ⟨h1, h2⟩ := qtru_end (l := s :: l) (a := a + r.g) (z := z) h.2 (by simpa using hz)
    refine ⟨h1, ?_⟩
    rw [show qtot (r :: s :: l) = r.g + qtot (s :: l) from rfl]; omega
theorem QI.greatest {p : Int} {S : List Rk} {z : Rk} {xs : List Int} (h : QI p S xs) (hz : S.getLast? = some z) : z.n ∈ xs ∧ ∀ x ∈ xs, x ≤ z.n := by
  obtain ⟨h1, h2⟩ := qtru_end h.tru hz
  have := h.tot
  exact ⟨h1, cle_all (by omega)⟩
theorem QI.ne {p : Int} {S : List Rk} {xs : List Int} (h : QI p S xs) (hx : xs ≠ []) : S ≠ [] := by
  intro e
  have := h.tot
  rw [e] at this
  simp only [qtot] at this
  have h1 : xs.length = 0 := by omega
  exact hx (List.length_eq_zero_iff.1 h1)

/-! who stands near -/
/-- How far an entry stands behind a gaps. -/
def qfr (place a : Int) (r : Rk) : Int := if place - (a + r.g) < a + r.g + r.m - place then a + r.g + r.m - place else place - (a + r.g)
theorem qfr_le {place a b : Int} {r : Rk} (h : qfr place a r ≤ b) : place - (a + r.g) ≤ b ∧ a + r.g + r.m - place ≤ b := by
  unfold qfr at h
  split at h <;> omega
theorem qfr_of {place a b : Int} {r : Rk} (h1 : place - (a + r.g) ≤ b) (h2 : a + r.g + r.m - place ≤ b) : qfr place a r ≤ b := by
  unfold qfr
  split <;> omega
/-- All distances. -/
def qfars (place : Int) : Int → List Rk → List Int
  | _, [] => []
  | a, r :: l => qfr place a r :: qfars place (a + r.g) l
theorem qfars_len (place : Int) : ∀ (l : List Rk) (a : Int), (qfars place a l).length = l.length
  | [], _ => rfl
  | r :: l, a => by simp only [qfars, List.length_cons, qfars_len place l]
/-- Someone stands near: l lies behind a gaps, the one ahead of it has the more m0. -/
theorem qnear {place E T : Int} (hE : 0 ≤ E) : ∀ (l : List Rk) (a m0 : Int), (∀ r ∈ l, r.g + r.m ≤ E) → a + qtot l = T → place ≤ T → 2 * (a + m0 - place) ≤ E → (2 * (place - a) ≤ E ∧ 2 * (a + m0 - place) ≤ E) ∨ ∃ f ∈ qfars place a l, 2 * f ≤ E
  | [], a, m0, _, ht, hp, hm => by
    simp only [qtot] at ht
    exact .inl ⟨by omega, hm⟩
  | r :: l, a, m0, hl, ht, hp, hm => by
    have hr := hl r (List.mem_cons_self ..)
    simp only [qtot] at ht
    by_cases h : 2 * (a + r.g + r.m - place) ≤ E
    · rcases qnear hE l (a + r.g) r.m (fun y hy => hl y (List.mem_cons_of_mem _ hy)) (by omega) hp h with ⟨h1, h2⟩ | ⟨f, hf, h1⟩
      · refine .inr ⟨qfr place a r, List.mem_cons_self .., ?_⟩
        unfold qfr
        split <;> omega
      · exact .inr ⟨f, List.mem_cons_of_mem _ hf, h1⟩
    · exact .inl ⟨by omega, hm⟩
theorem QI.near {p : Int} {S : List Rk} {xs : List Int} (h : QI p S xs) {place : Int} (h1 : 1 ≤ place) (h2 : place ≤ xs.length) : ∃ f ∈ qfars place 0 S, f * p ≤ xs.length := by
  have hp := h.right.p1
  have htot := h.tot
  have hfit := h.right.fit
  obtain ⟨E, hE⟩ : ∃ E, E = (if 2 * qtot S / p < 1 then 1 else 2 * qtot S / p) := ⟨_, rfl⟩
  have hE1 : 1 ≤ E := by rw [hE]; split <;> omega
  have hE2 : E = 1 ∨ E = 2 * qtot S / p := by rw [hE]; split <;> omega
  have hl : ∀ r ∈ S, r.g + r.m ≤ E := fun r hr => by
    rcases hfit r hr with h3 | h3
    · omega
    · rw [hE]; split <;> omega
  have hfin : ∀ f : Int, 2 * f ≤ E → f * p ≤ xs.length := fun f hf => by
    rcases hE2 with h3 | h3
    · have : f ≤ 0 := by omega
      have := Int.mul_nonpos_of_nonpos_of_nonneg this (show 0 ≤ p by omega)
      omega
    · have h4 : 2 * qtot S / p * p ≤ 2 * qtot S := Int.ediv_mul_le _ (by omega)
      have h5 : 2 * f * p ≤ E * p := Int.mul_le_mul_of_nonneg_right hf (by omega)
      rw [← h3] at h4
      rw [Int.mul_assoc] at h5
      omega
  clear hE hE2
  cases hS : S with
  | nil => rw [hS] at htot; simp only [qtot] at htot; omega
  | cons r l =>
    rw [hS] at htot hl
    obtain ⟨f1, f2⟩ := h.first r l hS
    simp only [qtot] at htot
    rcases qnear (place := place) (T := (xs.length : Int)) (by omega) l (0 + r.g) r.m (fun y hy => hl y (List.mem_cons_of_mem _ hy)) (by omega) h2 (by omega) with ⟨g1, g2⟩ | ⟨f, hf, g1⟩
    · refine ⟨qfr place 0 r, List.mem_cons_self .., hfin _ ?_⟩
      unfold qfr
      split <;> omega
    · exact ⟨f, List.mem_cons_of_mem _ hf, hfin f g1⟩
/-- Each entry's value stands as near as its distance says. -/
theorem qtru_near {xs : List Int} {place : Int} : ∀ {l : List Rk} {a : Int} (i : Nat), qtru xs a l → ∀ (hi : i < l.length), l[i].n ∈ xs ∧ clt xs l[i].n + 1 - place ≤ (qfars place a l).getD i 0 ∧ place - cle xs l[i].n ≤ (qfars place a l).getD i 0
  | [], _, _, _, hi => by simp at hi
  | r :: l, a, 0, h, _ => by
    obtain ⟨⟨h1, h2, h3, h5⟩, -⟩ := h
    have := qfr_le (place := place) (a := a) (r := r) (Int.le_refl _)
    refine ⟨h1, ?_, ?_⟩
    · show clt xs r.n + 1 - place ≤ qfr place a r; omega
    · show place - cle xs r.n ≤ qfr place a r; omega
  | r :: l, a, i + 1, h, hi => by
    have := qtru_near (place := place) i h.2 (by simpa using hi)
    simpa [qfars] using this

/-! few ones -/
/-- All are stored by themselves. -/
def qone (S : List Rk) : Prop := ∀ r ∈ S, r.g = 1 ∧ r.m = 0
theorem qgo_one {b : Int} (hb : b ≤ 1) : ∀ {l : List Rk}, qone l → qgo b l = l
  | [], _ => rfl
  | [r], _ => rfl
  | r :: k :: l, h => by
    have ih := qgo_one hb (l := k :: l) (fun y hy => h y (List.mem_cons_of_mem _ hy))
    show qstep b r (qgo b (k :: l)) = _
    have h1 := h r (List.mem_cons_self ..)
    have h2 := h k (by simp)
    rw [ih, qstep_cons, if_neg (by omega)]
theorem qcmp_one {b : Int} (hb : b ≤ 1) {l : List Rk} (h : qone l) : qcmp b l = l := by
  cases l with
  | nil => rfl
  | cons r l => show r :: qgo b l = _; rw [qgo_one hb (fun y hy => h y (List.mem_cons_of_mem _ hy))]
theorem qins_one {S : List Rk} (h : qone S) (x : Int) : qone (qins S x) := by
  intro r hr
  rcases qins_mem hr with h1 | rfl
  · exact h r h1
  · refine ⟨rfl, ?_⟩
    show qmore (qlow x S) (qhigh x S) = 0
    cases hL : qlow x S with
    | nil => exact qmore_nil1 _
    | cons a L =>
      cases hH : qhigh x S with
      | nil => exact qmore_nil2 _
      | cons k H =>
        have := h k (qhigh_mem (x := x) (by rw [hH]; exact List.mem_cons_self ..)).1
        show k.g + k.m - 1 = 0
        omega
theorem qins_perm {S : List Rk} (h : qsrt S) (x : Int) : ((qins S x).map Rk.n).Perm (S.map Rk.n ++ [x]) := by
  have hsp := qsplit (x := x) h
  unfold qins
  conv => rhs; rw [hsp]
  rw [List.map_append, List.map_append, List.map_cons, List.append_assoc]
  exact (List.perm_append_left_iff _).2 (List.perm_append_comm (l₁ := [x]) (l₂ := (qhigh x S).map Rk.n))
theorem qadd_one {p : Int} {S : List Rk} (hR : QR p S) (h : qone S) (ht : qtot S + 1 < p) (x : Int) : qone (qadd p S x) ∧ ((qadd p S x).map Rk.n).Perm (S.map Rk.n ++ [x]) := by
  have hb : 2 * (qtot S + 1) / p ≤ 1 := by
    have := hR.p1
    have h1 : 2 * (qtot S + 1) / p < 2 := Int.ediv_lt_of_lt_mul (by omega) (by omega)
    omega
  unfold qadd
  rw [qcmp_one hb (qins_one h x)]
  exact ⟨qins_one h x, qins_perm hR.srt x⟩
theorem qallG_one {p : Int} : ∀ (xs ys : List Int) (S : List Rk), QI p S ys → qone S → (S.map Rk.n).Perm ys → ((ys ++ xs).length : Int) < p → (qallG p S xs).2 = 0 → qone (qallG p S xs).1 ∧ ((qallG p S xs).1.map Rk.n).Perm (ys ++ xs)
  | [], ys, S, _, h1, h2, _, _ => by rw [List.append_nil]; exact ⟨h1, h2⟩
  | x :: xs, ys, S, h, h1, h2, hp, h0 => by
    unfold qallG at h0 ⊢
    by_cases hx : (qaddC p S x).2 = 0
    · rw [if_pos hx] at h0 ⊢
      have hI := qaddC_inv h x hx
      have hadd : (qaddC p S x).1 = qadd p S x := by
        unfold qaddC at hx ⊢
        rw [if_pos h.right] at hx ⊢
        by_cases h3 : S.length < 400 ∧ qtot S < 1099511627776
        · rw [if_pos h3]
        · rw [if_neg h3] at hx; simp at hx
      have hlen : ((ys ++ x :: xs).length : Int) = ys.length + 1 + xs.length := by simp; omega
      have htot := h.tot
      have ho := qadd_one h.right h1 (by omega) x
      rw [← hadd] at ho
      have := qallG_one xs (ys ++ [x]) _ hI ho.1 (ho.2.trans (h2.append_right [x])) (by rw [List.append_assoc]; exact hp) h0
      rwa [List.append_assoc] at this
    · rw [if_neg hx] at h0
      exact absurd h0 hx
theorem qallC_one {p : Int} {xs : List Int} (h : (qallC p xs).2 = 0) (hx : (xs.length : Int) < p) : qone (qallC p xs).1 ∧ ((qallC p xs).1.map Rk.n).Perm xs := by
  unfold qallC at h ⊢
  by_cases h1 : 1 ≤ p ∧ p ≤ 100
  · rw [if_pos h1] at h ⊢
    exact qallG_one xs [] [] (QI.nil h1.1 h1.2) (fun r hr => by simp at hr) (List.Perm.refl _) (by simpa using hx) h
  · rw [if_neg h1] at h
    simp at h
end Go.Proofs.Ytimcbeblmicioaa
