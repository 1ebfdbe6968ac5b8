/- quant: each entry says true; what insertion keeps (ahead of the code; builds by itself). -/
import Derived.Test.YtclfimpcacoefaaQz0
namespace Go.Proofs.Ytclfimpcacoefaa

/-- How many are at most y; how many are less. -/
def cle (xs : List Int) (y : Int) : Int := (xs.countP (fun x => decide (x ≤ y)) : Nat)
def clt (xs : List Int) (y : Int) : Int := (xs.countP (fun x => decide (x < y)) : Nat)
theorem cle_snoc (xs : List Int) (x y : Int) : cle (xs ++ [x]) y = cle xs y + if x ≤ y then 1 else 0 := by
  unfold cle
  rw [List.countP_append, List.countP_singleton]
  by_cases h : x ≤ y
  · rw [decide_eq_true h, if_pos h]; simp
  · rw [decide_eq_false h, if_neg h]; simp
theorem clt_snoc (xs : List Int) (x y : Int) : clt (xs ++ [x]) y = clt xs y + if x < y then 1 else 0 := by
  unfold clt
  rw [List.countP_append, List.countP_singleton]
  by_cases h : x < y
  · rw [decide_eq_true h, if_pos h]; simp
  · rw [decide_eq_false h, if_neg h]; simp
theorem cle_mono (xs : List Int) {y z : Int} (h : y ≤ z) : cle xs y ≤ cle xs z := by
  unfold cle
  have := List.countP_mono_left (l := xs) (p := fun x => decide (x ≤ y)) (q := fun x => decide (x ≤ z)) (fun x _ hx => by simp only [decide_eq_true_eq] at *; omega)
  omega
theorem clt_mono (xs : List Int) {y z : Int} (h : y ≤ z) : clt xs y ≤ clt xs z := by
  unfold clt
  have := List.countP_mono_left (l := xs) (p := fun x => decide (x < y)) (q := fun x => decide (x < z)) (fun x _ hx => by simp only [decide_eq_true_eq] at *; omega)
  omega
theorem cle_le (xs : List Int) (y : Int) : 0 ≤ cle xs y ∧ cle xs y ≤ xs.length := by
  unfold cle
  have := List.countP_le_length (l := xs) (p := fun x => decide (x ≤ y))
  omega
theorem clt_le (xs : List Int) (y : Int) : 0 ≤ clt xs y ∧ clt xs y ≤ xs.length := by
  unfold clt
  have := List.countP_le_length (l := xs) (p := fun x => decide (x < y))
  omega
theorem cle_all {xs : List Int} {y : Int} (h : (xs.length : Int) ≤ cle xs y) : ∀ x ∈ xs, x ≤ y := by
  unfold cle at h
  have h1 := List.countP_le_length (l := xs) (p := fun x => decide (x ≤ y))
  have h2 : xs.countP (fun x => decide (x ≤ y)) = xs.length := by omega
  intro x hx
  simpa using (List.countP_eq_length.1 h2) x hx
theorem clt_none {xs : List Int} {y : Int} (h : clt xs y ≤ 0) : ∀ x ∈ xs, y ≤ x := by
  unfold clt at h
  have h2 : xs.countP (fun x => decide (x < y)) = 0 := by omega
  intro x hx
  have := (List.countP_eq_zero.1 h2) x hx
  simp only [decide_eq_true_eq] at this
  omega

/-- Behind a gaps, each entry says true of the stream. -/
def qtru (xs : List Int) : Int → List Rk → Prop
  | _, [] => True
  | a, r :: l => (r.n ∈ xs ∧ a + r.g ≤ cle xs r.n ∧ clt xs r.n + 1 ≤ a + r.g + r.m ∧ a + r.g + r.m ≤ xs.length) ∧ qtru xs (a + r.g) l
theorem qtru_app (xs : List Int) : ∀ (A B : List Rk) (a : Int), qtru xs a (A ++ B) ↔ qtru xs a A ∧ qtru xs (a + qtot A) B
  | [], B, a => by simp [qtru, qtot]
  | r :: A, B, a => by
    have := qtru_app xs A B (a + r.g)
    simp only [List.cons_append, qtru, qtot, this, and_assoc, Int.add_assoc]
theorem qtru_go (xs : List Int) (b : Int) : ∀ (l : List Rk) (a : Int), qtru xs a l → qtru xs a (qgo b l)
  | [], _, _ => trivial
  | r :: l, a, h => by
    obtain ⟨h1, h2⟩ := h
    have ih := qtru_go xs b l (a + r.g) h2
    show qtru xs a (qstep b r (qgo b l))
    cases hq : qgo b l with
    | nil => exact ⟨h1, trivial⟩
    | cons k l' =>
      rw [hq] at ih
      obtain ⟨⟨i1, i2, i3, i5⟩, i4⟩ := ih
      rw [qstep_cons]
      split
      · refine ⟨⟨i1, ?_, ?_, ?_⟩, ?_⟩
        · show a + (k.g + r.g) ≤ cle xs k.n; omega
        · show clt xs k.n + 1 ≤ a + (k.g + r.g) + k.m; omega
        · show a + (k.g + r.g) + k.m ≤ xs.length; omega
        · show qtru xs (a + (k.g + r.g)) l'
          rwa [show a + (k.g + r.g) = a + r.g + k.g by omega]
      · exact ⟨h1, ⟨i1, i2, i3, i5⟩, i4⟩
theorem qtru_cmp {xs : List Int} {b a : Int} {l : List Rk} (h : qtru xs a l) : qtru xs a (qcmp b l) := by
  cases l with
  | nil => trivial
  | cons r l => exact ⟨h.1, qtru_go xs b l _ h.2⟩
theorem qtru_low (xs : List Int) (x : Int) : ∀ (L : List Rk) (a : Int), (∀ r ∈ L, r.n ≤ x) → qtru xs a L → qtru (xs ++ [x]) a L
  | [], _, _, _ => trivial
  | r :: L, a, hx, h => by
    obtain ⟨⟨h1, h2, h3, h5⟩, h4⟩ := h
    have hr := hx r (List.mem_cons_self ..)
    have hl : ((xs ++ [x]).length : Int) = xs.length + 1 := by simp
    refine ⟨⟨List.mem_append_left _ h1, ?_, ?_, by omega⟩, qtru_low xs x L _ (fun y hy => hx y (List.mem_cons_of_mem _ hy)) h4⟩
    · rw [cle_snoc]; split <;> omega
    · rw [clt_snoc, if_neg (by omega)]; omega
theorem qtru_high (xs : List Int) (x : Int) : ∀ (H : List Rk) (a : Int), (∀ r ∈ H, x < r.n) → qtru xs a H → qtru (xs ++ [x]) (a + 1) H
  | [], _, _, _ => trivial
  | r :: H, a, hx, h => by
    obtain ⟨⟨h1, h2, h3, h5⟩, h4⟩ := h
    have hr := hx r (List.mem_cons_self ..)
    have hl : ((xs ++ [x]).length : Int) = xs.length + 1 := by simp
    refine ⟨⟨List.mem_append_left _ h1, ?_, ?_, by omega⟩, ?_⟩
    · rw [cle_snoc, if_pos (by omega)]; omega
    · rw [clt_snoc, if_pos hr]; omega
    · have := qtru_high xs x H _ (fun y hy => hx y (List.mem_cons_of_mem _ hy)) h4
      rwa [show a + r.g + 1 = a + 1 + r.g by omega] at this
theorem qtru_reach (xs : List Int) (x : Int) : ∀ (L : List Rk) (a : Int), (∀ r ∈ L, r.n ≤ x) → qtru xs a L → a ≤ cle xs x → a + qtot L ≤ cle xs x
  | [], a, _, _, h => by simpa [qtot] using h
  | r :: L, a, hx, h, ha => by
    obtain ⟨⟨h1, h2, h3, h5⟩, h4⟩ := h
    have := qtru_reach xs x L (a + r.g) (fun y hy => hx y (List.mem_cons_of_mem _ hy)) h4 (Int.le_trans h2 (cle_mono xs (hx r (List.mem_cons_self ..))))
    simp only [qtot]; omega
theorem qlow_mem {x : Int} {S : List Rk} {r : Rk} (h : r ∈ qlow x S) : r ∈ S ∧ r.n ≤ x := by
  unfold qlow at h
  rw [List.mem_filter, decide_eq_true_eq] at h
  exact h
theorem qhigh_mem {x : Int} {S : List Rk} {r : Rk} (h : r ∈ qhigh x S) : r ∈ S ∧ x < r.n := by
  unfold qhigh at h
  rw [List.mem_filter, decide_eq_true_eq] at h
  exact h
theorem qsplit {x : Int} : ∀ {S : List Rk}, qsrt S → S = qlow x S ++ qhigh x S
  | [], _ => rfl
  | r :: S, h => by
    unfold qsrt at h
    rw [List.pairwise_cons] at h
    by_cases hr : r.n ≤ x
    · have h1 : qlow x (r :: S) = r :: qlow x S := by simp [qlow, hr]
      have h2 : qhigh x (r :: S) = qhigh x S := by
        unfold qhigh
        rw [List.filter_cons, if_neg (by simp; omega)]
      rw [h1, h2, List.cons_append, ← qsplit (S := S) h.2]
    · have h1 : qlow x (r :: S) = [] := by
        unfold qlow
        rw [List.filter_eq_nil_iff]
        intro y hy
        rcases List.mem_cons.1 hy with rfl | hy
        · simp; omega
        · have := h.1 y hy; simp; omega
      have h2 : qhigh x (r :: S) = r :: S := by
        unfold qhigh
        rw [List.filter_eq_self]
        intro y hy
        rcases List.mem_cons.1 hy with rfl | hy
        · simp; omega
        · have := h.1 y hy; simp; omega
      rw [h1, h2]; rfl

/-- The summary S stands for the stream xs. -/
structure QI (p : Int) (S : List Rk) (xs : List Int) : Prop where
  right : QR p S
  tot : qtot S = xs.length
  tru : qtru xs 0 S
  first : ∀ r l, S = r :: l → r.g = 1 ∧ r.m = 0
  last : ∀ r, S.getLast? = some r → r.m = 0
theorem QI.nil {p : Int} (h1 : 1 ≤ p) (h2 : p ≤ 100) : QI p [] [] :=
  by
  refine ⟨⟨h1, h2, by simp, ?_, List.Pairwise.nil, by simp [qtot], ?_⟩, rfl, trivial, ?_, ?_⟩
  · intro r hr; simp at hr
  · intro r hr; simp at hr
  · intro r l h; cases h
  · intro r h; simp at h
theorem qmore_nil1 (H : List Rk) : qmore [] H = 0 := by cases H <;> rfl
theorem qmore_nil2 (L : List Rk) : qmore L [] = 0 := by cases L <;> rfl

/-- What a new entry's more says: together with all gaps up to it it is that of the next one. -/
theorem qins_tru {p : Int} {S : List Rk} {xs : List Int} (h : QI p S xs) (x : Int) : qtru (xs ++ [x]) 0 (qins S x) := by
  have hsp := qsplit (x := x) h.right.srt
  have ht := h.tru
  have htot := h.tot
  have hL : ∀ r ∈ qlow x S, r.n ≤ x := fun r hr => (qlow_mem hr).2
  have hH : ∀ r ∈ qhigh x S, x < r.n := fun r hr => (qhigh_mem hr).2
  have hlast := h.last
  have hfirst := h.first
  unfold qins
  generalize qlow x S = L at *
  generalize qhigh x S = H at *
  rw [hsp, qtru_app] at ht
  rw [hsp, qtot_app] at htot
  obtain ⟨t1, t2⟩ := ht
  have hl : ((xs ++ [x]).length : Int) = xs.length + 1 := by simp
  have hr := qtru_reach xs x L 0 hL t1 (cle_le xs x).1
  rw [qtru_app]
  refine ⟨qtru_low xs x L 0 hL t1, ⟨⟨by simp, ?_, ?_, ?_⟩, ?_⟩⟩
  · show 0 + qtot L + 1 ≤ cle (xs ++ [x]) x
    rw [cle_snoc, if_pos (Int.le_refl _)]; omega
  · show clt (xs ++ [x]) x + 1 ≤ 0 + qtot L + 1 + qmore L H
    rw [clt_snoc, if_neg (by omega)]
    cases H with
    | nil =>
      rw [qmore_nil2]
      simp only [qtot] at htot
      have := (clt_le xs x).2
      omega
    | cons k H =>
      obtain ⟨⟨k1, k2, k3, k5⟩, -⟩ := t2
      have hk := clt_mono xs (Int.le_of_lt (hH k (List.mem_cons_self ..)))
      cases L with
      | nil =>
        rw [qmore_nil1]
        obtain ⟨f1, f2⟩ := hfirst k H hsp
        simp only [qtot] at k3 ⊢
        omega
      | cons a L =>
        show clt xs x + 0 + 1 ≤ 0 + qtot (a :: L) + 1 + (k.g + k.m - 1)
        omega
  · show 0 + qtot L + 1 + qmore L H ≤ ((xs ++ [x]).length : Int)
    rw [hl]
    cases H with
    | nil =>
      rw [qmore_nil2]
      simp only [qtot] at htot
      omega
    | cons k H =>
      obtain ⟨⟨k1, k2, k3, k5⟩, -⟩ := t2
      cases L with
      | nil => rw [qmore_nil1]; simp only [qtot] at k3 k5 ⊢; have := (clt_le xs k.n).1; omega
      | cons a L =>
        show 0 + qtot (a :: L) + 1 + (k.g + k.m - 1) ≤ _
        omega
  · show qtru (xs ++ [x]) (0 + qtot L + 1) H
    exact qtru_high xs x H _ hH t2
end Go.Proofs.Ytclfimpcacoefaa
