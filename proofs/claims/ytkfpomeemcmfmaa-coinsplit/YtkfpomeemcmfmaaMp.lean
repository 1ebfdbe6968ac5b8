/- lotdrawerkeep.CoinSplit: the walk. -/
import Derived.Test.YtkfpomeemcmfmaaC4
import Derived.Test.YtkfpomeemcmfmaaCs
import Derived.Test.YtkfpomeemcmfmaaMl
namespace Go.Proofs.Ytkfpomeemcmfmaa
open Go.RowKit Go.Deep

theorem totF_nis (ws : List Nat) : ∀ s, s + ws.sum ≤ 1099511627776 → totF s (nis ws) = some (s + ws.sum) := by
  induction ws with
  | nil => intro s h; simp [nis, totF]
  | cons x ws ih =>
    intro s h
    rw [List.sum_cons] at h
    have : nis (x :: ws) = (x : Int) :: nis ws := rfl
    rw [this, totF_ok (by omega), Int.toNat_natCast, ih _ (by omega), List.sum_cons, Nat.add_assoc]
theorem ofF_lt : ∀ {ws : List Nat} {s : Nat} {t : List Bool} {k u : Nat}, ofF ws s t = some (k, u) → k < ws.length := by
  intro ws
  induction ws with
  | nil => intro s t k u h; simp [ofF] at h
  | cons x ws ih =>
    intro s t k u h
    cases e : tosG x s t with
    | none => rw [ofF_none e] at h; simp at h
    | some p =>
      obtain ⟨b, v⟩ := p
      cases b with
      | true => rw [ofF_yes e] at h; simp at h; rw [← h.1]; simp
      | false =>
        rw [ofF_no e] at h
        cases e2 : ofF ws (s - x) (t.drop v) with
        | none => rw [e2] at h; simp [tsh] at h
        | some p =>
          obtain ⟨k', u'⟩ := p
          rw [e2] at h
          simp [tsh] at h
          have := ih e2
          simp; omega
theorem off_nis {ws : List Nat} (h0 : 0 < ws.sum) (h1 : ws.sum ≤ 1099511627776) (t : List Bool) : off t (nis ws) = tans (ofF ws ws.sum t) := by
  refine off_good h0 ?_
  have := totF_nis ws 0 (by omega)
  rwa [Nat.zero_add] at this
/-- How often each index was drawn by the first x tapes, how many of them ended. -/
def SRel (ws : List Nat) (n x : Nat) (cs : List Nat) (E : Nat) : Prop :=
  cs.length = ws.length ∧ (∀ k, k < ws.length → cs.getD k 0 = runS (fun i => hit k (ofF ws ws.sum (bitsOf i n))) x) ∧ E = runS (fun i => fin (ofF ws ws.sum (bitsOf i n))) x ∧ (∀ k, k < ws.length → cs.getD k 0 ≤ x) ∧ E ≤ x
theorem srel_start (ws : List Nat) (n : Nat) : SRel ws n 0 (List.replicate ws.length 0) 0 :=
  ⟨by simp, fun k hk => by simp [runS, List.getD_eq_getElem?_getD, hk], rfl, fun k hk => by simp [List.getD_eq_getElem?_getD, hk], Nat.le_refl _⟩
theorem srel_end {ws : List Nat} {n x : Nat} {cs : List Nat} {E : Nat} (h : SRel ws n x cs E) (e : ofF ws ws.sum (bitsOf x n) = none) : SRel ws n (x + 1) cs (E + 1) := by
  obtain ⟨h1, h2, h3, h4, h5⟩ := h
  refine ⟨h1, fun k hk => ?_, ?_, fun k hk => by have := h4 k hk; omega, by omega⟩
  · rw [runS, e, h2 k hk]; rfl
  · rw [runS, e, h3]; rfl
theorem srel_hit {ws : List Nat} {n x : Nat} {cs : List Nat} {E j u : Nat} (h : SRel ws n x cs E) (e : ofF ws ws.sum (bitsOf x n) = some (j, u)) : SRel ws n (x + 1) (cs.set j (cs.getD j 0 + 1)) E := by
  obtain ⟨h1, h2, h3, h4, h5⟩ := h
  have hj := ofF_lt e
  have hg : ∀ k, k < ws.length → (cs.set j (cs.getD j 0 + 1)).getD k 0 = cs.getD k 0 + (if j = k then 1 else 0) := by
    intro k hk
    simp only [List.getD_eq_getElem?_getD]
    rw [List.getElem?_set]
    by_cases ek : j = k
    · subst ek
      rw [if_pos rfl, if_pos (by omega), if_pos rfl]
      simp
    · rw [if_neg ek, if_neg ek]; simp
  refine ⟨by simpa using h1, fun k hk => ?_, ?_, fun k hk => ?_, by omega⟩
  · rw [runS, e, hg k hk, h2 k hk]; rfl
  · rw [runS, e, h3]; rfl
  · rw [hg k hk]
    have := h4 k hk
    split <;> omega
theorem runS_two (f g : Nat → Nat) : ∀ x, runS f x + runS g x = runS (fun i => f i + g i) x
  | 0 => rfl
  | x + 1 => by simp only [runS]; rw [← runS_two f g x]; omega
/-- What is asked of each index. -/
theorem srel_just {ws : List Nat} {n : Nat} {cs : List Nat} {E : Nat} (h : SRel ws n (2 ^ n) cs E) (h0 : 0 < ws.sum) {k : Nat} (hk : k < ws.length) :
    cs.getD k 0 * ws.sum ≤ ws.getD k 0 * 2 ^ n ∧ ws.getD k 0 * 2 ^ n ≤ (cs.getD k 0 + E) * ws.sum := by
  obtain ⟨h1, h2, h3, h4, h5⟩ := h
  rw [h2 k hk, h3, runS_two, runS_sumT n (fun t => hit k (ofF ws ws.sum t)), runS_sumT n (fun t => hit k (ofF ws ws.sum t) + fin (ofF ws ws.sum t))]
  exact ⟨split_le ws k n h0, split_ge ws k n h0⟩
theorem nis_set (cs : List Nat) (j v : Nat) : (nis cs).set j (v : Int) = nis (cs.set j v) := by
  unfold nis; rw [List.map_set]
theorem nis_append (a b : List Nat) : nis (a ++ b) = nis a ++ nis b := by simp [nis]
/-- The block of the counts. -/
def TB (w : World) (g : Nat) (cs : List Nat) : Prop := Bs 3 w g (ivs (nis cs))
theorem TB.cell {w : World} {g : Nat} {cs : List Nat} (h : TB w g cs) {j : Nat} (hj : j < cs.length) : w.cell? ⟨g, j, none⟩ = some (.int .i64 ((cs.getD j 0 : Nat) : Int)) ∧ w.frozen? ⟨g, j, none⟩ = false := by
  refine ⟨?_, Bs.frozen h j⟩
  rw [Bs.cell h (by rw [ivs_len, nis_len]; exact hj), ivs_at (by rw [nis_len]; exact hj), nis_at hj]
theorem TB.set {w : World} {g : Nat} {cs : List Nat} (h : TB w g cs) (j v : Nat) : TB (w.setCell ⟨g, j, none⟩ (.int .i64 (v : Int))) g (cs.set j v) := by
  have := Bs.set h j (.int .i64 (v : Int))
  unfold TB
  have e : (ivs (nis cs)).set j (.int .i64 (v : Int)) = ivs (nis (cs.set j v)) := by
    rw [← nis_set]; unfold ivs; rw [List.map_set]
  rw [e] at this
  exact this
theorem TB.below {w w' : World} {g B : Nat} {cs : List Nat} (h : TB w g cs) (hb : Below B w w') (hg : g < B) : TB w' g cs := Bs.below h hb hg
theorem TB.lt {w : World} {g : Nat} {cs : List Nat} (h : TB w g cs) : g < w.heap.size := Bs.lt h
theorem TB.made (w : World) (k : Nat) : TB (w.alloc (.cells (madeCells #[.int .i64 0] k) 3)) w.heap.size (List.replicate k 0) := by
  have := Bs.made 3 w (.int .i64 0) k
  unfold TB
  simpa [ivs, nis] using this
end Go.Proofs.Ytkfpomeemcmfmaa
