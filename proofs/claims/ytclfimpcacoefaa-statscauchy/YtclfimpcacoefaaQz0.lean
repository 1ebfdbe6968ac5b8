/- quant: summaries, insertion, compression (written ahead of the code; builds by itself). -/
import Derived.Test.YtclfimpcacoefaaB0
namespace Go.Proofs.Ytclfimpcacoefaa

/-- An entry: its value, its gap, its more. -/
structure Rk where
  n : Int
  g : Int
  m : Int
/-- All gaps. -/
def qtot : List Rk → Int
  | [] => 0
  | r :: l => r.g + qtot l
theorem qtot_app (a b : List Rk) : qtot (a ++ b) = qtot a + qtot b := by
  induction a with
  | nil => simp [qtot]
  | cons r l ih => simp only [List.cons_append, qtot, ih]; omega
/-- One entry ahead of compressed ones: it is taken up by the next one, or it stays. -/
def qstep (b : Int) (r : Rk) : List Rk → List Rk
  | [] => [r]
  | h :: l => if r.g + h.g + h.m ≤ b then ⟨h.n, h.g + r.g, h.m⟩ :: l else r :: h :: l
theorem qstep_cons (b : Int) (r h : Rk) (l : List Rk) : qstep b r (h :: l) = if r.g + h.g + h.m ≤ b then ⟨h.n, h.g + r.g, h.m⟩ :: l else r :: h :: l := rfl
/-- All compressed, the first one too. -/
def qgo (b : Int) : List Rk → List Rk
  | [] => []
  | r :: l => qstep b r (qgo b l)
/-- All but the first compressed. -/
def qcmp (b : Int) : List Rk → List Rk
  | [] => []
  | r :: l => r :: qgo b l
def qlow (x : Int) (S : List Rk) : List Rk := S.filter fun r => decide (r.n ≤ x)
def qhigh (x : Int) (S : List Rk) : List Rk := S.filter fun r => decide (x < r.n)
/-- The new entry's more. -/
def qmore : List Rk → List Rk → Int
  | _ :: _, h :: _ => h.g + h.m - 1
  | _, _ => 0
def qins (S : List Rk) (x : Int) : List Rk := qlow x S ++ ⟨x, 1, qmore (qlow x S) (qhigh x S)⟩ :: qhigh x S
def qadd (p : Int) (S : List Rk) (x : Int) : List Rk := qcmp (2 * (qtot S + 1) / p) (qins S x)

/-- Sorted by the values. -/
def qsrt (S : List Rk) : Prop := S.Pairwise fun a b => a.n ≤ b.n
/-- A valid summary. -/
structure QR (p : Int) (S : List Rk) : Prop where
  p1 : 1 ≤ p
  p2 : p ≤ 100
  len : S.length ≤ 400
  each : ∀ r ∈ S, 1 ≤ r.g ∧ r.g ≤ 1099511627776 ∧ 0 ≤ r.m ∧ r.m ≤ 1099511627776
  srt : qsrt S
  tot : qtot S ≤ 1099511627776
  fit : ∀ r ∈ S, r.g + r.m ≤ 1 ∨ r.g + r.m ≤ 2 * qtot S / p
open Classical in
/-- What Add answers. -/
noncomputable def qaddC (p : Int) (S : List Rk) (x : Int) : List Rk × Int :=
  if QR p S then (if S.length < 400 ∧ qtot S < 1099511627776 then (qadd p S x, 0) else ([], 4)) else ([], 1)
/-- What comes of adding one after the other. -/
noncomputable def qallG (p : Int) : List Rk → List Int → List Rk × Int
  | S, [] => (S, 0)
  | S, x :: xs => if (qaddC p S x).2 = 0 then qallG p (qaddC p S x).1 xs else ([], (qaddC p S x).2)
/-- What All answers. -/
noncomputable def qallC (p : Int) (xs : List Int) : List Rk × Int := if 1 ≤ p ∧ p ≤ 100 then qallG p [] xs else ([], 2)

/-! compression -/
theorem qgo_tot (b : Int) : ∀ l, qtot (qgo b l) = qtot l
  | [] => rfl
  | r :: l => by
    have ih := qgo_tot b l
    show qtot (qstep b r (qgo b l)) = r.g + qtot l
    rw [← ih]
    cases qgo b l with
    | nil => rfl
    | cons h l' =>
      rw [qstep_cons]
      split <;> simp only [qtot] <;> omega
theorem qcmp_tot (b : Int) (l : List Rk) : qtot (qcmp b l) = qtot l := by
  cases l with
  | nil => rfl
  | cons r l => simp only [qcmp, qtot, qgo_tot]
theorem qgo_len (b : Int) : ∀ l, (qgo b l).length ≤ l.length
  | [] => Nat.le_refl _
  | r :: l => by
    have ih := qgo_len b l
    show (qstep b r (qgo b l)).length ≤ l.length + 1
    cases h : qgo b l with
    | nil => simp [qstep]
    | cons h' l' =>
      rw [h] at ih
      rw [qstep_cons]
      split <;> simp only [List.length_cons] at ih ⊢ <;> omega
theorem qcmp_len (b : Int) (l : List Rk) : (qcmp b l).length ≤ l.length := by
  cases l with
  | nil => exact Nat.le_refl _
  | cons r l => have := qgo_len b l; simp only [qcmp, List.length_cons]; omega
theorem qgo_ne (b : Int) (r : Rk) (l : List Rk) : qgo b (r :: l) ≠ [] := by
  show qstep b r (qgo b l) ≠ []
  cases qgo b l with
  | nil => simp [qstep]
  | cons h l' => rw [qstep_cons]; split <;> simp
/-- What holds of each entry, and of an entry that takes one ahead of it up, holds of all compressed ones. -/
theorem qgo_each {b : Int} {P : Rk → Prop} (hP : ∀ r h : Rk, P r → P h → r.g + h.g + h.m ≤ b → P ⟨h.n, h.g + r.g, h.m⟩) : ∀ l, (∀ r ∈ l, P r) → ∀ r ∈ qgo b l, P r
  | [], _ => fun r hr => by simp [qgo] at hr
  | r :: l, H => by
    have ih := qgo_each hP l (fun r hr => H r (List.mem_cons_of_mem _ hr))
    have hr := H r (List.mem_cons_self ..)
    show ∀ y ∈ qstep b r (qgo b l), P y
    cases hq : qgo b l with
    | nil => intro y hy; simp [qstep] at hy; rw [hy]; exact hr
    | cons h l' =>
      rw [hq] at ih
      have hh := ih h (List.mem_cons_self ..)
      rw [qstep_cons]
      split
      · rename_i hle
        intro y hy
        rcases List.mem_cons.1 hy with rfl | hy
        · exact hP r h hr hh hle
        · exact ih y (List.mem_cons_of_mem _ hy)
      · intro y hy
        rcases List.mem_cons.1 hy with rfl | hy
        · exact hr
        · exact ih y hy
theorem qcmp_each {b : Int} {P : Rk → Prop} (hP : ∀ r h : Rk, P r → P h → r.g + h.g + h.m ≤ b → P ⟨h.n, h.g + r.g, h.m⟩) (l : List Rk) (H : ∀ r ∈ l, P r) : ∀ r ∈ qcmp b l, P r := by
  cases l with
  | nil => intro r hr; simp [qcmp] at hr
  | cons r l =>
    intro y hy
    rcases List.mem_cons.1 (show y ∈ r :: qgo b l from hy) with rfl | hy
    · exact H y (List.mem_cons_self ..)
    · exact qgo_each hP l (fun z hz => H z (List.mem_cons_of_mem _ hz)) y hy
/-- The values that stay are some of those that were, in their order. -/
theorem qgo_sub (b : Int) : ∀ l, ((qgo b l).map Rk.n).Sublist (l.map Rk.n)
  | [] => List.Sublist.refl _
  | r :: l => by
    have ih := qgo_sub b l
    show ((qstep b r (qgo b l)).map Rk.n).Sublist (r.n :: l.map Rk.n)
    cases hq : qgo b l with
    | nil => rw [hq] at ih; exact List.Sublist.cons_cons _ ih
    | cons h l' =>
      rw [hq] at ih
      rw [qstep_cons]
      split
      · exact List.Sublist.cons _ ih
      · exact List.Sublist.cons_cons _ ih
theorem qcmp_sub (b : Int) (l : List Rk) : ((qcmp b l).map Rk.n).Sublist (l.map Rk.n) := by
  cases l with
  | nil => exact List.Sublist.refl _
  | cons r l => exact List.Sublist.cons_cons _ (qgo_sub b l)
theorem qsrt_map (S : List Rk) : qsrt S ↔ (S.map Rk.n).Pairwise (· ≤ ·) := by
  unfold qsrt; rw [List.pairwise_map]
theorem qcmp_srt {b : Int} {l : List Rk} (h : qsrt l) : qsrt (qcmp b l) := by
  rw [qsrt_map] at h ⊢
  exact h.sublist (qcmp_sub b l)
/-- The last one stays the last one, but for its gap. -/
theorem qgo_last (b : Int) : ∀ (l : List Rk) (z : Rk), l.getLast? = some z → ∃ y, (qgo b l).getLast? = some y ∧ y.n = z.n ∧ y.m = z.m
  | [], z, h => by simp at h
  | [r], z, h => ⟨r, by simp [qgo, qstep], by simp at h; rw [h], by simp at h; rw [h]⟩
  | r :: s :: l, z, h => by
    obtain ⟨y, h1, h2, h3⟩ := qgo_last b (s :: l) z (by simpa using h)
    show ∃ y, (qstep b r (qgo b (s :: l))).getLast? = some y ∧ _
    cases hq : qgo b (s :: l) with
    | nil => exact absurd hq (qgo_ne b s l)
    | cons k l' =>
      rw [hq] at h1
      rw [qstep_cons]
      split
      · cases l' with
        | nil =>
          simp at h1
          exact ⟨⟨k.n, k.g + r.g, k.m⟩, rfl, by rw [← h1] at h2; exact h2, by rw [← h1] at h3; exact h3⟩
        | cons k' l'' => exact ⟨y, by simpa using h1, h2, h3⟩
      · exact ⟨y, by simpa using h1, h2, h3⟩
end Go.Proofs.Ytclfimpcacoefaa
