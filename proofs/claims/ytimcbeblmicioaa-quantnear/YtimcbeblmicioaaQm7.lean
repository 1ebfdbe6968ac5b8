/- quant: what OAdd's loops keep. -/
import Derived.Test.YtimcbeblmicioaaQm2
namespace Go.Proofs.Ytimcbeblmicioaa
open Go.RowKit Go.Deep

theorem qlow_step {S : List Rk} {k : Nat} (h : k < S.length) (x : Int) : qlow x (S.take (k + 1)) = if (rat S k).n ≤ x then qlow x (S.take k) ++ [rat S k] else qlow x (S.take k) := by
  rw [rat_take h]
  unfold qlow
  rw [List.filter_append]
  split
  · rename_i h1; simp [h1]
  · rename_i h1; simp [h1]
theorem qhigh_step {S : List Rk} {k : Nat} (h : k < S.length) (x : Int) : qhigh x (S.take (k + 1)) = if (rat S k).n ≤ x then qhigh x (S.take k) else qhigh x (S.take k) ++ [rat S k] := by
  rw [rat_take h]
  unfold qhigh
  rw [List.filter_append]
  split
  · rename_i h1
    rw [List.filter_cons, if_neg (by simp; omega)]; simp
  · rename_i h1
    rw [List.filter_cons, if_pos (by simp; omega)]; simp
theorem qlow_len (x : Int) (S : List Rk) : (qlow x S).length ≤ S.length := List.length_filter_le ..
theorem qhigh_len (x : Int) (S : List Rk) : (qhigh x S).length ≤ S.length := List.length_filter_le ..
theorem rk_eta (r : Rk) : (⟨r.n, r.g, r.m⟩ : Rk) = r := rfl
theorem qtot_mem : ∀ {l : List Rk}, (∀ r ∈ l, 0 ≤ r.g) → ∀ r ∈ l, r.g ≤ qtot l
  | [], _, r, hr => by simp at hr
  | a :: l, h, r, hr => by
    have h0 := qtot_nonneg (S := l) (fun y hy => h y (List.mem_cons_of_mem _ hy))
    have ha := h a (List.mem_cons_self ..)
    simp only [qtot]
    rcases List.mem_cons.1 hr with rfl | hr
    · omega
    · have := qtot_mem (l := l) (fun y hy => h y (List.mem_cons_of_mem _ hy)) r hr
      omega
/-- From behind: entries j and on compressed, the last first. -/
def qback (b : Int) (T : List Rk) (j : Nat) : List Rk := (if j = 0 then qcmp b T else qgo b (T.drop j)).reverse
theorem qback_start (b : Int) (T : List Rk) (h : 0 < T.length) : qback b T T.length = [] := by
  unfold qback
  rw [if_neg (by omega), List.drop_length]; rfl
theorem drop_at {T : List Rk} {j : Nat} (h : j < T.length) : T.drop j = rat T j :: T.drop (j + 1) := by
  rw [List.drop_eq_getElem_cons h]
  unfold rat
  simp [List.getD_eq_getElem?_getD, h]
/-- What is behind entry j is not empty where j is not the last. -/
theorem qback_pos {b : Int} {T : List Rk} {j : Nat} (h : j + 1 < T.length) : 0 < (qgo b (T.drop (j + 1))).length := by
  rw [drop_at h]
  have := qgo_ne b (rat T (j + 1)) (T.drop (j + 1 + 1))
  exact List.length_pos_iff.2 this
theorem qback_first {b : Int} {T : List Rk} (h : 0 < T.length) : qback b T 0 = qback b T 1 ++ [rat T 0] := by
  cases T with
  | nil => simp at h
  | cons a t =>
    show (a :: qgo b t).reverse = (qgo b t).reverse ++ [a]
    rw [List.reverse_cons]
theorem qback_last {b : Int} {T : List Rk} {j : Nat} (hj : 0 < j) (h : j + 1 = T.length) : qback b T j = qback b T (j + 1) ++ [rat T j] := by
  unfold qback
  rw [if_neg (by omega), if_neg (by omega), drop_at (by omega), h, List.drop_length]
  rfl
/-- The one that was compressed last. -/
theorem qback_head {b : Int} {T : List Rk} {j : Nat} (h : j + 1 < T.length) : ∃ (k : Rk) (l : List Rk), qgo b (T.drop (j + 1)) = k :: l ∧ rat (qback b T (j + 1)) ((qback b T (j + 1)).length - 1) = k ∧ (qback b T (j + 1)).length = l.length + 1 := by
  have hp := qback_pos (b := b) h
  cases hq : qgo b (T.drop (j + 1)) with
  | nil => rw [hq] at hp; simp at hp
  | cons k l =>
    refine ⟨k, l, rfl, ?_, ?_⟩
    · unfold qback
      rw [if_neg (by omega), hq]
      unfold rat
      simp [List.getD_eq_getElem?_getD]
    · unfold qback
      rw [if_neg (by omega), hq]
      simp
theorem qback_take {b : Int} {T : List Rk} {j : Nat} (hj : 0 < j) (h : j + 1 < T.length) (hle : (rat T j).g + (rat (qback b T (j + 1)) ((qback b T (j + 1)).length - 1)).g + (rat (qback b T (j + 1)) ((qback b T (j + 1)).length - 1)).m ≤ b) :
    qback b T j = (qback b T (j + 1)).set ((qback b T (j + 1)).length - 1) ⟨(rat (qback b T (j + 1)) ((qback b T (j + 1)).length - 1)).n, (rat (qback b T (j + 1)) ((qback b T (j + 1)).length - 1)).g + (rat T j).g, (rat (qback b T (j + 1)) ((qback b T (j + 1)).length - 1)).m⟩ := by
  obtain ⟨k, l, h1, h2, h3⟩ := qback_head (b := b) h
  rw [h2] at hle ⊢
  rw [h3]
  have e1 : qback b T (j + 1) = l.reverse ++ [k] := by
    unfold qback
    rw [if_neg (by omega), h1, List.reverse_cons]
  have e2 : qback b T j = l.reverse ++ [⟨k.n, k.g + (rat T j).g, k.m⟩] := by
    unfold qback
    rw [if_neg (by omega), drop_at (by omega)]
    show (qstep b (rat T j) (qgo b (T.drop (j + 1)))).reverse = _
    rw [h1, qstep_cons, if_pos hle, List.reverse_cons]
  rw [e1, e2, Nat.add_sub_cancel, List.set_append, if_neg (by simp)]
  simp
theorem qback_push {b : Int} {T : List Rk} {j : Nat} (hj : 0 < j) (h : j + 1 < T.length) (hle : ¬ (rat T j).g + (rat (qback b T (j + 1)) ((qback b T (j + 1)).length - 1)).g + (rat (qback b T (j + 1)) ((qback b T (j + 1)).length - 1)).m ≤ b) :
    qback b T j = qback b T (j + 1) ++ [rat T j] := by
  obtain ⟨k, l, h1, h2, h3⟩ := qback_head (b := b) h
  rw [h2] at hle
  have e1 : qback b T (j + 1) = l.reverse ++ [k] := by
    unfold qback
    rw [if_neg (by omega), h1, List.reverse_cons]
  have e2 : qback b T j = l.reverse ++ [k] ++ [rat T j] := by
    unfold qback
    rw [if_neg (by omega), drop_at (by omega)]
    show (qstep b (rat T j) (qgo b (T.drop (j + 1)))).reverse = _
    rw [h1, qstep_cons, if_neg hle, List.reverse_cons, List.reverse_cons]
  rw [e1, e2]
theorem qback_len {b : Int} {T : List Rk} (j : Nat) : (qback b T j).length ≤ T.length := by
  unfold qback
  rw [List.length_reverse]
  split
  · exact qcmp_len b T
  · have := qgo_len b (T.drop j)
    rw [List.length_drop] at this
    omega
/-- The entries' bounds. -/
def qbd (l : List Rk) : Prop := ∀ r ∈ l, 1 ≤ r.g ∧ 0 ≤ r.m ∧ r.m ≤ 4398046511104
theorem qback_bd {b : Int} {T : List Rk} (h : qbd T) (ht : qtot T ≤ 2199023255552) (j : Nat) : ∀ r ∈ qback b T j, (1 ≤ r.g ∧ 0 ≤ r.m ∧ r.m ≤ 4398046511104) ∧ r.g ≤ 2199023255552 := by
  have hP : ∀ r h : Rk, (1 ≤ r.g ∧ 0 ≤ r.m ∧ r.m ≤ 4398046511104) → (1 ≤ h.g ∧ 0 ≤ h.m ∧ h.m ≤ 4398046511104) → r.g + h.g + h.m ≤ b → (1 ≤ (⟨h.n, h.g + r.g, h.m⟩ : Rk).g ∧ 0 ≤ (⟨h.n, h.g + r.g, h.m⟩ : Rk).m ∧ (⟨h.n, h.g + r.g, h.m⟩ : Rk).m ≤ 4398046511104) := fun r k h1 h2 _ => ⟨by show 1 ≤ k.g + r.g; omega, h2.2.1, h2.2.2⟩
  intro r hr
  unfold qback at hr
  rw [List.mem_reverse] at hr
  split at hr
  · have h1 := qcmp_each (P := fun r => 1 ≤ r.g ∧ 0 ≤ r.m ∧ r.m ≤ 4398046511104) hP T h
    refine ⟨h1 r hr, ?_⟩
    have h2 := qtot_mem (fun y hy => by have := h1 y hy; omega) r hr
    rw [qcmp_tot] at h2
    omega
  · have h1 := qgo_each (P := fun r => 1 ≤ r.g ∧ 0 ≤ r.m ∧ r.m ≤ 4398046511104) hP (T.drop j) (fun y hy => h y (List.mem_of_mem_drop hy))
    refine ⟨h1 r hr, ?_⟩
    have h2 := qtot_mem (fun y hy => by have := h1 y hy; omega) r hr
    rw [qgo_tot] at h2
    have h3 := qtot_app (T.take j) (T.drop j)
    rw [List.take_append_drop] at h3
    have h4 := qtot_nonneg (S := T.take j) (fun y hy => by have := h y (List.mem_of_mem_take hy); omega)
    omega
theorem rat_rev {C : List Rk} {j : Nat} (h : j < C.length) : rat C.reverse j = rat C (C.length - 1 - j) := by
  unfold rat
  rw [List.getD_eq_getElem?_getD, List.getD_eq_getElem?_getD, List.getElem?_reverse h]
theorem qmore_le {p : Int} {S L H : List Rk} (h : QR p S) (hH : ∀ r ∈ H, r ∈ S) : 0 ≤ qmore L H ∧ qmore L H ≤ 2199023255552 := by
  cases L with
  | nil => rw [qmore_nil1]; omega
  | cons a L =>
    cases H with
    | nil => rw [qmore_nil2]; omega
    | cons k H =>
      have hk := h.each k (hH k (List.mem_cons_self ..))
      show 0 ≤ k.g + k.m - 1 ∧ k.g + k.m - 1 ≤ _
      omega
theorem qins_bd {p : Int} {S : List Rk} (h : QR p S) (x : Int) : qbd (qins S x) := by
  intro r hr
  have hm := qmore_le (L := qlow x S) h (fun r hr => (qhigh_mem (x := x) hr).1)
  rcases qins_mem hr with h1 | rfl
  · have := h.each r h1; omega
  · exact ⟨by show (1 : Int) ≤ 1; omega, hm.1, by show qmore (qlow x S) (qhigh x S) ≤ _; omega⟩
end Go.Proofs.Ytimcbeblmicioaa
