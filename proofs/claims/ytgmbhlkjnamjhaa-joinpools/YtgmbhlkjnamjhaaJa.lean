/- What has been selected is out of both. -/
import Derived.Test.YtgmbhlkjnamjhaaJ1
namespace Go.Proofs.Ytgmbhlkjnamjhaa

theorem erase_perm {xs : List Int} {k : Nat} (h : k < xs.length) : (xs.getD k 0 :: xs.eraseIdx k).Perm xs := by
  have e : xs = xs.take k ++ xs.getD k 0 :: xs.drop (k + 1) := by
    rw [← drop_cons h, List.take_append_drop]
  rw [List.eraseIdx_eq_take_drop_succ]
  conv => rhs; rw [e]
  exact (List.perm_middle).symm
theorem selJ_perm {ds : List Int} : ∀ {na nb : Int} {xs ys acc hs r : List Int}, selJ na nb xs ys acc ds hs = (r, 0) → r.length = acc.length + min ds.length hs.length ∧ ∃ rest : List Int, (r ++ rest).Perm (acc ++ (xs ++ ys)) := by
  induction ds with
  | nil =>
    intro na nb xs ys acc hs r h
    cases h
    exact ⟨by simp, xs ++ ys, List.Perm.refl _⟩
  | cons d ds ih =>
    intro na nb xs ys acc hs r h
    cases hs with
    | nil =>
      cases h
      exact ⟨by simp, xs ++ ys, List.Perm.refl _⟩
    | cons k hs =>
      rw [selJ] at h
      split at h
      · cases h
      · split at h
        · split at h
          · cases h
          · rename_i _ _ hk
            obtain ⟨h1, rest, h2⟩ := ih h
            refine ⟨by rw [h1]; simp; omega, rest, h2.trans ?_⟩
            have hk2 : k.toNat < xs.length := by omega
            rw [List.append_assoc]
            refine List.Perm.append_left acc ?_
            show (xs.getD k.toNat 0 :: (xs.eraseIdx k.toNat ++ ys)).Perm _
            exact List.Perm.append_right ys (erase_perm hk2)
        · split at h
          · cases h
          · rename_i _ _ hk
            obtain ⟨h1, rest, h2⟩ := ih h
            refine ⟨by rw [h1]; simp; omega, rest, h2.trans ?_⟩
            have hk2 : k.toNat < ys.length := by omega
            rw [List.append_assoc]
            refine List.Perm.append_left acc ?_
            show (ys.getD k.toNat 0 :: (xs ++ ys.eraseIdx k.toNat)).Perm _
            exact List.perm_middle.symm.trans (List.Perm.append_left xs (erase_perm hk2))
/-- With no error. -/
theorem poolsR_ok {ra ca rb cb : Int} {xs ys ws hs : List Int} (h : (poolsR ra ca xs rb cb ys ws hs).2 = 0) :
    JR ra ca xs rb cb ys ∧ ca + cb ≤ 1099511627776 ∧ ∃ r rest : List Int, poolsR ra ca xs rb cb ys ws hs = ((ra, ca + cb, r), 0) ∧ (r.length : Int) = min ra (ca + cb) ∧ (r ++ rest).Perm (xs ++ ys) := by
  by_cases hj : JR ra ca xs rb cb ys
  · have e1 : poolsR ra ca xs rb cb ys ws hs = _ := if_pos hj
    have hpos : 0 ≤ min ra (ca + cb) := by
      obtain ⟨⟨⟨j1, j2⟩, j3, j4, j5⟩, ⟨_, j7, j8, _⟩, j10⟩ := hj
      omega
    by_cases h1 : 1099511627776 < ca + cb
    · rw [if_pos h1] at e1; rw [e1] at h; cases h
    · rw [if_neg h1] at e1
      by_cases h2 : (ws.length : Int) < min ra (ca + cb) ∨ (hs.length : Int) < min ra (ca + cb)
      · rw [if_pos h2] at e1; rw [e1] at h; cases h
      · rw [if_neg h2] at e1
        obtain ⟨s, hss⟩ : ∃ s, selJ ca cb xs ys [] (ws.take (min ra (ca + cb)).toNat) (hs.take (min ra (ca + cb)).toNat) = s := ⟨_, rfl⟩
        obtain ⟨r, e⟩ := s
        rw [hss] at e1
        by_cases h3 : e = 0
        · subst h3
          obtain ⟨p1, rest, p2⟩ := selJ_perm hss
          refine ⟨hj, by omega, r, rest, e1, ?_, p2⟩
          rw [p1, List.length_take, List.length_take]
          simp only [List.length_nil]
          omega
        · rw [e1] at h
          unfold ansJ at h
          rw [if_neg h3] at h
          exact absurd h h3
  · have e1 : poolsR ra ca xs rb cb ys ws hs = _ := if_neg hj
    rw [e1] at h
    cases h
theorem poolsR_err {ra ca rb cb : Int} {xs ys ws hs : List Int} (h : (poolsR ra ca xs rb cb ys ws hs).2 ≠ 0) : (poolsR ra ca xs rb cb ys ws hs).1 = pz := by
  unfold poolsR ansJ at *
  split <;> try rfl
  split <;> try rfl
  split <;> try rfl
  split <;> try rfl
  rename_i h1 h2 h3 h4
  rw [if_pos h1, if_neg h2, if_neg h3, if_pos h4] at h
  exact absurd rfl h
end Go.Proofs.Ytgmbhlkjnamjhaa
