/- lotdrawerkeep.QuantNear, out of contracts. -/
import Derived.Test.YtimcbeblmicioaaQw4
import Derived.Test.YtimcbeblmicioaaQw5
namespace Go.Proofs.Ytimcbeblmicioaa
open Go.RowKit Go.Deep Go.Sort Go.Shelf Go.Lib

theorem qfars_at (place : Int) : ∀ {l : List Rk} {a : Int} (i : Nat), i < l.length → (qfars place a l).getD i 0 = qfr place (a + qtot (l.take i)) (rat l i)
  | [], _, _, h => by simp at h
  | r :: l, a, 0, _ => by
    show qfr place a r = qfr place (a + qtot []) r
    simp [qtot]
  | r :: l, a, i + 1, h => by
    have := qfars_at place (l := l) (a := a + r.g) i (by simpa using h)
    have e : qtot ((r :: l).take (i + 1)) = r.g + qtot (l.take i) := by simp [qtot]
    rw [e, ← Int.add_assoc]
    simpa [qfars, rat] using this
/-- Where it stands: the found one's places. -/
theorem QI.found {p : Int} {S : List Rk} {xs : List Int} (h : QI p S xs) {place : Int} (h1 : 1 ≤ place) (h2 : place ≤ xs.length) :
    ∃ N D : Int, qfindC p S place = (N, 0) ∧ N ∈ xs ∧ clt xs N + 1 - place ≤ D ∧ place - cle xs N ≤ D ∧ D * p ≤ xs.length := by
  have htot := h.tot
  have hne : 0 < S.length := List.length_pos_iff.2 (h.ne (by intro e; rw [e] at h2; simp at h2; omega))
  have hb := qbest_lt (qfk place S) hne
  obtain ⟨N1, N2, N3⟩ := qtru_near (place := place) (qbest (qfk place S) S.length) h.tru hb
  obtain ⟨f, hf, hfp⟩ := h.near h1 h2
  obtain ⟨i, hi, e⟩ := List.getElem_of_mem hf
  rw [qfars_len] at hi
  have e2 : qfk place S i = f := by
    have := qfars_at place (l := S) (a := 0) i hi
    rw [Int.zero_add] at this
    unfold qfk
    rw [← this, List.getD_eq_getElem?_getD, List.getElem?_eq_getElem (by rw [qfars_len]; exact hi), Option.getD_some, e]
  have e3 : (qfars place 0 S).getD (qbest (qfk place S) S.length) 0 = qfk place S (qbest (qfk place S) S.length) := by
    rw [qfars_at place _ hb, Int.zero_add]; rfl
  have hle := qbest_le (qfk place S) hi
  rw [e2] at hle
  rw [e3] at N2 N3
  rw [rat_get hb] at N1 N2 N3
  refine ⟨(rat S (qbest (qfk place S) S.length)).n, qfk place S (qbest (qfk place S) S.length), ?_, N1, N2, N3, ?_⟩
  · unfold qfindC
    rw [if_pos h.right, if_pos (by omega)]
  · have hp := h.right.p1
    exact Int.le_trans (Int.mul_le_mul_of_nonneg_right hle (by omega)) hfp
theorem QI.nofound {p : Int} {S : List Rk} {xs : List Int} (h : QI p S xs) {place : Int} (h1 : ¬ (1 ≤ place ∧ place ≤ xs.length)) : qfindC p S place = (0, 3) := by
  have htot := h.tot
  unfold qfindC
  rw [if_pos h.right, if_neg (by omega)]
end Go.Proofs.Ytimcbeblmicioaa
