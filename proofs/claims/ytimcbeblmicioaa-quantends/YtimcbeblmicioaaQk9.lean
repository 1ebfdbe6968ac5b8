/- slices.Insert of one entry, whatever the place; quant.insert. -/
import Derived.Test.YtimcbeblmicioaaQk8
import Derived.Test.YtimcbeblmicioaaQk3
import Derived.Test.YtimcbeblmicioaaQm7
namespace Go.Proofs.Ytimcbeblmicioaa
open Go.RowKit Go.Deep

theorem rp_one {w : World} {H : Nat} {y : Rk} (hH : Bs 33 w H (yv y)) : RP w (some ⟨H, 0, none⟩) 1 [y] := by
  refine ⟨fun _ => ⟨H, 0, rfl, Bs.lt hH, fun i hi => ?_⟩, by simp, by omega, fun h => by cases h⟩
  obtain rfl : i = 0 := by simpa using hi
  have h0 := hH.cell (j := 0) (by simp [yv])
  have h1 := hH.cell (j := 1) (by simp [yv])
  have h2 := hH.cell (j := 2) (by simp [yv])
  exact ⟨h0, h1, h2⟩
set_option maxRecDepth 100000 in
set_option maxHeartbeats 1000000 in
theorem insEnd_any (B H : Nat) (v : Value) (S : List Rk) (y : Rk) (w : World) (h : OR w B v S) (hn : S.length < 1000000) (hH : Bs 33 w H (yv y)) (hBw : B ≤ w.heap.size) :
    Calls Try.prog 46 #[v, .int .i64 S.length, .slice (some ⟨H, 0, none⟩) 1 1] w fun e w' => ∃ v', e = .returned v' ∧ OR w' B v' (S ++ [y]) ∧ Below B w w' := by
  have HH := Lib.hid (rp_one hH)
  have HO := Lib.hid h
  clear hH
  rcases h.2 with ⟨rfl, h1⟩ | ⟨g, c, cur, rfl, hB, hg, hc, hcm, hcs, ht⟩
  · obtain rfl : S = [] := List.eq_nil_of_length_eq_zero h1
    clear h h1
    go_enter Try.func46, Try.ntmps46
    go_wp2_with (at_builtin; refine wpList_appR rfl _ _ rfl B _ [] rfl HO.out (some ⟨H, 0, none⟩) 1 1 [y] rfl rfl HH.out (by simp) hBw ?_)
    intro v' w1 hown hb _
    go_wp2
    go_ret
    exact ⟨_, rfl, hown, hb⟩
  · unfold maxLen at hcm
    obtain ⟨n, hnl⟩ : ∃ n, S.length = n := ⟨_, rfl⟩
    rw [hnl] at HO hc ⊢
    have HN := Lib.hid hnl
    have hn2 : n < 1000000 := by omega
    clear h hg hcs ht hnl
    go_enter Try.func46, Try.ntmps46
    go_wp2_with (at_builtin; refine wpList_appR rfl _ _ rfl B (.slice (some ⟨g, 0, none⟩) n c) S rfl HO.out (some ⟨H, 0, none⟩) 1 1 [y] rfl rfl HH.out (by have := HN.out; simp; omega) hBw ?_)
    all_goals
      intro v' w1 hown hb _
      go_wp2
      go_ret
      exact ⟨_, rfl, hown, hb⟩
theorem insertR_any (B i H : Nat) (v : Value) (S : List Rk) (y : Rk) (w : World) (h : OR w B v S) (hi : i ≤ S.length) (hn : S.length < 1000000) (hH : Bs 33 w H (yv y)) (hne : v.ownBlock ≠ some H) (hBw : B ≤ w.heap.size) :
    Calls Try.prog 46 #[v, .int .i64 i, .slice (some ⟨H, 0, none⟩) 1 1] w fun e w' => ∃ v', e = .returned v' ∧ OR w' B v' (S.take i ++ y :: S.drop i) ∧ Below B w w' := by
  by_cases he : i = S.length
  · subst he
    rw [List.take_length, List.drop_length]
    exact insEnd_any B H v S y w h hn hH hBw
  · obtain ⟨g, c, rfl, hB, hg, hc, hc2, h2⟩ := h.form rfl (by omega)
    by_cases hr : S.length + 1 ≤ c
    · refine (insShift_any B g S.length c i H S y w h2 (by omega) hr hH (fun e => hne (by rw [e]; rfl))).mono ?_
      rintro e w' ⟨rfl, h3, h4⟩
      exact ⟨_, rfl, h3, h4⟩
    · exact insGrow_any B g S.length c i H S y w h2 (by omega) (by omega) hn hH hBw

/-! the place -/
theorem QxP.place {x : Int} {S : List Rk} {r : Int} (hs : qsrt S) (h : QxP (fun r => decide (x < r.n)) S r) : ∃ k : Nat, k ≤ S.length ∧ S.take k = qlow x S ∧ S.drop k = qhigh x S ∧ ((r = -1 ∧ k = S.length) ∨ (r = k ∧ k < S.length)) := by
  have key : ∀ k : Nat, k ≤ S.length → (∀ j, j < k → (rat S j).n ≤ x) → (∀ j, k ≤ j → j < S.length → x < (rat S j).n) → S.take k = qlow x S ∧ S.drop k = qhigh x S := by
    intro k hk h1 h2
    have a1 : ∀ r ∈ S.take k, r.n ≤ x := fun r hr => by
      obtain ⟨j, hj, e⟩ := List.getElem_of_mem hr
      rw [List.length_take] at hj
      rw [← e, List.getElem_take, rat_get (by omega)]
      exact h1 j (by omega)
    have a2 : ∀ r ∈ S.drop k, x < r.n := fun r hr => by
      obtain ⟨j, hj, e⟩ := List.getElem_of_mem hr
      rw [List.length_drop] at hj
      rw [← e, List.getElem_drop, rat_get (by omega)]
      exact h2 _ (by omega) (by omega)
    have e := List.take_append_drop k S
    constructor
    · unfold qlow
      rw [← e, List.filter_append, e]
      rw [List.filter_eq_self.2 (fun r hr => by simpa using a1 r hr), List.filter_eq_nil_iff.2 (fun r hr => by have := a2 r hr; simp; omega), List.append_nil]
    · unfold qhigh
      rw [← e, List.filter_append, e]
      rw [List.filter_eq_nil_iff.2 (fun r hr => by have := a1 r hr; simp; omega), List.filter_eq_self.2 (fun r hr => by simpa using a2 r hr), List.nil_append]
  rcases h with ⟨rfl, h⟩ | ⟨k, rfl, hk, h1, h2⟩
  · obtain ⟨e1, e2⟩ := key S.length (Nat.le_refl _) (fun j hj => by have := h j hj; simp at this; omega) (fun j h1 h2 => by omega)
    exact ⟨S.length, Nat.le_refl _, e1, e2, .inl ⟨rfl, rfl⟩⟩
  · obtain ⟨e1, e2⟩ := key k (by omega) (fun j hj => by have := h2 j hj; simp at this; omega) (fun j h3 h4 => by
      have a : x < (rat S k).n := by simpa using h1
      by_cases e : j = k
      · subst e; exact a
      · have := qsrt_le hs (i := k) (j := j) (by omega) h4
        omega)
    exact ⟨k, by omega, e1, e2, .inr ⟨rfl, hk⟩⟩
theorem qins_at {x : Int} {S : List Rk} {k : Nat} (hk : k ≤ S.length) (h1 : S.take k = qlow x S) (h2 : S.drop k = qhigh x S) : qins S x = S.take k ++ ⟨x, 1, if 0 < k ∧ k < S.length then (rat S k).g + (rat S k).m - 1 else 0⟩ :: S.drop k := by
  unfold qins
  rw [← h1, ← h2]
  congr 2
  by_cases h0 : 0 < k
  · by_cases h3 : k < S.length
    · rw [if_pos ⟨h0, h3⟩, drop_at h3]
      cases hS : S with
      | nil => rw [hS] at h3; simp at h3
      | cons a l =>
        obtain ⟨j, rfl⟩ : ∃ j, k = j + 1 := ⟨k - 1, by omega⟩
        rw [List.take_succ_cons]
        rfl
    · rw [if_neg (by omega), List.drop_of_length_le (by omega), qmore_nil2]
  · obtain rfl : k = 0 := by omega
    rw [if_neg (by omega), List.take_zero, qmore_nil1]
end Go.Proofs.Ytimcbeblmicioaa
