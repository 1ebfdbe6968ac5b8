/- Threshold sampling: mathematics. -/
import Derived.Test.YtkcgcojhgcfgmaaVa
namespace Go.Proofs.Ytkcgcojhgcfgmaa

/-- Right weights, and a right number to keep. -/
def WD (W : List Int) (m : Int) : Prop := W.length ≤ 400 ∧ 1 ≤ m ∧ m ≤ 400 ∧ ∀ x ∈ W, 1 ≤ x ∧ x ≤ 1048576
open Classical in
noncomputable def wdE (W : List Int) (m : Int) : Int := if WD W m then 0 else 2
theorem wdE_ok {W : List Int} {m : Int} (h : WD W m) : wdE W m = 0 := if_pos h
theorem wdE_no {W : List Int} {m : Int} (h : ¬ WD W m) : wdE W m = 2 := if_neg h
/-- From the greatest to the least. -/
def dsc (W : List Int) : List Int := (W.mergeSort fun x y => decide (x ≤ y)).reverse
theorem dsc_perm (W : List Int) : (dsc W).Perm W := (List.reverse_perm _).trans (List.mergeSort_perm _ _)
theorem dsc_len (W : List Int) : (dsc W).length = W.length := (dsc_perm W).length_eq
theorem dsc_down (W : List Int) : (dsc W).Pairwise fun a b => b ≤ a := by
  unfold dsc
  rw [List.pairwise_reverse]
  refine (List.pairwise_mergeSort (le := fun x y : Int => decide (x ≤ y)) ?_ ?_ W).imp (fun h => by simpa using h)
  · intro a b c h1 h2; simp at h1 h2 ⊢; omega
  · intro a b; simp; omega
theorem dsc_only {L W : List Int} (h : L.Perm W) (hd : L.Pairwise fun a b => b ≤ a) : L = dsc W :=
  List.Perm.eq_of_pairwise (le := fun a b : Int => b ≤ a) (fun a b _ _ h1 h2 => by omega) hd (dsc_down W) (h.trans (dsc_perm W).symm)
theorem dsc_of_perm {L W : List Int} (h : L.Perm W) : dsc L = dsc W := dsc_only ((dsc_perm L).trans h) (dsc_down L)
theorem sumW_perm {L W : List Int} (h : L.Perm W) : sumW L = sumW W := by
  induction h with
  | nil => rfl
  | cons x _ ih => rw [sumW, sumW, ih]
  | swap x y l => rw [sumW, sumW, sumW, sumW]; omega
  | trans _ _ h1 h2 => rw [h1, h2]
theorem sumW_app (L W : List Int) : sumW (L ++ W) = sumW L + sumW W := by
  induction L with
  | nil => simp [sumW]
  | cons x r ih => rw [List.cons_append, sumW, sumW, ih]; omega

/-- The greatest ones go, one by one. -/
def lv : List Int → Int → Int → Int × Int
  | [], s, n => (s, n)
  | x :: r, s, n => if n < 2 ∨ x * n ≤ s then (s, n) else lv r (s - x) (n - 1)
theorem lv_stop {x s n : Int} (r : List Int) (h : n < 2 ∨ x * n ≤ s) : lv (x :: r) s n = (s, n) := if_pos h
theorem lv_go {x s n : Int} (r : List Int) (h : ¬ (n < 2 ∨ x * n ≤ s)) : lv (x :: r) s n = lv r (s - x) (n - 1) := if_neg h
def levF (W : List Int) (m : Int) : Int × Int := if (W.length : Int) ≤ m then (0, 0) else lv (dsc W) (sumW W) m
theorem levF_few {W : List Int} {m : Int} (h : (W.length : Int) ≤ m) : levF W m = (0, 0) := if_pos h
theorem levF_more {W : List Int} {m : Int} (h : ¬ (W.length : Int) ≤ m) : levF W m = lv (dsc W) (sumW W) m := if_neg h
open Classical in
noncomputable def levC (W : List Int) (m : Int) : (Int × Int) × Int := if WD W m then (levF W m, 0) else ((0, 0), 2)
theorem levC_ok {W : List Int} {m : Int} (h : WD W m) : levC W m = (levF W m, 0) := if_pos h
theorem levC_no {W : List Int} {m : Int} (h : ¬ WD W m) : levC W m = ((0, 0), 2) := if_neg h
theorem WD.at {W : List Int} {m : Int} (h : WD W m) {k : Nat} (hk : k < W.length) : 1 ≤ W.getD k 0 ∧ W.getD k 0 ≤ 1048576 := h.2.2.2 _ (memV hk)
theorem sumD_bound : ∀ {W : List Int}, (∀ x ∈ W, 1 ≤ x ∧ x ≤ 1048576) → (W.length : Int) ≤ sumW W ∧ sumW W ≤ 1048576 * (W.length : Int)
  | [], _ => by simp [sumW]
  | x :: r, h => by
    have h1 := sumD_bound (W := r) (fun y hy => h y (List.mem_cons_of_mem _ hy))
    have h2 := h x List.mem_cons_self
    rw [sumW, List.length_cons]
    push_cast
    omega
theorem WD.sum {W : List Int} {m : Int} (h : WD W m) : (W.length : Int) ≤ sumW W ∧ sumW W ≤ 419430400 := by
  have := sumD_bound h.2.2.2
  have := h.1
  omega
/-- The greatest of all: what is left. -/
theorem dsc_cut {W : List Int} {i : Nat} (hi : i < W.length) (h : ∀ j, j < W.length → W.getD j 0 ≤ W.getD i 0) : dsc W = W.getD i 0 :: dsc (W.take i ++ W.drop (i + 1)) := by
  have e : W = W.take i ++ W.getD i 0 :: W.drop (i + 1) := by
    rw [List.getD_eq_getElem?_getD, List.getElem?_eq_getElem hi, Option.getD_some, ← List.drop_eq_getElem_cons hi, List.take_append_drop]
  have hp : (W.getD i 0 :: (W.take i ++ W.drop (i + 1))).Perm W := by
    conv => rhs; rw [e]
    exact List.perm_middle.symm
  refine (dsc_only (((dsc_perm _).cons _).trans hp) ?_).symm
  rw [List.pairwise_cons]
  refine ⟨fun y hy => ?_, dsc_down _⟩
  have hy' : y ∈ W := hp.mem_iff.1 (List.mem_cons_of_mem _ ((dsc_perm _).mem_iff.1 hy))
  obtain ⟨j, hj, rfl⟩ := List.mem_iff_getElem.1 hy'
  have := h j hj
  rwa [List.getD_eq_getElem?_getD, List.getElem?_eq_getElem hj, Option.getD_some] at this
theorem sum_cut {W : List Int} {i : Nat} (hi : i < W.length) : sumW (W.take i ++ W.drop (i + 1)) = sumW W - W.getD i 0 := by
  have e : W = W.take i ++ W.getD i 0 :: W.drop (i + 1) := by
    rw [List.getD_eq_getElem?_getD, List.getElem?_eq_getElem hi, Option.getD_some, ← List.drop_eq_getElem_cons hi, List.take_append_drop]
  have : sumW W = sumW (W.take i ++ W.getD i 0 :: W.drop (i + 1)) := by rw [← e]
  rw [this, sumW_app, sumW_app, sumW]
  omega
theorem len_cut {W : List Int} {i : Nat} (hi : i < W.length) : (W.take i ++ W.drop (i + 1)).length = W.length - 1 := by
  rw [List.length_append, List.length_take, List.length_drop]; omega

theorem sumW_ge : ∀ {W : List Int}, (∀ x ∈ W, 0 ≤ x) → 0 ≤ sumW W ∧ ∀ x ∈ W, x ≤ sumW W
  | [], _ => ⟨by simp [sumW], fun x hx => by cases hx⟩
  | y :: r, h => by
    have ih := sumW_ge (W := r) (fun z hz => h z (List.mem_cons_of_mem _ hz))
    have h1 := h y List.mem_cons_self
    rw [sumW]
    refine ⟨by omega, fun x hx => ?_⟩
    rcases List.mem_cons.1 hx with rfl | hx
    · omega
    · have := ih.2 x hx; omega
/-- Where it ends: the first r have gone. -/
theorem lv_end : ∀ (d : List Int) (n : Int), d.Pairwise (fun a b => b ≤ a) → (∀ x ∈ d, 1 ≤ x) → 1 ≤ n → n < d.length →
    ∃ r : Nat, lv d (sumW d) n = (sumW (d.drop r), n - r) ∧ r ≤ d.length ∧ 1 ≤ n - (r : Int) ∧ (∀ x ∈ d.take r, sumW (d.drop r) < x * (n - r)) ∧ (∀ x ∈ d.drop r, x * (n - r) ≤ sumW (d.drop r))
  | [], n, _, _, h1, h2 => by simp at h2; omega
  | x :: t, n, hp, hd, h1, h2 => by
    rw [List.pairwise_cons] at hp
    have hge := sumW_ge (W := x :: t) (fun y hy => by have := hd y hy; omega)
    by_cases hs : n < 2 ∨ x * n ≤ sumW (x :: t)
    · refine ⟨0, by rw [lv_stop _ hs]; simp, by omega, by simpa using h1, fun y hy => by simp at hy, fun y hy => ?_⟩
      rw [List.drop_zero] at hy ⊢
      rw [Int.natCast_zero, Int.sub_zero]
      rcases hs with hs | hs
      · obtain rfl : n = 1 := by omega
        rw [Int.mul_one]
        exact hge.2 y hy
      · have : y ≤ x := by
          rcases List.mem_cons.1 hy with rfl | hy
          · exact Int.le_refl _
          · exact hp.1 y hy
        exact Int.le_trans (Int.mul_le_mul_of_nonneg_right this (by omega)) hs
    · rw [not_or] at hs
      have h3 : (n - 1 : Int) < t.length := by rw [List.length_cons] at h2; push_cast at h2; omega
      obtain ⟨r, e, e1, e2, e3, e4⟩ := lv_end t (n - 1) hp.2 (fun y hy => hd y (List.mem_cons_of_mem _ hy)) (by omega) h3
      have en : n - ((r + 1 : Nat) : Int) = n - 1 - (r : Int) := by push_cast; omega
      refine ⟨r + 1, ?_, by rw [List.length_cons]; omega, by rw [en]; exact e2, ?_, ?_⟩
      · rw [lv_go _ (by rw [not_or]; exact hs), List.drop_succ_cons, en, ← e, sumW, show x + sumW t - x = sumW t by omega]
      · rw [List.drop_succ_cons, List.take_succ_cons, en]
        intro y hy
        have hx : sumW (t.drop r) < x * (n - 1 - r) := by
          cases r with
          | zero =>
            have hs2 := hs.2
            rw [sumW] at hs2
            rw [List.drop_zero, Int.natCast_zero, Int.sub_zero, Int.mul_sub, Int.mul_one]
            omega
          | succ q =>
            cases t with
            | nil => simp at e1
            | cons z t' =>
              have h4 := e3 z (by rw [List.take_succ_cons]; exact List.mem_cons_self)
              have h5 := hp.1 z List.mem_cons_self
              exact Int.lt_of_lt_of_le h4 (Int.mul_le_mul_of_nonneg_right h5 (by omega))
        rcases List.mem_cons.1 hy with rfl | hy
        · exact hx
        · exact e3 y hy
      · rw [List.drop_succ_cons, en]
        exact e4
/-- Less many a one counts, as far as the level goes. -/
def gF (N D x : Int) : Int := min N (x * D)
theorem sumW_map_perm {L W : List Int} (h : L.Perm W) (f : Int → Int) : sumW (L.map f) = sumW (W.map f) := sumW_perm (h.map f)
theorem sumW_const {f : Int → Int} {c : Int} : ∀ {L : List Int}, (∀ x ∈ L, f x = c) → sumW (L.map f) = L.length * c
  | [], _ => by simp [sumW]
  | x :: r, h => by
    rw [List.map_cons, sumW, h x List.mem_cons_self, sumW_const (L := r) (fun y hy => h y (List.mem_cons_of_mem _ hy)), List.length_cons]
    push_cast
    rw [Int.add_mul]
    omega
theorem sumW_congr {f g : Int → Int} : ∀ {L : List Int}, (∀ x ∈ L, f x = g x) → sumW (L.map f) = sumW (L.map g)
  | [], _ => rfl
  | x :: r, h => by
    rw [List.map_cons, sumW, List.map_cons, sumW, h x List.mem_cons_self, sumW_congr (L := r) (fun y hy => h y (List.mem_cons_of_mem _ hy))]
theorem sumW_mulR (D : Int) : ∀ (L : List Int), sumW (L.map (fun x => x * D)) = sumW L * D
  | [] => by simp [sumW]
  | x :: r => by rw [List.map_cons, sumW, sumW, sumW_mulR D r, Int.add_mul]
/-- What a level is, of more than are kept. -/
structure LF (W : List Int) (m N D : Int) : Prop where
  e : levF W m = (N, D)
  d1 : 1 ≤ D
  dm : D ≤ m
  n1 : 1 ≤ N
  n2 : N ≤ 419430400
  g : sumW (W.map (gF N D)) = m * N
theorem levF_is {W : List Int} {m : Int} (h : WD W m) (hm : m < W.length) : ∃ N D, LF W m N D := by
  have hd : ∀ x ∈ dsc W, 1 ≤ x := fun x hx => (h.2.2.2 x ((dsc_perm W).mem_iff.1 hx)).1
  have hlen := dsc_len W
  obtain ⟨r, e, e1, e2, e3, e4⟩ := lv_end (dsc W) m (dsc_down W) hd h.2.1 (by omega)
  have hsum := sumW_perm (dsc_perm W)
  have hpos : ∀ x ∈ dsc W, 0 ≤ x := fun x hx => by have := hd x hx; omega
  have htd : dsc W = (dsc W).take r ++ (dsc W).drop r := (List.take_append_drop r _).symm
  have hs2 : sumW (dsc W) = sumW ((dsc W).take r) + sumW ((dsc W).drop r) := by conv => lhs; rw [htd, sumW_app]
  have ht0 := (sumW_ge (W := (dsc W).take r) (fun x hx => hpos x (List.mem_of_mem_take hx))).1
  have hdr : ∀ x ∈ (dsc W).drop r, 1 ≤ x := fun x hx => hd x (List.mem_of_mem_drop hx)
  have hN1 : 1 ≤ sumW ((dsc W).drop r) := by
    have hl : 0 < ((dsc W).drop r).length := by rw [List.length_drop]; omega
    cases hx : (dsc W).drop r with
    | nil => rw [hx] at hl; simp at hl
    | cons y t =>
      have h1 := (sumW_ge (W := (dsc W).drop r) (fun x hx => by have := hdr x hx; omega)).2 y (by rw [hx]; exact List.mem_cons_self)
      have h2 := hdr y (by rw [hx]; exact List.mem_cons_self)
      rw [hx] at h1
      omega
  refine ⟨sumW ((dsc W).drop r), m - r, ⟨by rw [levF_more (by omega), ← hsum, e], e2, by omega, hN1, ?_, ?_⟩⟩
  · have := h.sum
    omega
  · rw [← sumW_map_perm (dsc_perm W)]
    generalize hN : sumW ((dsc W).drop r) = N at *
    have h1 : sumW (((dsc W).take r).map (gF N (m - r))) = ((dsc W).take r).length * N := sumW_const fun x hx => by
      have := e3 x hx
      unfold gF
      omega
    have h2 : sumW (((dsc W).drop r).map (gF N (m - r))) = sumW (((dsc W).drop r).map (fun x => x * (m - r))) := sumW_congr fun x hx => by
      have := e4 x hx
      unfold gF
      omega
    rw [sumW_mulR, hN] at h2
    rw [htd, List.map_append, sumW_app, h1, h2, List.length_take, show min r (dsc W).length = r by omega, Int.mul_comm N, ← Int.add_mul]
    congr 1
    omega
theorem LF.bounds {W : List Int} {m N D : Int} (h : LF W m N D) (hW : WD W m) : D ≤ 400 := by have := h.dm; have := hW.2.2.1; omega
end Go.Proofs.Ytkcgcojhgcfgmaa
