/- Dealing: what is dealt is an order; all digits up to six deal each order just once. -/
import Derived.Test.YtbchdnmpohnkiaaPe
import Derived.Test.YtbchdnmpohnkiaaPd
namespace Go.Proofs.Ytbchdnmpohnkiaa

theorem swp_perm2 {l : List Int} {i j : Nat} (hi : i < l.length) (hj : j < l.length) : (swp l i j).Perm l := by
  have := List.set_set_perm hi hj
  unfold swp
  simpa [List.getD_eq_getElem?_getD, hi, hj] using this
theorem stps_perm {ds : List Int} (h : okD ds) (h0 : 0 < ds.length) : ∀ (js : List Nat) (l : List Int), l.length = ds.length → (js.foldl (stp ds) l).Perm l := by
  intro js
  induction js with
  | nil => intro l _; exact List.Perm.refl _
  | cons j js ih =>
    intro l hl
    have hk := cl_in (j := j) h0
    obtain ⟨e, he, hle⟩ := okD_at h hk
    rw [List.foldl_cons]
    refine (ih _ (by rw [stp, swp_len, hl])).trans ?_
    unfold stp
    rw [he, Int.toNat_natCast]
    exact swp_perm2 (by omega) (by omega)
theorem dealt_len (ds : List Int) : (dealt ds).length = ds.length := dls_len _ _
theorem dealt_ok {ds : List Int} (h : okD ds) : Ok (dealt ds) := by
  have hl := dealt_len ds
  refine ok_of_perm (by rw [hl]; exact h.1) ?_
  rw [hl]
  by_cases h0 : 0 < ds.length
  · exact stps_perm h h0 _ _ (idn_len _)
  · have e0 : ds.length = 0 := by omega
    rw [List.eq_nil_of_length_eq_zero (hl.trans e0), e0]
    exact List.Perm.refl _

/-- The digits of x with the bases n, n - 1, .. from the last on. -/
def dg : Nat → Nat → List Nat
  | 0, _ => []
  | m + 1, x => dg m (x / (m + 1)) ++ [x % (m + 1)]
theorem dg_len (n : Nat) : ∀ x, (dg n x).length = n := by
  induction n with
  | zero => intro x; rfl
  | succ n ih => intro x; simp [dg, ih]
theorem dg_at (n : Nat) : ∀ x k, k < n → (dg n x).getD k 0 ≤ k := by
  induction n with
  | zero => intro x k h; omega
  | succ n ih =>
    intro x k h
    rw [dg, List.getD_eq_getElem?_getD]
    by_cases hk : k < n
    · rw [List.getElem?_append_left (by rw [dg_len]; exact hk), ← List.getD_eq_getElem?_getD]
      exact ih _ k hk
    · have e : k = n := by omega
      subst e
      rw [List.getElem?_append_right (by rw [dg_len]; exact Nat.le_refl _), dg_len, Nat.sub_self]
      have := Nat.mod_lt x (show 0 < k + 1 by omega)
      simp; omega
theorem dg_ok {n : Nat} (x : Nat) (h : n ≤ 20) : okD (ints (dg n x)) := by
  refine ⟨by rw [ints_len, dg_len]; exact h, fun k hk => ?_⟩
  rw [ints_len, dg_len] at hk
  rw [ints_at]
  have := dg_at n x k hk
  omega
/-- What stands behind place m. -/
def dgTo (m : Nat) (s : List Nat) : List Int := ints (List.replicate m 0 ++ s)
theorem dgTo_len (m : Nat) (s : List Nat) : (dgTo m s).length = m + s.length := by simp [dgTo, ints]
theorem dgTo_set (m : Nat) (s : List Nat) (y : Nat) : (dgTo (m + 1) s).set m (y : Int) = dgTo m (y :: s) := by
  unfold dgTo ints
  rw [← List.map_set (f := fun (k : Nat) => (k : Int))]
  congr 1
  rw [show List.replicate (m + 1) 0 = List.replicate m 0 ++ [0] from List.replicate_succ', List.append_assoc, List.set_append_right _ _ (by simp)]
  simp
theorem dg_step {n m x y : Nat} {s : List Nat} (h : dg n x = dg (m + 1) y ++ s) : dg n x = dg m (y / (m + 1)) ++ (y % (m + 1) :: s) := by
  rw [h, dg]; simp

/-- The number of what the x-th digits deal. -/
def rk (n x : Nat) : Nat := rank (dealt (ints (dg n x)))
theorem rk_lt (n x : Nat) : rk n x < fact n := by
  have := rank_lt (dealt (ints (dg n x)))
  rwa [dealt_len, ints_len, dg_len] at this
def fresh : List Nat → Nat → Bool
  | [], _ => true
  | r :: t, m => !(m.testBit r) && fresh t (m ||| (1 <<< r))
theorem fresh_spec : ∀ (l : List Nat) (m : Nat), fresh l m = true → l.Nodup ∧ ∀ r ∈ l, m.testBit r = false
  | [], _, _ => ⟨List.nodup_nil, fun r h => by cases h⟩
  | r :: t, m, h => by
    simp only [fresh, Bool.and_eq_true, Bool.not_eq_true'] at h
    obtain ⟨h1, h2⟩ := fresh_spec t _ h.2
    have h3 : ∀ x ∈ t, m.testBit x = false ∧ x ≠ r := fun x hx => by
      have := h2 x hx
      rw [Nat.testBit_or, Bool.or_eq_false_iff] at this
      refine ⟨this.1, fun e => ?_⟩
      subst e
      simp [Nat.testBit_shiftLeft] at this
    refine ⟨List.nodup_cons.2 ⟨fun hr => (h3 r hr).2 rfl, h1⟩, fun x hx => ?_⟩
    rcases List.mem_cons.1 hx with rfl | hx
    · exact h.1
    · exact (h3 x hx).1
theorem rk_all : ((List.range 7).all fun n => fresh ((List.range (fact n)).map (rk n)) 0) = true := by decide +kernel
theorem rk_new {n k : Nat} (hn : n ≤ 6) (hk : k < fact n) : ((rk n k : Nat) : Int) ∉ ints ((List.range k).map (rk n)) := by
  have h1 := List.all_eq_true.1 rk_all n (List.mem_range.2 (by omega))
  have h2 := (fresh_spec _ _ h1).1
  intro hm
  simp only [ints, List.map_map, List.mem_map, List.mem_range, Function.comp] at hm
  obtain ⟨a, ha, e⟩ := hm
  have e : rk n a = rk n k := by omega
  have h3 : ((List.range (fact n)).map (rk n))[a]? = ((List.range (fact n)).map (rk n))[k]? := by
    simp [hk, show a < fact n by omega, e]
  have := (List.getElem?_inj (by simp; omega) h2).1 h3
  omega
def had (n k : Nat) : List Int := ints ((List.range k).map (rk n))
theorem had_succ (n k : Nat) : had n (k + 1) = had n k ++ [((rk n k : Nat) : Int)] := by simp [had, ints, List.range_succ]
end Go.Proofs.Ytbchdnmpohnkiaa
