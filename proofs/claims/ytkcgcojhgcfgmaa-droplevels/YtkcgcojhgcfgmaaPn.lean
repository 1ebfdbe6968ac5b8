/- Orders of the numbers from 0: that each has its place; one behind the other; what undoes one. -/
import Derived.Test.YtkcgcojhgcfgmaaPm
namespace Go.Proofs.Ytkcgcojhgcfgmaa

theorem Ok.mem {p : List Int} (h : Ok p) {x : Int} (h0 : 0 ≤ x) (h1 : x < (p.length : Int)) : x ∈ p := by
  by_cases hx : x ∈ p
  · exact hx
  · have hn : (x :: p).Nodup := List.nodup_cons.2 ⟨hx, h.2.2⟩
    have hs : (x :: p) ⊆ idn p.length := fun y hy => by
      rw [mem_idn]
      rcases List.mem_cons.1 hy with rfl | hy
      · exact ⟨h0, h1⟩
      · exact h.2.1 y hy
    have := List.Nodup.length_le_of_subset hn hs
    rw [idn_len, List.length_cons] at this
    omega
theorem Ok.perm {p : List Int} (h : Ok p) : p.Perm (idn p.length) := by
  rw [List.perm_ext_iff_of_nodup h.2.2 (idn_nodup _)]
  intro x
  rw [mem_idn]
  exact ⟨fun hx => h.2.1 x hx, fun hx => h.mem hx.1 hx.2⟩
theorem ok_of_perm {p : List Int} (hl : p.length ≤ 20) (h : p.Perm (idn p.length)) : Ok p :=
  ⟨hl, fun x hx => by rw [← mem_idn]; exact h.mem_iff.1 hx, h.nodup_iff.2 (idn_nodup _)⟩

/-- By counting. -/
theorem ok_count (p : List Int) : Ok p ↔ p.length ≤ 20 ∧ ∀ k, k < p.length → p.count (k : Int) = 1 := by
  constructor
  · intro h
    refine ⟨h.1, fun k hk => ?_⟩
    rw [h.2.2.count, if_pos (h.mem (by omega) (by omega))]
  · rintro ⟨hl, hc⟩
    have hsub : idn p.length ⊆ p := fun x hx => by
      rw [mem_idn] at hx
      have := hc x.toNat (by omega)
      rw [show ((x.toNat : Nat) : Int) = x by omega] at this
      exact List.count_pos_iff.1 (by omega)
    have hin : ∀ x ∈ p, 0 ≤ x ∧ x < (p.length : Int) := by
      intro x hx
      rw [← mem_idn]
      by_cases h : x ∈ idn p.length
      · exact h
      · have hs : idn p.length ⊆ p.erase x := fun y hy => by
          have hne : y ≠ x := fun e => h (e ▸ hy)
          exact (List.mem_erase_of_ne hne).2 (hsub hy)
        have := List.Nodup.length_le_of_subset (idn_nodup _) hs
        rw [idn_len, List.length_erase_of_mem hx] at this
        have : 0 < p.length := List.length_pos_of_mem hx
        omega
    refine ⟨hl, hin, ?_⟩
    rw [List.nodup_iff_count]
    intro a
    by_cases ha : a ∈ p
    · have h2 := hin a ha
      have := hc a.toNat (by omega)
      rw [show ((a.toNat : Nat) : Int) = a by omega] at this
      omega
    · rw [List.count_eq_zero_of_not_mem ha]; omega

theorem Ok.inj {p : List Int} (h : Ok p) {i j : Nat} (hi : i < p.length) (hj : j < p.length) (e : p.getD i 0 = p.getD j 0) : i = j := by
  have e2 : p[i]? = p[j]? := by
    rw [List.getD_eq_getElem?_getD, List.getD_eq_getElem?_getD, List.getElem?_eq_getElem hi, List.getElem?_eq_getElem hj] at e
    rw [List.getElem?_eq_getElem hi, List.getElem?_eq_getElem hj]
    exact congrArg some e
  exact (List.getElem?_inj hi h.2.2).1 e2
/-- An order from places. -/
theorem ok_of_fun {n : Nat} {f : Nat → Int} (hn : n ≤ 20) (h1 : ∀ k, k < n → 0 ≤ f k ∧ f k < (n : Int)) (h2 : ∀ i j, i < n → j < n → f i = f j → i = j) : Ok ((List.range n).map f) := by
  refine ⟨by simpa using hn, fun x hx => ?_, ?_⟩
  · simp only [List.mem_map, List.mem_range] at hx
    obtain ⟨k, hk, rfl⟩ := hx
    simpa using h1 k hk
  · rw [List.Nodup, List.pairwise_map]
    refine List.Pairwise.imp_of_mem ?_ (List.nodup_range (n := n))
    intro a b ha hb hne e
    exact hne (h2 a b (List.mem_range.1 ha) (List.mem_range.1 hb) e)
theorem map_at {n k : Nat} (f : Nat → Int) (h : k < n) : ((List.range n).map f).getD k 0 = f k := by simp [List.getD_eq_getElem?_getD, h]

/-! One behind the other -/
def thenF (p q : List Int) (k : Nat) : Int := q.getD (p.getD k 0).toNat 0
def thenL (p q : List Int) : List Int := (List.range p.length).map (thenF p q)
theorem thenL_len (p q : List Int) : (thenL p q).length = p.length := by simp [thenL]
theorem thenL_at (p q : List Int) {k : Nat} (h : k < p.length) : (thenL p q).getD k 0 = q.getD (p.getD k 0).toNat 0 := map_at _ h
theorem Ok.lt {p : List Int} (h : Ok p) {k : Nat} (hk : k < p.length) : (p.getD k 0).toNat < p.length := by
  obtain ⟨e, he, hlt⟩ := h.at hk
  rw [he]; simpa using hlt
theorem thenL_ok {p q : List Int} (hp : Ok p) (hq : Ok q) (hl : p.length = q.length) : Ok (thenL p q) := by
  refine ok_of_fun hp.1 (fun k hk => ?_) (fun i j hi hj e => ?_)
  · have := hp.lt hk
    have := hq.2.1 _ (getD_mem (p := q) (k := (p.getD k 0).toNat) (by omega))
    unfold thenF; omega
  · have h1 := hp.lt hi
    have h2 := hp.lt hj
    have := hq.inj (by omega) (by omega) e
    obtain ⟨a, ha, _⟩ := hp.at hi
    obtain ⟨b, hb, _⟩ := hp.at hj
    refine hp.inj hi hj ?_
    rw [ha, hb] at this ⊢
    simp at this
    rw [this]
theorem thenL_assoc {p q r : List Int} (hp : Ok p) (hl : p.length = q.length) : thenL (thenL p q) r = thenL p (thenL q r) := by
  refine ext_getD (by simp [thenL_len]) (fun k hk => ?_)
  simp only [thenL_len] at hk
  have := hp.lt hk
  rw [thenL_at _ _ (by rw [thenL_len]; exact hk), thenL_at _ _ hk, thenL_at _ _ hk, thenL_at _ _ (by omega)]

/-! What undoes it -/
def backL (p : List Int) : List Int := (List.range p.length).map fun (j : Nat) => ((p.idxOf (j : Int) : Nat) : Int)
theorem backL_len (p : List Int) : (backL p).length = p.length := by simp [backL]
theorem idxOf_at {p : List Int} (h : Ok p) {k e : Nat} (hk : k < p.length) (he : p.getD k 0 = (e : Int)) : p.idxOf (e : Int) = k := by
  have := h.2.2.idxOf_getElem k hk
  rw [List.getD_eq_getElem?_getD, List.getElem?_eq_getElem hk] at he
  rw [← he]; exact this
theorem backL_at {p : List Int} (h : Ok p) {k e : Nat} (hk : k < p.length) (he : p.getD k 0 = (e : Int)) (hlt : e < p.length) : (backL p).getD e 0 = (k : Int) := by
  unfold backL
  rw [map_at _ hlt, idxOf_at h hk he]
/-- Where a number stands. -/
theorem Ok.place {p : List Int} (h : Ok p) {e : Nat} (he : e < p.length) : ∃ k, k < p.length ∧ p.getD k 0 = (e : Int) ∧ (backL p).getD e 0 = (k : Int) := by
  obtain ⟨k, hk, hx⟩ := mem_getD (h.mem (x := (e : Int)) (by omega) (by omega))
  exact ⟨k, hk, hx, backL_at h hk hx he⟩
theorem backL_ok {p : List Int} (h : Ok p) : Ok (backL p) := by
  refine ok_of_fun h.1 (fun e he => ?_) (fun i j hi hj e => ?_)
  · obtain ⟨k, hk, hx, _⟩ := h.place he
    rw [idxOf_at h hk hx]; omega
  · obtain ⟨a, ha, hx, _⟩ := h.place hi
    obtain ⟨b, hb, hy, _⟩ := h.place hj
    rw [idxOf_at h ha hx, idxOf_at h hb hy] at e
    have : a = b := by omega
    rw [this, hy] at hx
    omega
theorem thenL_back {p : List Int} (h : Ok p) : thenL p (backL p) = idn p.length := by
  refine ext_getD (by rw [thenL_len, idn_len]) (fun k hk => ?_)
  rw [thenL_len] at hk
  obtain ⟨e, he, hlt⟩ := h.at hk
  rw [thenL_at _ _ hk, idn_at hk, he]
  exact backL_at h hk he hlt
theorem backL_back {p : List Int} (h : Ok p) : backL (backL p) = p := by
  refine ext_getD (by simp [backL_len]) (fun k hk => ?_)
  simp only [backL_len] at hk
  obtain ⟨e, he, hlt⟩ := h.at hk
  rw [he]
  exact backL_at (backL_ok h) (by rw [backL_len]; exact hlt) (backL_at h hk he hlt) (by rw [backL_len]; exact hk)

/-! Lists filled from the front -/
def upTo (f : Nat → Int) (n k : Nat) : List Int := (List.range k).map f ++ List.replicate (n - k) 0
theorem upTo_zero (f : Nat → Int) (n : Nat) : upTo f n 0 = List.replicate n 0 := by simp [upTo]
theorem upTo_end (f : Nat → Int) (n : Nat) : upTo f n n = (List.range n).map f := by simp [upTo]
theorem upTo_len (f : Nat → Int) {n k : Nat} (h : k ≤ n) : (upTo f n k).length = n := by simp [upTo]; omega
theorem upTo_set (f : Nat → Int) {n k : Nat} (h : k < n) : (upTo f n k).set k (f k) = upTo f n (k + 1) := by
  unfold upTo
  rw [List.set_append_right _ _ (by simp), show n - k = (n - (k + 1)) + 1 by omega, List.replicate_succ]
  simp [List.range_succ]
/-- The inverse, so far. -/
def invTo (p : List Int) (k : Nat) : List Int := (List.range p.length).map fun (j : Nat) => if (j : Int) ∈ p.take k then ((p.idxOf (j : Int) : Nat) : Int) else 0
theorem invTo_len (p : List Int) (k : Nat) : (invTo p k).length = p.length := by simp [invTo]
theorem invTo_zero (p : List Int) : invTo p 0 = List.replicate p.length 0 := by
  apply List.ext_getElem
  · simp [invTo]
  · intro i h1 h2; simp [invTo]
theorem invTo_set {p : List Int} (h : Ok p) {k e : Nat} (hk : k < p.length) (he : p.getD k 0 = (e : Int)) (hlt : e < p.length) : (invTo p k).set e (k : Int) = invTo p (k + 1) := by
  apply List.ext_getElem
  · simp [invTo]
  · intro i h1 h2
    rw [List.getElem_set]
    simp only [invTo, List.getElem_map, List.getElem_range, take_snoc hk, he, List.mem_append, List.mem_singleton]
    by_cases hi : e = i
    · subst hi
      simp [idxOf_at h hk he]
    · have : ¬ ((i : Int) = (e : Int)) := by omega
      simp [hi, this]
theorem invTo_end {p : List Int} (h : Ok p) : invTo p p.length = backL p := by
  apply List.ext_getElem
  · simp [invTo, backL]
  · intro i h1 h2
    have hi : i < p.length := by simpa [invTo] using h1
    simp [invTo, backL, h.mem (x := (i : Int)) (by omega) (by omega)]
end Go.Proofs.Ytkcgcojhgcfgmaa
