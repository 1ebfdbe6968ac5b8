/- Each order has its number, and each number its order. -/
import Derived.Test.YtbchdnmpohnkiaaPd
namespace Go.Proofs.Ytbchdnmpohnkiaa

def asc (u : List Int) : Prop := u.Pairwise (· < ·)
theorem asc_idn (n : Nat) : asc (idn n) := by
  unfold asc idn
  rw [List.pairwise_map]
  refine List.Pairwise.imp ?_ (List.pairwise_lt_range (n := n))
  intro a b h; omega
theorem cnt_append (x : Int) (a b : List Int) : cnt x (a ++ b) = cnt x a + cnt x b := by simp [cnt]
theorem cnt_all {x : Int} {l : List Int} (h : ∀ y ∈ l, y < x) : cnt x l = l.length := by
  unfold cnt
  rw [List.countP_eq_length]
  intro y hy; simpa using h y hy
theorem cnt_none {x : Int} {l : List Int} (h : ∀ y ∈ l, x < y) : cnt x l = 0 := by
  unfold cnt
  rw [List.countP_eq_zero]
  intro y hy; have := h y hy; simp; omega
theorem cnt_perm {a b : List Int} (h : a.Perm b) (x : Int) : cnt x a = cnt x b := h.countP_eq _
theorem split_at {u : List Int} {k : Nat} (h : k < u.length) : u = u.take k ++ u.getD k 0 :: u.drop (k + 1) := by
  rw [← drop_cons h, List.take_append_drop]
theorem asc_parts {u : List Int} (h : asc u) {k : Nat} (hk : k < u.length) : (∀ y ∈ u.take k, y < u.getD k 0) ∧ (∀ y ∈ u.drop (k + 1), u.getD k 0 < y) := by
  unfold asc at h
  have e := split_at hk
  rw [e, List.pairwise_append] at h
  obtain ⟨_, h2, h3⟩ := h
  refine ⟨fun y hy => h3 y hy _ (by simp), fun y hy => ?_⟩
  exact (List.pairwise_cons.1 h2).1 y hy
theorem cnt_erase {u : List Int} (h : asc u) {k : Nat} (hk : k < u.length) : cnt (u.getD k 0) (u.eraseIdx k) = k := by
  obtain ⟨h1, h2⟩ := asc_parts h hk
  rw [List.eraseIdx_eq_take_drop_succ, cnt_append, cnt_all h1, cnt_none h2]
  simp; omega
theorem cnt_self {u : List Int} (h : asc u) {k : Nat} (hk : k < u.length) : cnt (u.getD k 0) u = k := by
  obtain ⟨h1, h2⟩ := asc_parts h hk
  have e := split_at hk
  have : cnt (u.getD k 0) (u.take k ++ u.getD k 0 :: u.drop (k + 1)) = k := by
    rw [cnt_append, cnt_all h1, show u.getD k 0 :: u.drop (k + 1) = [u.getD k 0] ++ u.drop (k + 1) from rfl, cnt_append, cnt_none h2]
    simp [cnt]; omega
  rwa [← e] at this
theorem asc_erase {u : List Int} (h : asc u) (k : Nat) : asc (u.eraseIdx k) := h.sublist (List.eraseIdx_sublist u k)
theorem erase_perm {u : List Int} {k : Nat} (hk : k < u.length) : u.Perm (u.getD k 0 :: u.eraseIdx k) := by
  have e := split_at hk
  rw [List.eraseIdx_eq_take_drop_succ]
  conv => lhs; rw [e]
  exact List.perm_middle
theorem pick_perm : ∀ {cs : List Nat} {u : List Int}, dig cs → u.length = cs.length → (pick u cs).Perm u
  | [], u, _, hu => by
    have : u = [] := List.eq_nil_of_length_eq_zero (by simpa using hu)
    subst this; exact List.Perm.refl _
  | c :: cs, u, h, hu => by
    simp only [List.length_cons] at hu
    have hc : c < u.length := by have := h.1; omega
    have e : (u.eraseIdx c).length = cs.length := by rw [List.length_eraseIdx, if_pos hc]; omega
    rw [pick]
    exact ((pick_perm h.2 e).cons _).trans (erase_perm hc).symm
theorem code_pick : ∀ {cs : List Nat} {u : List Int}, dig cs → u.length = cs.length → asc u → code (pick u cs) = cs
  | [], u, _, _, _ => rfl
  | c :: cs, u, h, hu, ha => by
    simp only [List.length_cons] at hu
    have hc : c < u.length := by have := h.1; omega
    have e : (u.eraseIdx c).length = cs.length := by rw [List.length_eraseIdx, if_pos hc]; omega
    rw [pick, code, cnt_perm (pick_perm h.2 e), cnt_erase ha hc, code_pick h.2 e (asc_erase ha c)]
theorem pick_code : ∀ {p u : List Int}, p.Perm u → asc u → pick u (code p) = p
  | [], u, _, _ => rfl
  | x :: r, u, h, ha => by
    obtain ⟨k, hk, hx⟩ := mem_getD (h.mem_iff.1 (List.mem_cons_self (a := x) (l := r)))
    have hc : cnt x r = k := by
      have h1 := cnt_self ha hk
      rw [hx, ← cnt_perm h] at h1
      have h2 : cnt x (x :: r) = cnt x r := by simp [cnt]
      omega
    have hp : r.Perm (u.eraseIdx k) := by
      have := (erase_perm hk).symm.trans h.symm
      rw [hx] at this
      exact (List.Perm.cons_inv this).symm
    rw [code, pick, hc, hx, pick_code hp (asc_erase ha k)]

theorem pick_ok {n : Nat} (hn : n ≤ 20) {cs : List Nat} (h : dig cs) (hl : cs.length = n) : Ok (pick (idn n) cs) := by
  have hlen : (pick (idn n) cs).length = n := by rw [pick_len, hl]
  refine ok_of_perm (by omega) ?_
  rw [hlen]
  exact pick_perm h (by rw [idn_len, hl])
/-- The number of the order that a number has. -/
theorem rank_pick {n r : Nat} (hr : r < fact n) : rank (pick (idn n) (fd n r).1) = r := by
  unfold rank
  rw [code_pick (fd_dig n r) (by rw [idn_len, fd_len]) (asc_idn n), fd_rc, Nat.mod_eq_of_lt hr]
/-- The order that the number of an order has. -/
theorem pick_rank {p : List Int} (h : Ok p) : pick (idn p.length) (fd p.length (rank p)).1 = p := by
  have e : (fd p.length (rank p)).1 = code p := dig_inj (by rw [fd_len, code_len]) (fd_dig _ _) (code_dig p) (by rw [fd_rc, Nat.mod_eq_of_lt (rank_lt p)]; rfl)
  rw [e]
  exact pick_code h.perm (asc_idn _)
end Go.Proofs.Ytbchdnmpohnkiaa
