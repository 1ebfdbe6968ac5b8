/- Digits with the bases 1, 2, ..; picking by digits. -/
import Derived.Test.YtbchdnmpohnkiaaPn
namespace Go.Proofs.Ytbchdnmpohnkiaa

/-- The last m digits of r, and what is left. -/
def fd : Nat → Nat → List Nat × Nat
  | 0, r => ([], r)
  | m + 1, r => ((fd m r).2 % (m + 1) :: (fd m r).1, (fd m r).2 / (m + 1))
theorem fd_len (m r : Nat) : (fd m r).1.length = m := by
  induction m with
  | zero => rfl
  | succ m ih => simp [fd, ih]
theorem fd_rest (m r : Nat) : (fd m r).2 = r / fact m := by
  induction m with
  | zero => simp [fd, fact]
  | succ m ih => rw [fd, fact, ih, Nat.div_div_eq_div_mul, Nat.mul_comm]
theorem fd_rc (m r : Nat) : rc (fd m r).1 = r % fact m := by
  induction m with
  | zero => simp [fd, rc, fact, Nat.mod_one]
  | succ m ih =>
    rw [fd, rc, fd_len, ih, fd_rest, fact]
    have := Nat.mod_mul (a := fact m) (b := m + 1) (x := r)
    rw [Nat.mul_comm (m + 1) (fact m), this, Nat.mul_comm, Nat.add_comm]
theorem fd_dig (m r : Nat) : dig (fd m r).1 := by
  induction m with
  | zero => trivial
  | succ m ih =>
    refine ⟨?_, ih⟩
    rw [fd_len]
    have := Nat.mod_lt (fd m r).2 (show 0 < m + 1 by omega)
    omega
/-- Digits are known by their number. -/
theorem dig_inj : ∀ {a b : List Nat}, a.length = b.length → dig a → dig b → rc a = rc b → a = b
  | [], [], _, _, _, _ => rfl
  | x :: a, y :: b, hl, ha, hb, h => by
    simp only [List.length_cons, Nat.add_right_cancel_iff] at hl
    have h1 := rc_lt ha.2
    have h2 := rc_lt hb.2
    simp only [rc] at h
    rw [hl] at h h1
    have e1 : x = y := by
      have p := fact_pos b.length
      have q1 : (x * fact b.length + rc a) / fact b.length = x := by
        rw [Nat.mul_comm, Nat.mul_add_div p, Nat.div_eq_of_lt h1]; rfl
      have q2 : (y * fact b.length + rc b) / fact b.length = y := by
        rw [Nat.mul_comm, Nat.mul_add_div p, Nat.div_eq_of_lt h2]; rfl
      rw [← q1, ← q2, h]
    subst e1
    rw [dig_inj hl ha.2 hb.2 (by omega)]
/-- So far: zeros, and the digits. -/
def fdTo (n m r : Nat) : List Int := ints (List.replicate (n - m) 0 ++ (fd m r).1)
theorem fdTo_zero (n r : Nat) : fdTo n 0 r = List.replicate n 0 := by simp [fdTo, fd, ints]
theorem fdTo_len {n m : Nat} (r : Nat) (h : m ≤ n) : (fdTo n m r).length = n := by simp [fdTo, ints, fd_len]; omega
theorem fdTo_end (n r : Nat) : fdTo n n r = ints (fd n r).1 := by simp [fdTo]
theorem fdTo_set {n m i : Nat} (r : Nat) (h : m + 1 + i = n) : (fdTo n m r).set i (((fd m r).2 % (m + 1) : Nat) : Int) = fdTo n (m + 1) r := by
  unfold fdTo ints
  rw [← List.map_set (f := fun (k : Nat) => (k : Int))]
  congr 1
  rw [show n - m = i + 1 by omega, show n - (m + 1) = i by omega, fd, List.set_append_left _ _ (by simp), show List.replicate (i + 1) 0 = List.replicate i 0 ++ [0] from List.replicate_succ', List.set_append_right _ _ (by simp)]
  simp

/-- Picking: each digit says how many to pass over. -/
def pick : List Int → List Nat → List Int
  | _, [] => []
  | u, c :: cs => u.getD c 0 :: pick (u.eraseIdx c) cs
theorem pick_len (cs : List Nat) : ∀ u, (pick u cs).length = cs.length := by
  induction cs with
  | nil => intro u; rfl
  | cons c cs ih => intro u; simp [pick, ih]
/-- What is left over when k are picked. -/
def left : List Int → List Nat → Nat → List Int
  | u, _, 0 => u
  | u, [], _ + 1 => u
  | u, c :: cs, k + 1 => left (u.eraseIdx c) cs k
theorem left_zero (u : List Int) (cs : List Nat) : left u cs 0 = u := by cases cs <;> rfl
theorem left_succ (cs : List Nat) : ∀ (u : List Int) (k : Nat), k < cs.length → left u cs (k + 1) = (left u cs k).eraseIdx (cs.getD k 0) := by
  induction cs with
  | nil => intro u k h; simp at h
  | cons c cs ih =>
    intro u k h
    cases k with
    | zero => simp [left]
    | succ k => rw [left, left, ih _ _ (by simpa using h)]; simp
theorem pick_at (cs : List Nat) : ∀ (u : List Int) (k : Nat), k < cs.length → (pick u cs).getD k 0 = (left u cs k).getD (cs.getD k 0) 0 := by
  induction cs with
  | nil => intro u k h; simp at h
  | cons c cs ih =>
    intro u k h
    cases k with
    | zero => simp [pick, left]
    | succ k =>
      have := ih (u.eraseIdx c) k (by simpa using h)
      simpa [pick, left] using this
theorem dig_at : ∀ {cs : List Nat} {k : Nat}, dig cs → k < cs.length → cs.getD k 0 + k < cs.length
  | c :: cs, 0, h, _ => by simp [List.getD]; exact Nat.lt_succ_of_le h.1
  | c :: cs, k + 1, h, hk => by
    have := dig_at (cs := cs) (k := k) h.2 (by simpa using hk)
    simp only [List.length_cons, List.getD_cons_succ]
    omega
theorem left_len : ∀ {cs : List Nat} {u : List Int} {k : Nat}, dig cs → u.length = cs.length → k ≤ cs.length → (left u cs k).length = cs.length - k
  | cs, u, 0, _, hu, _ => by simp [left, hu]
  | [], u, k + 1, _, _, hk => by simp at hk
  | c :: cs, u, k + 1, h, hu, hk => by
    simp only [List.length_cons] at hu hk
    have hc : c < u.length := by have := h.1; omega
    have e : (u.eraseIdx c).length = cs.length := by rw [List.length_eraseIdx, if_pos hc]; omega
    rw [left, left_len (cs := cs) h.2 e (by omega)]
    simp only [List.length_cons]
    omega
def pickTo (u : List Int) (cs : List Nat) (k : Nat) : List Int := (pick u cs).take k ++ List.replicate (cs.length - k) 0
theorem pickTo_zero (u : List Int) (cs : List Nat) : pickTo u cs 0 = List.replicate cs.length 0 := by simp [pickTo]
theorem pickTo_len (u : List Int) (cs : List Nat) {k : Nat} (h : k ≤ cs.length) : (pickTo u cs k).length = cs.length := by simp [pickTo, pick_len]; omega
theorem pickTo_end (u : List Int) (cs : List Nat) : pickTo u cs cs.length = pick u cs := by
  unfold pickTo; rw [List.take_of_length_le (by rw [pick_len]; exact Nat.le_refl _)]; simp
theorem pickTo_set (u : List Int) (cs : List Nat) {k : Nat} (h : k < cs.length) : (pickTo u cs k).set k ((left u cs k).getD (cs.getD k 0) 0) = pickTo u cs (k + 1) := by
  unfold pickTo
  have hl : k < (pick u cs).length := by rw [pick_len]; exact h
  have e : ((pick u cs).take k).length = k := by simp; omega
  rw [← pick_at cs u k h, List.set_append_right _ _ (by omega), e, Nat.sub_self, show cs.length - k = (cs.length - (k + 1)) + 1 by omega, List.replicate_succ, take_snoc hl]
  simp
end Go.Proofs.Ytbchdnmpohnkiaa
