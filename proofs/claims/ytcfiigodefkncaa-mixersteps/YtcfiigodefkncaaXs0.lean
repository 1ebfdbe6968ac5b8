import Derived.Test.YtcfiigodefkncaaU0
/- mixer: words turned round; states, steps, steps undone; outputs and their bits. -/
namespace Go.Proofs.Ytcfiigodefkncaa
/-! rotations -/
def rot (k : Nat) (x : W64) : W64 := x <<< k ||| x >>> (64 - k)
theorem rot_bit (k : Nat) (hk : k < 64) (x : W64) (i : Nat) (hi : i < 64) : (rot k x).getLsbD i = if i < k then x.getLsbD (64 - k + i) else x.getLsbD (i - k) := by
  unfold rot
  simp only [BitVec.getLsbD_or, BitVec.getLsbD_shiftLeft, BitVec.getLsbD_ushiftRight, hi, decide_true, Bool.true_and]
  by_cases h : i < k
  · simp [h]
  · simp only [h, decide_false, Bool.not_false, Bool.true_and, if_false]
    rw [BitVec.getLsbD_of_ge x (64 - k + i) (by omega), Bool.or_false]
theorem rot_zero (x : W64) : rot 0 x = x := by
  apply BitVec.eq_of_getLsbD_eq
  intro i hi
  rw [rot_bit 0 (by decide) x i hi]; simp
theorem rot_add {j k : Nat} (h : j + k < 64) (x : W64) : rot j (rot k x) = rot (j + k) x := by
  apply BitVec.eq_of_getLsbD_eq
  intro i hi
  rw [rot_bit j (by omega) _ i hi, rot_bit (j + k) h x i hi]
  by_cases h1 : i < j
  · rw [if_pos h1, if_pos (by omega : i < j + k), rot_bit k (by omega) x _ (by omega), if_neg (by omega)]
    congr 1; omega
  · rw [if_neg h1, rot_bit k (by omega) x _ (by omega)]
    by_cases h2 : i - j < k
    · rw [if_pos h2, if_pos (by omega : i < j + k)]; congr 1; omega
    · rw [if_neg h2, if_neg (by omega : ¬ i < j + k)]; congr 1; omega
theorem rot_all {j k : Nat} (h : j + k = 64) (hj : j < 64) (hk : k < 64) (x : W64) : rot j (rot k x) = x := by
  apply BitVec.eq_of_getLsbD_eq
  intro i hi
  rw [rot_bit j hj _ i hi]
  by_cases h1 : i < j
  · rw [if_pos h1, rot_bit k hk x _ (by omega), if_neg (by omega)]
    congr 1; omega
  · rw [if_neg h1, rot_bit k hk x _ (by omega), if_pos (by omega)]
    congr 1; omega
theorem rot_xor (k : Nat) (hk : k < 64) (x y : W64) : rot k (x ^^^ y) = rot k x ^^^ rot k y := by
  apply BitVec.eq_of_getLsbD_eq
  intro i hi
  rw [BitVec.getLsbD_xor, rot_bit k hk _ i hi, rot_bit k hk _ i hi, rot_bit k hk _ i hi]
  split <;> rw [BitVec.getLsbD_xor]
theorem rot_one (x : W64) : (rot 1 x).toNat = (2 * x.toNat % 18446744073709551616 + x.toNat / 9223372036854775808) % 18446744073709551616 := by
  have hx := x.isLt
  unfold rot
  rw [BitVec.toNat_or, BitVec.toNat_shiftLeft, BitVec.toNat_ushiftRight, Nat.shiftLeft_eq, Nat.shiftRight_eq_div_pow]
  have e1 : x.toNat * 2 ^ 1 % 2 ^ 64 = 2 ^ 1 * (x.toNat % 9223372036854775808) := by omega
  rw [e1, ← Nat.two_pow_add_eq_or_of_lt (by omega)]
  omega

/-! states -/
structure Mx where
  a : W64
  b : W64
  c : W64
  d : W64
deriving DecidableEq
theorem Mx.ext' {m o : Mx} (h1 : m.a = o.a) (h2 : m.b = o.b) (h3 : m.c = o.c) (h4 : m.d = o.d) : m = o := by
  cases m; cases o; simp_all
def shl (k : Nat) (x : W64) : W64 := x ^^^ x <<< k
theorem shl_shl (k : Nat) (x : W64) : shl k (shl k x) = shl (2 * k) x := by
  unfold shl
  rw [BitVec.shiftLeft_xor_distrib, ← BitVec.shiftLeft_add, ← Nat.two_mul, ← BitVec.xor_assoc, BitVec.xor_assoc x, BitVec.xor_self, BitVec.xor_zero]
theorem shl_big {k : Nat} (h : 64 ≤ k) (x : W64) : shl k x = x := by
  unfold shl
  rw [BitVec.shiftLeft_eq_zero h, BitVec.xor_zero]
theorem shl_comm (a b : Nat) (x : W64) : shl a (shl b x) = shl b (shl a x) := by
  unfold shl
  rw [BitVec.shiftLeft_xor_distrib, BitVec.shiftLeft_xor_distrib, ← BitVec.shiftLeft_add, ← BitVec.shiftLeft_add, Nat.add_comm b a]
  rw [BitVec.xor_assoc, BitVec.xor_assoc]
  congr 1
  rw [← BitVec.xor_assoc, ← BitVec.xor_assoc, BitVec.xor_comm (x <<< b)]
def ushl (x : W64) : W64 := shl 34 (shl 17 x)
theorem ushl_shl (x : W64) : ushl (shl 17 x) = x := by
  unfold ushl
  rw [shl_shl, shl_shl, shl_big (by decide)]
theorem shl_ushl (x : W64) : shl 17 (ushl x) = x := by
  unfold ushl
  rw [shl_comm, shl_shl, shl_shl, shl_big (by decide)]
/-- The output of a step, and the state behind it. -/
def stO (m : Mx) : W64 := rot 7 (m.b * 5#64) * 9#64
def stN (m : Mx) : Mx := ⟨m.a ^^^ (m.d ^^^ m.b), m.b ^^^ (m.c ^^^ m.a), (m.c ^^^ m.a) ^^^ m.b <<< 17, rot 45 (m.d ^^^ m.b)⟩
def bkN (m : Mx) : Mx := ⟨m.a ^^^ rot 19 m.d, ushl (m.b ^^^ m.c), m.b ^^^ ushl (m.b ^^^ m.c) ^^^ (m.a ^^^ rot 19 m.d), rot 19 m.d ^^^ ushl (m.b ^^^ m.c)⟩
theorem xx (x y : W64) : x ^^^ (y ^^^ y) = x := by rw [BitVec.xor_self, BitVec.xor_zero]
theorem x_cancel (x y : W64) : x ^^^ y ^^^ y = x := by rw [BitVec.xor_assoc, xx]
theorem x_left (x y : W64) : x ^^^ (x ^^^ y) = y := by rw [← BitVec.xor_assoc, BitVec.xor_self, BitVec.zero_xor]
theorem bk_st (m : Mx) : bkN (stN m) = m := by
  have h1 : rot 19 (rot 45 (m.d ^^^ m.b)) = m.d ^^^ m.b := rot_all rfl (by decide) (by decide) _
  have h2 : m.b ^^^ (m.c ^^^ m.a) ^^^ (m.c ^^^ m.a ^^^ m.b <<< 17) = shl 17 m.b := by
    unfold shl
    rw [← BitVec.xor_assoc, x_cancel]
  unfold bkN stN
  simp only [h1, h2, ushl_shl]
  refine Mx.ext' ?_ rfl ?_ ?_
  · show m.a ^^^ (m.d ^^^ m.b) ^^^ (m.d ^^^ m.b) = m.a
    rw [x_cancel]
  · show m.b ^^^ (m.c ^^^ m.a) ^^^ m.b ^^^ (m.a ^^^ (m.d ^^^ m.b) ^^^ (m.d ^^^ m.b)) = m.c
    rw [x_cancel, BitVec.xor_comm m.b, x_cancel, x_cancel]
  · show m.d ^^^ m.b ^^^ m.b = m.d
    rw [x_cancel]
theorem st_bk (m : Mx) : stN (bkN m) = m := by
  have h1 : rot 45 (rot 19 m.d) = m.d := rot_all rfl (by decide) (by decide) _
  have h2 := shl_ushl (m.b ^^^ m.c)
  unfold shl at h2
  unfold stN bkN
  refine Mx.ext' ?_ ?_ ?_ ?_
  · show m.a ^^^ rot 19 m.d ^^^ (rot 19 m.d ^^^ ushl (m.b ^^^ m.c) ^^^ ushl (m.b ^^^ m.c)) = m.a
    rw [x_cancel, x_cancel]
  · show ushl (m.b ^^^ m.c) ^^^ (m.b ^^^ ushl (m.b ^^^ m.c) ^^^ (m.a ^^^ rot 19 m.d) ^^^ (m.a ^^^ rot 19 m.d)) = m.b
    rw [x_cancel, BitVec.xor_comm m.b (ushl _), x_left]
  · show m.b ^^^ ushl (m.b ^^^ m.c) ^^^ (m.a ^^^ rot 19 m.d) ^^^ (m.a ^^^ rot 19 m.d) ^^^ ushl (m.b ^^^ m.c) <<< 17 = m.c
    rw [x_cancel, BitVec.xor_assoc, h2, x_left]
  · show rot 45 (rot 19 m.d ^^^ ushl (m.b ^^^ m.c) ^^^ ushl (m.b ^^^ m.c)) = m.d
    rw [x_cancel, h1]
theorem stN_inj {m o : Mx} (h : stN m = stN o) : m = o := by rw [← bk_st m, ← bk_st o, h]
def Mx.zero : Mx := ⟨0#64, 0#64, 0#64, 0#64⟩
theorem stN_zero : stN Mx.zero = Mx.zero := by decide
def mxx (m o : Mx) : Mx := ⟨m.a ^^^ o.a, m.b ^^^ o.b, m.c ^^^ o.c, m.d ^^^ o.d⟩
theorem x4 (a b c d : W64) : (a ^^^ b) ^^^ (c ^^^ d) = (a ^^^ c) ^^^ (b ^^^ d) := by
  rw [BitVec.xor_assoc, BitVec.xor_assoc]; congr 1
  rw [← BitVec.xor_assoc, ← BitVec.xor_assoc, BitVec.xor_comm b]
theorem stN_mix (m o : Mx) : stN (mxx m o) = mxx (stN m) (stN o) := by
  refine Mx.ext' ?_ ?_ ?_ ?_
  · show (m.a ^^^ o.a) ^^^ ((m.d ^^^ o.d) ^^^ (m.b ^^^ o.b)) = (m.a ^^^ (m.d ^^^ m.b)) ^^^ (o.a ^^^ (o.d ^^^ o.b))
    rw [x4 m.d, x4]
  · show (m.b ^^^ o.b) ^^^ ((m.c ^^^ o.c) ^^^ (m.a ^^^ o.a)) = (m.b ^^^ (m.c ^^^ m.a)) ^^^ (o.b ^^^ (o.c ^^^ o.a))
    rw [x4 m.c, x4]
  · show ((m.c ^^^ o.c) ^^^ (m.a ^^^ o.a)) ^^^ (m.b ^^^ o.b) <<< 17 = ((m.c ^^^ m.a) ^^^ m.b <<< 17) ^^^ ((o.c ^^^ o.a) ^^^ o.b <<< 17)
    rw [x4 m.c, BitVec.shiftLeft_xor_distrib, x4]
  · show rot 45 ((m.d ^^^ o.d) ^^^ (m.b ^^^ o.b)) = rot 45 (m.d ^^^ m.b) ^^^ rot 45 (o.d ^^^ o.b)
    rw [x4, rot_xor 45 (by decide)]
/-- The state behind so many steps, and their outputs. -/
def itN : Nat → Mx → Mx
  | 0, m => m
  | n + 1, m => stN (itN n m)
def outs : Nat → Mx → List W64
  | 0, _ => []
  | n + 1, m => outs n m ++ [stO (itN n m)]
theorem outs_len (n : Nat) (m : Mx) : (outs n m).length = n := by
  induction n with
  | zero => rfl
  | succ n ih => simp [outs, ih]
theorem itN_mix (n : Nat) (m o : Mx) : itN n (mxx m o) = mxx (itN n m) (itN n o) := by
  induction n with
  | zero => rfl
  | succ n ih => simp only [itN]; rw [ih, stN_mix]
theorem outs_get {n k : Nat} (h : k < n) (m : Mx) : (outs n m).getD k 0 = stO (itN k m) := by
  induction n with
  | zero => omega
  | succ n ih =>
    unfold outs
    by_cases hk : k < n
    · rw [← ih hk, List.getD_eq_getElem?_getD, List.getElem?_append_left (by rw [outs_len]; exact hk), List.getD_eq_getElem?_getD]
    · have : k = n := by omega
      subst this
      rw [List.getD_eq_getElem?_getD, List.getElem?_append_right (by rw [outs_len]; omega), outs_len]
      simp
/-- Bit k of the outputs, the most significant of each first. -/
def obit (m : Mx) (k : Nat) : Bool := (stO (itN (k / 64) m)).getMsbD (k % 64)
def obits (n : Nat) (m : Mx) : List Bool := (List.range n).map (obit m)
theorem msb_shr (x : W64) (j : Nat) (h : j < 64) : (((x >>> (63 - j)) &&& 1#64) = 1#64) ↔ x.getMsbD j = true := by
  rw [BitVec.getMsbD, BitVec.toNat_eq]
  have e1 : ((x >>> (63 - j)) &&& 1#64).toNat = x.toNat / 2 ^ (63 - j) % 2 := by
    rw [BitVec.toNat_and, BitVec.toNat_ushiftRight, Nat.shiftRight_eq_div_pow]
    show _ &&& 1 = _
    rw [Nat.and_one_is_mod]
  rw [e1]
  simp only [h, decide_true, Bool.true_and, BitVec.getLsbD, Nat.testBit_eq_decide_div_mod_eq, decide_eq_true_iff]
  have : 64 - 1 - j = 63 - j := by omega
  rw [this]
  rfl
theorem msb_shl (x : W64) (j : Nat) (h : j < 64) : ((x <<< j) >>> 63 = 1#64) ↔ x.getMsbD j = true := by
  have e : (x <<< j) >>> 63 = (if x.getMsbD j then 1#64 else 0#64) := by
    apply BitVec.eq_of_getLsbD_eq
    intro i hi
    rw [BitVec.getLsbD_ushiftRight, BitVec.getLsbD_shiftLeft, BitVec.getMsbD]
    by_cases h0 : i = 0
    · subst h0
      have : 63 - j = 64 - 1 - j := by omega
      have h2 : ¬ (63 : Nat) < j := by omega
      by_cases hb : x.getLsbD (63 - j) = true
      · simp [h, h2, hb]
      · simp [h, h2, hb]
    · have : ¬ 63 + i < 64 := by omega
      simp only [this, decide_false, Bool.false_and]
      split <;> simp [h0]
  rw [e]
  by_cases hb : x.getMsbD j = true <;> simp [hb]
end Go.Proofs.Ytcfiigodefkncaa
