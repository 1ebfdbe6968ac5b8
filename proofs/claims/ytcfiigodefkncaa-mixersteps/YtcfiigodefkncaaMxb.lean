import Derived.Test.YtcfiigodefkncaaMxa
import Derived.Test.YtcfiigodefkncaaG1m
/- lotdrawerref.LMix. -/
namespace Go.Proofs.Ytcfiigodefkncaa
open Go.RowKit Go.Deep

/-- The block of the three shifts and factors. -/
def SB (w : World) (g : Nat) : Prop := w.heap[g]? = some (.cells #[.int .u64 30, .int .u64 13787848793156543929, .int .u64 27, .int .u64 10723151780598845931, .int .u64 31, .int .u64 1] 57 (0, 0))
/-- What stands in the loop of LMix. -/
structure LI (w : World) (ga gn gS : Nat) (z : Nat) (wr : World) : Prop where
  a : IsI wr ga ((18446744073709551616 : Nat) : Int)
  n : IsI wr gn (z : Int)
  s : SB wr gS
  b : Below w.heap.size w wr
  na : ga ≠ gn
  ns : gS ≠ gn
  ln : w.heap.size ≤ gn
theorem LI.below {w wr w' : World} {ga gn gS z : Nat} (h : LI w ga gn gS z wr) (hb : Below wr.heap.size wr w') : LI w ga gn gS z w' :=
  ⟨h.a.below hb, h.n.below hb, (hb.block _ (lt_of_block h.s)).trans h.s, h.b.trans (hb.mono h.b.size), h.na, h.ns, h.ln⟩
theorem LI.step {w wr w' : World} {ga gn gS z z' : Nat} (h : LI w ga gn gS z wr) (hn : IsI w' gn (z' : Int)) (hg : wr.grownBy w' (some gn)) : LI w ga gn gS z' w' :=
  ⟨h.a.only h.n.hd h.na hg, hn, (hg.block _ (lt_of_block h.s) (fun e => h.ns (by cases e; rfl))).trans h.s, below_grown h.b hg h.b.size h.ln, h.na, h.ns, h.ln⟩
theorem shx_nat (k : Nat) (x : W64) : x.toNat ^^^ x.toNat / 2 ^ k = (shx k x).toNat := by
  unfold shx
  rw [BitVec.toNat_xor, BitVec.toNat_ushiftRight, Nat.shiftRight_eq_div_pow]
theorem mul_nat (x c : W64) : x.toNat * c.toNat % 18446744073709551616 = (x * c).toNat := by rw [BitVec.toNat_mul]
theorem bw5 {n : Nat} (h : n < 18446744073709551616) : n < Bh ^ 900000 := pow_up (a := 2) (b := 900000) (by exact h) (by decide)
theorem bw5' {n : Nat} (h : n < 18446744073709551616) : n < Bh ^ 400000 := pow_up (a := 2) (b := 400000) (by exact h) (by decide)
theorem prod5 (x c : W64) : x.toNat * c.toNat < H.Bw ^ 5 := by
  have h1 := x.isLt
  have h2 := c.isLt
  have : x.toNat * c.toNat ≤ 18446744073709551616 * 18446744073709551616 := Nat.mul_le_mul (by omega) (by omega)
  refine Nat.lt_of_le_of_lt this ?_
  decide
theorem lr_rsh {w wv : World} {ga gn gS k : Nat} {y : W64} (h : LI w ga gn gS y.toNat wv) (hk : k ≤ 64) :
    Calls Try.prog 29 #[.pointer (some ⟨wv.heap.size, 0, none⟩), .pointer (some ⟨gn, 0, none⟩), .int .u64 (k : Int)] (wv.alloc (.cells #[.bool false, .slice none 0 0] 53)) fun e w' => e = .returned (.pointer (some ⟨wv.heap.size, 0, none⟩)) ∧ IsI w' wv.heap.size ((y.toNat / 2 ^ k : Nat) : Int) ∧ Below wv.heap.size wv w' := by
  refine (irsh_any wv.heap.size gn k y.toNat _ (IsI.new wv).hd (h.n.below (below_hdr wv)) (bw5 y.isLt) (by omega)).mono ?_
  rintro e w' ⟨rfl, h1, h2⟩
  exact ⟨rfl, h1, below_new h2⟩
theorem lr_xor {w w1 : World} {ga gn gS k t : Nat} {y : W64} (h : LI w ga gn gS y.toNat w1) (ht : IsI w1 t ((y.toNat / 2 ^ k : Nat) : Int)) :
    Calls Try.prog 28 #[.pointer (some ⟨gn, 0, none⟩), .pointer (some ⟨gn, 0, none⟩), .pointer (some ⟨t, 0, none⟩)] w1 fun e w' => e = .returned (.pointer (some ⟨gn, 0, none⟩)) ∧ LI w ga gn gS (shx k y).toNat w' ∧ w1.grownBy w' (some gn) := by
  refine (ixor_any gn gn t y.toNat (y.toNat / 2 ^ k) w1 h.n.hd h.n ht (bw5 y.isLt) (bw5 (Nat.lt_of_le_of_lt (Nat.div_le_self _ _) y.isLt))).mono ?_
  rintro e w' ⟨rfl, h1, h2⟩
  rw [shx_nat] at h1
  exact ⟨rfl, h.step h1 h2, h2⟩
theorem lr_mul {w w1 : World} {ga gn gS t : Nat} {y c : W64} (h : LI w ga gn gS y.toNat w1) (ht : IsI w1 t (c.toNat : Int)) :
    Calls Try.prog 30 #[.pointer (some ⟨gn, 0, none⟩), .pointer (some ⟨gn, 0, none⟩), .pointer (some ⟨t, 0, none⟩)] w1 fun e w' => e = .returned (.pointer (some ⟨gn, 0, none⟩)) ∧ LI w ga gn gS (y.toNat * c.toNat) w' ∧ w1.grownBy w' (some gn) := by
  refine (imul_any gn gn t (y.toNat : Int) (c.toNat : Int) w1 h.n.hd h.n ht (by rw [Int.natAbs_natCast]; exact bw5' y.isLt) (by rw [Int.natAbs_natCast]; exact bw5' c.isLt)).mono ?_
  rintro e w' ⟨rfl, h1, h2⟩
  rw [← Int.natCast_mul] at h1
  exact ⟨rfl, h.step h1 h2, h2⟩
theorem lr_mod {w w1 : World} {ga gn gS : Nat} {y c : W64} (h : LI w ga gn gS (y.toNat * c.toNat) w1) :
    Calls Try.prog 31 #[.pointer (some ⟨gn, 0, none⟩), .pointer (some ⟨gn, 0, none⟩), .pointer (some ⟨ga, 0, none⟩)] w1 fun e w' => e = .returned (.pointer (some ⟨gn, 0, none⟩)) ∧ LI w ga gn gS (y * c).toNat w' ∧ w1.grownBy w' (some gn) := by
  refine (imod_any gn gn ga (y.toNat * c.toNat) w1 h.n.hd h.n h.a (prod5 y c)).mono ?_
  rintro e w' ⟨rfl, h1, h2⟩
  rw [mul_nat] at h1
  exact ⟨rfl, h.step h1 h2, h2⟩
/-- The variable of the loop. -/
def BX (w : World) (g : Nat) (k c : Int) : Prop := w.heap[g]? = some (.cells #[.int .u64 k, .int .u64 c] 57 (0, 0))
theorem BX.c1 {w : World} {g : Nat} {k c : Int} (h : BX w g k c) : w.cell? ⟨g, 1, none⟩ = some (.int .u64 c) := by rw [cell_of_row w g 1 _ _ (0, 0) h]; rfl
theorem BX.new (w : World) (k c : Int) : BX (w.alloc (.cells #[.int .u64 k, .int .u64 c] 57)) w.heap.size k c := heap_alloc_new _ _
theorem mul_one_w (y : W64) : y * 1 = y := BitVec.mul_one y
end Go.Proofs.Ytcfiigodefkncaa
