import Derived.Test.YtcfiigodefkncaaXs1
import Derived.ChangeKeysEq
/- mixer: two states are the same. -/
namespace Go.Proofs.Ytcfiigodefkncaa
open Go.RowKit Go.Deep

theorem cells_u64 : Try.prog.cellsOf 22 = 1 := by kernel_rfl
theorem info_u64' : ∃ i, Try.prog.info? 22 = some i := info_of_underlying Try.underlying22
theorem w64_beq (x y : W64) : ((x.toNat : Int) == (y.toNat : Int)) = decide (x = y) := by
  by_cases h : x = y
  · subst h; simp
  · rw [decide_eq_false h, beq_eq_false_iff_ne]
    intro e
    exact h (BitVec.eq_of_toNat_eq (by omega))
theorem part4_0 (a b c d : Value) (w : World) : (part 22 #[a, b, c, d] 0).run Try.prog w = .ok a w := run_part_plain w (by kernel_rfl) rfl
theorem part4_1 (a b c d : Value) (w : World) : (part 22 #[a, b, c, d] 1).run Try.prog w = .ok b w := run_part_plain w (by kernel_rfl) rfl
theorem part4_2 (a b c d : Value) (w : World) : (part 22 #[a, b, c, d] 2).run Try.prog w = .ok c w := run_part_plain w (by kernel_rfl) rfl
theorem part4_3 (a b c d : Value) (w : World) : (part 22 #[a, b, c, d] 3).run Try.prog w = .ok d w := run_part_plain w (by kernel_rfl) rfl
theorem mx_eq (m o : Mx) (w : World) : (Op.equalIn 10000 24 (.agg #[.int .u64 (m.a.toNat : Int), .int .u64 (m.b.toNat : Int), .int .u64 (m.c.toNat : Int), .int .u64 (m.d.toNat : Int)]) (.agg #[.int .u64 (o.a.toNat : Int), .int .u64 (o.b.toNat : Int), .int .u64 (o.c.toNat : Int), .int .u64 (o.d.toNat : Int)])).run Try.prog w = .ok (decide (m = o)) w := by
  obtain ⟨i, hi⟩ := info_u64'
  rw [run_equalIn_array w 9999 _ _ Try.underlying24 hi, cells_u64]
  rw [show List.range 4 = [0, 1, 2, 3] from rfl]
  simp only [Op.eqItems, Nat.mul_one]
  obtain ⟨a, b, c, d⟩ := m
  obtain ⟨p, q, r, s⟩ := o
  have E : ∀ (x y : W64) (w : World), (Op.equalIn 9999 22 (.int .u64 (x.toNat : Int)) (.int .u64 (y.toNat : Int))).run Try.prog w = .ok (decide (x = y)) w := fun x y w => by
    rw [run_equalIn_int w 9998 _ _ _ _ _ Try.underlying22, w64_beq]
  by_cases h1 : a = p
  · by_cases h2 : b = q
    · by_cases h3 : c = r
      · by_cases h4 : d = s
        · subst h1 h2 h3 h4; simp [Sem.run_bind, part4_0, part4_1, part4_2, part4_3, E]
        · simp [Sem.run_bind, part4_0, part4_1, part4_2, part4_3, E, h1, h2, h3, h4]
      · simp [Sem.run_bind, part4_0, part4_1, part4_2, part4_3, E, h1, h2, h3]
    · simp [Sem.run_bind, part4_0, part4_1, part4_2, part4_3, E, h1, h2]
  · simp [Sem.run_bind, part4_0, part4_1, part4_2, part4_3, E, h1]
end Go.Proofs.Ytcfiigodefkncaa
