/- One digit of a long division: what is taken away. -/
import Derived.Test.YtfhbnolppahfhaaDc
namespace Go.Proofs.Ytfhbnolppahfhaa
open Go.RowKit Go.Deep

/-- The numbers that come by in taking away q times the divisor. -/
structure Sub3 (x0 x1 x2 a0 a1 qn : Nat) (c0 c1 e0 p0 S1 p1 e1 W0 W1 t0 t1 : Int) (d0 d1 : Nat) : Prop where
  hq : qn < 4294967296
  h1 : IntKind.u64.wrap ((qn : Int) * (a0 : Int)) = c0
  h2 : IntKind.u64.wrap ((qn : Int) * (a1 : Int)) = c1
  h3 : c0 % 4294967296 = p0
  h4 : c0 / 4294967296 = e0
  h5 : e0 + c1 = S1
  h6 : S1 % 4294967296 = p1
  h7 : S1 / 4294967296 = e1
  h8 : IntKind.u64.wrap (IntKind.u64.wrap ((x0 : Int) - p0)) = W0
  h9 : W0 % 4294967296 = (d0 : Int)
  h10 : W0 / 9223372036854775808 = t0
  h11 : IntKind.u64.wrap (IntKind.u64.wrap ((x1 : Int) - p1) - t0) = W1
  h12 : W1 % 4294967296 = (d1 : Int)
  h13 : W1 / 9223372036854775808 = t1
  h14 : IntKind.u64.wrap (IntKind.u64.wrap ((x2 : Int) - e1) - t1) = 0
  h15 : 0 ≤ S1 ∧ S1 ≤ 18446744073709551615
  h16 : 0 ≤ c0 ∧ c0 ≤ 18446744073709551615
  h17 : d0 < 4294967296 ∧ d1 < 4294967296
  h18 : d0 + 4294967296 * d1 < a0 + 4294967296 * a1
  h19 : qn * (a0 + 4294967296 * a1) + (d0 + 4294967296 * d1) = x0 + 4294967296 * (x1 + 4294967296 * x2)

theorem sub3 {x0 x1 x2 a0 a1 T : Nat} {q : Int} (hT : T = x2 * 4294967296 + x1) (hK : QOk (T : Int) (x0 : Int) (a1 : Int) (a0 : Int)) (hF : QFin (T : Int) (x0 : Int) (a1 : Int) (a0 : Int) q) (b0 : x0 < 4294967296) (b1 : x1 < 4294967296) (b2 : x2 < 4294967296) :
    ∃ qn : Nat, q = (qn : Int) ∧ ∃ c0 c1 e0 p0 S1 p1 e1 W0 W1 t0 t1 d0 d1, Sub3 x0 x1 x2 a0 a1 qn c0 c1 e0 p0 S1 p1 e1 W0 W1 t0 t1 d0 d1 := by
  obtain ⟨qn, rfl⟩ := Int.eq_ofNat_of_zero_le hF.1
  refine ⟨qn, rfl, ?_⟩
  have hl := hF.left hK
  obtain ⟨k1, k2, k3, k4, k5, k6, k7, k8⟩ := hK
  obtain ⟨f1, f2, _, _⟩ := hF
  rw [q_split] at hl
  have m0 : (qn : Int) * (a0 : Int) ≤ 4294967295 * 4294967295 := Int.mul_le_mul (by omega) (by omega) (by omega) (by omega)
  have m1 : (qn : Int) * (a1 : Int) ≤ 4294967295 * 4294967295 := Int.mul_le_mul (by omega) (by omega) (by omega) (by omega)
  have n0 : 0 ≤ (qn : Int) * (a0 : Int) := q_mul_nn f1 k5
  have n1 : 0 ≤ (qn : Int) * (a1 : Int) := q_mul_nn f1 (by omega)
  have w0 := wrapU n0 (by omega)
  have w1 := wrapU n1 (by omega)
  have hq19 : ((qn * (a0 + 4294967296 * a1) : Nat) : Int) = (qn : Int) * (a0 : Int) + 4294967296 * ((qn : Int) * (a1 : Int)) := by
    simp only [Int.natCast_mul, Int.natCast_add, Int.mul_add, Int.cast_ofNat_Int]
    rw [Int.mul_left_comm]
  obtain ⟨C0, g0⟩ : ∃ C0, C0 = (qn : Int) * (a0 : Int) := ⟨_, rfl⟩
  obtain ⟨C1, g1⟩ : ∃ C1, C1 = (qn : Int) * (a1 : Int) := ⟨_, rfl⟩
  rw [← g0] at hl m0 n0 w0 hq19
  rw [← g1] at hl m1 n1 w1 hq19
  have hb0 : 0 ≤ C0 % 4294967296 ∧ C0 % 4294967296 < 4294967296 := by omega
  obtain ⟨D0, t0, r1, r2, r3, r4, r5, r6, r7⟩ := sub_digit (u := (x0 : Int)) (p := C0 % 4294967296) (b := 0) (by omega) (by omega) hb0.1 hb0.2 (by omega) (by omega)
  obtain ⟨D1, t1, s1, s2, s3, s4, s5, s6, s7⟩ := sub_digit (u := (x1 : Int)) (p := (C0 / 4294967296 + C1) % 4294967296) (b := t0) (by omega) (by omega) (by omega) (by omega) r5 r6
  rw [Int.sub_zero] at r1 r2
  have z : (x2 : Int) - (C0 / 4294967296 + C1) / 4294967296 - t1 = 0 := by omega
  have e14 : IntKind.u64.wrap (IntKind.u64.wrap ((x2 : Int) - (C0 / 4294967296 + C1) / 4294967296) - t1) = 0 := by
    have : IntKind.u64.wrap ((x2 : Int) - (C0 / 4294967296 + C1) / 4294967296) = (x2 : Int) - (C0 / 4294967296 + C1) / 4294967296 := wrapU (by omega) (by omega)
    rw [this, z]; rfl
  refine ⟨C0, C1, C0 / 4294967296, C0 % 4294967296, C0 / 4294967296 + C1, (C0 / 4294967296 + C1) % 4294967296, (C0 / 4294967296 + C1) / 4294967296, _, _, t0, t1, D0.toNat, D1.toNat,
    ⟨by omega, by rw [← g0]; exact w0, by rw [← g1]; exact w1, rfl, rfl, rfl, rfl, rfl, rfl, ?_, r2, rfl, ?_, s2, e14, ⟨by omega, by omega⟩, ⟨by omega, by omega⟩, ⟨by omega, by omega⟩, by omega, by omega⟩⟩
  · rw [r1]; omega
  · rw [s1]; omega
end Go.Proofs.Ytfhbnolppahfhaa
