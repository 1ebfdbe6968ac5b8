/- math/bits.Div64, whole, and nat.Div. -/
import Derived.Test.YtfhbnolppahfhaaW6
namespace Go.Proofs.Ytfhbnolppahfhaa
open Go.RowKit Go.Deep

/-- The quotient's word and the remainder of one step of a long division. -/
def quW (r x y : Nat) : Nat := (r * Bw + x) / y
def reW (r x y : Nat) : Nat := (r * Bw + x) % y

theorem retT2 {a b c d : Int} {k l : IntKind} (h : a = b) (h' : c = d) : Ending.returned (.tuple #[.int k a, .int l c]) = .returned (.tuple #[.int k b, .int l d]) := by rw [h, h']

theorem div64_high (hi lo y : Nat) (w : World) (h0 : 0 < hi) (h1 : hi < y) (h2 : y < 18446744073709551616) (h3 : lo < 18446744073709551616) :
    Calls Try.prog 44 #[.int .u64 (hi : Int), .int .u64 (lo : Int), .int .u64 (y : Int)] w fun e w' => e = .returned (.tuple #[.int .u64 (quW hi lo y : Int), .int .u64 (reW hi lo y : Int)]) ∧ w = w' := by
  obtain ⟨b1, b2⟩ := bl_pow 64 y (by omega)
  have hb64 : Lib.bitLen y ≤ 64 := bitLen_64 h2
  have hb0 : 0 < Lib.bitLen y := by
    rcases Nat.eq_zero_or_pos (Lib.bitLen y) with h | h
    · have : Lib.bitLenAux 64 y = 0 := h
      rw [this] at b1; simp at b1; omega
    · exact h
  have b2' := b2 (by omega)
  change y < 2 ^ Lib.bitLen y at b1
  change 2 ^ Lib.bitLen y ≤ 2 * y at b2'
  obtain ⟨s, hs⟩ : ∃ s, s = 64 - Lib.bitLen y := ⟨_, rfl⟩
  have hp : 0 < 2 ^ s := Nat.two_pow_pos s
  have hB : 2 ^ Lib.bitLen y * 2 ^ s = 18446744073709551616 := by rw [← Nat.pow_add, show Lib.bitLen y + s = 64 by omega]
  have y1 : y * 2 ^ s < 18446744073709551616 := by rw [← hB]; exact Nat.mul_lt_mul_of_pos_right b1 hp
  have y2 : 18446744073709551616 ≤ 2 * (y * 2 ^ s) := by rw [← hB, ← Nat.mul_assoc]; exact Nat.mul_le_mul_right _ b2'
  obtain ⟨s1, s2, s3⟩ := shl_split hi lo s (by omega) h3
  have hiy : hi * 2 ^ s + 2 ^ s ≤ y * 2 ^ s := by
    have := Nat.mul_le_mul_right (2 ^ s) h1
    rw [Nat.succ_mul] at this; exact this
  obtain ⟨yy, hyy⟩ : ∃ yy : Nat, yy = y * 2 ^ s := ⟨_, rfl⟩
  obtain ⟨u, hu⟩ : ∃ u : Nat, u = (hi * 2 ^ s ||| lo / 2 ^ (64 - s)) := ⟨_, rfl⟩
  obtain ⟨v, hv⟩ : ∃ v : Nat, v = lo * 2 ^ s % 18446744073709551616 := ⟨_, rfl⟩
  have hul : u < yy := by rw [hu, hyy, s3]; omega
  have hvl : v < 18446744073709551616 := by rw [hv]; exact Nat.mod_lt _ (by omega)
  have c2 : ((2 : Int) ^ s) = ((2 ^ s : Nat) : Int) := by simp
  have E1 : IntKind.u64.wrap ((y : Int) * 2 ^ s) = (yy : Int) := by rw [c2, castM, ← hyy]; exact noWrap _ (by rw [hyy]; exact y1)
  have E3 : IntKind.u64.wrap ((lo : Int) * 2 ^ s) = (v : Int) := by rw [c2, castM, doWrap, ← hv]
  have E2 : bits BinOp.or IntKind.u64 (IntKind.u64.wrap ((hi : Int) * 2 ^ s)) ((lo : Int) / 2 ^ (64 - s)) = (u : Int) := by
    have c3 : ((2 : Int) ^ (64 - s)) = ((2 ^ (64 - s) : Nat) : Int) := by simp
    rw [c2, castM, noWrap _ (by omega), c3, ← Int.natCast_ediv, bits_or_u64_nat _ _ (by omega) (by omega), ← hu]
  have E4 := and32 yy (by omega)
  have E6 := and32 v hvl
  have E5 := shr32 yy
  have E7 := shr32 v
  have dy := Nat.div_add_mod yy 4294967296
  have dv := Nat.div_add_mod v 4294967296
  have my := Nat.mod_lt yy (y := 4294967296) (by omega)
  have mv := Nat.mod_lt v (y := 4294967296) (by omega)
  have K : QOk (u : Int) ((v / 4294967296 : Nat) : Int) ((yy / 4294967296 : Nat) : Int) ((yy % 4294967296 : Nat) : Int) := by
    refine ⟨by omega, by omega, by omega, by omega, by omega, by omega, by omega, by omega⟩
  have C := lead64_int (y : Int) (Lib.bitLen y) (by omega) (by omega) rfl w
  rw [← hs] at C
  refine (div64_main (hi : Int) (lo : Int) (y : Int) (yy : Int) (u : Int) (v : Int) _ _ _ _ s w (by omega) (by omega) (by omega) (by omega) (by omega) (by omega) C E1 E2 E3 E4 E5 E6 E7 K (by omega) ⟨by omega, by omega⟩).mono ?_
  rintro e w' ⟨q1, q0, un21, rfl, f1, f2, f3, rfl⟩
  have hN : ((u : Int) * 4294967296 + ((v / 4294967296 : Nat) : Int)) * 4294967296 + ((v % 4294967296 : Nat) : Int) = ((hi * 18446744073709551616 + lo : Nat) : Int) * ((2 ^ s : Nat) : Int) := by
    rw [castM, ← s1, ← hu, ← hv]; omega
  have hyp : (y : Int) * ((2 ^ s : Nat) : Int) = (yy : Int) := by rw [castM, ← hyy]
  have J := div_join (N := ((hi * 18446744073709551616 + lo : Nat) : Int)) (y := (y : Int)) (p := ((2 ^ s : Nat) : Int)) (q1 := q1) (q0 := q0) (un32 := (u : Int)) (un21 := un21) (un1 := ((v / 4294967296 : Nat) : Int))
    (un0 := ((v % 4294967296 : Nat) : Int)) (yn1 := ((yy / 4294967296 : Nat) : Int)) (yn0 := ((yy % 4294967296 : Nat) : Int)) (by omega) (by omega) hN (by rw [hyp]; omega) (by rw [hyp]; exact f2) f3
  rw [hyp] at J
  refine ⟨retT2 ?_ ?_, rfl⟩
  · rw [J.1]; unfold quW Bw; exact (Int.natCast_ediv _ _).symm
  · rw [c2, J.2]; unfold reW Bw; exact (Int.natCast_emod _ _).symm
end Go.Proofs.Ytfhbnolppahfhaa
