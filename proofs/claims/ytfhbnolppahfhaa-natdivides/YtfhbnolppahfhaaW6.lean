/- math/bits.LeadingZeros64 and Div64. -/
import Derived.Test.YtfhbnolppahfhaaW5
import Derived.Deep.CutBlock
namespace Go.Proofs.Ytfhbnolppahfhaa
open Go.RowKit Go.Deep

theorem bitLen_64 {x : Nat} (h : x < 18446744073709551616) : Lib.bitLen x ≤ 64 := Lib.bitLen_le x 64 (Nat.le_refl _) (by simpa using h)

set_option maxHeartbeats 400000 in
theorem lead64_int (x : Int) (n : Nat) (h0 : 0 ≤ x) (h1 : x ≤ 18446744073709551615) (hn : Lib.bitLen x.toNat = n) (w : World) :
    Calls Try.prog 55 #[.int .u64 x] w fun e w' => e = .returned (.int .i64 ((64 - n : Nat) : Int)) ∧ w = w' := by
  have h64 : n ≤ 64 := by rw [← hn]; exact bitLen_64 (by omega)
  have C := Lib.hid (len64_int x h0 h1 w)
  rw [hn] at C
  clear hn
  go_enter Try.func55, Try.ntmps55
  go_wp2_with fail
  refine C.out.mono ?_
  rintro e w' ⟨rfl, rfl⟩
  go_wp2
  go_ret
  exact ⟨retI (by omega), rfl⟩

/-- One digit of the quotient: how the guess stands. -/
def QInv (U V1 yn1 yn0 q r : Int) : Prop :=
  q * yn1 + r = U ∧ 0 ≤ q ∧ q ≤ 4294967297 ∧ 0 ≤ r ∧ r < 4294967296 ∧ U * 4294967296 + V1 < (q + 1) * (yn1 * 4294967296 + yn0)
/-- The digit is right. -/
def QFin (U V1 yn1 yn0 q : Int) : Prop :=
  0 ≤ q ∧ q < 4294967296 ∧ q * (yn1 * 4294967296 + yn0) ≤ U * 4294967296 + V1 ∧ U * 4294967296 + V1 < (q + 1) * (yn1 * 4294967296 + yn0)
/-- What the divisor and the digit brought down must be. -/
def QOk (U V1 yn1 yn0 : Int) : Prop :=
  0 ≤ U ∧ U < yn1 * 4294967296 + yn0 ∧ 2147483648 ≤ yn1 ∧ yn1 < 4294967296 ∧ 0 ≤ yn0 ∧ yn0 < 4294967296 ∧ 0 ≤ V1 ∧ V1 < 4294967296

theorem q_split (q yn1 yn0 : Int) : q * (yn1 * 4294967296 + yn0) = q * yn1 * 4294967296 + q * yn0 := by rw [Int.mul_add, Int.mul_assoc]
theorem q_next (q yn1 yn0 : Int) : (q + 1) * (yn1 * 4294967296 + yn0) = q * yn1 * 4294967296 + q * yn0 + yn1 * 4294967296 + yn0 := by
  rw [Int.add_mul, q_split, Int.one_mul]; omega
theorem q_mul_nn {a b : Int} (ha : 0 ≤ a) (hb : 0 ≤ b) : 0 ≤ a * b := Int.mul_nonneg ha hb

theorem QInv.start {U V1 yn1 yn0 : Int} (h : QOk U V1 yn1 yn0) : QInv U V1 yn1 yn0 (U / yn1) (U - U / yn1 * yn1) := by
  obtain ⟨h1, h2, h3, h4, h5, h6, h7, h8⟩ := h
  have e := Int.mul_ediv_add_emod U yn1
  have e1 : U / yn1 * yn1 = yn1 * (U / yn1) := Int.mul_comm _ _
  have m1 := Int.emod_nonneg U (b := yn1) (by omega)
  have m2 := Int.emod_lt_of_pos U (b := yn1) (by omega)
  have q0 : 0 ≤ U / yn1 := Int.ediv_nonneg h1 (by omega)
  have q1 : U / yn1 ≤ 4294967297 := by
    have : U / yn1 < 4294967298 := Int.ediv_lt_of_lt_mul (by omega) (by omega)
    omega
  have n0 : 0 ≤ U / yn1 * yn0 := q_mul_nn q0 h5
  refine ⟨by omega, q0, q1, by omega, by omega, ?_⟩
  rw [q_next]
  omega
theorem QInv.pos {U V1 yn1 yn0 q r : Int} (hk : QOk U V1 yn1 yn0) (h : QInv U V1 yn1 yn0 q r) (ht : 4294967296 ≤ q ∨ 4294967296 * r + V1 < q * yn0) : 1 ≤ q ∧ U * 4294967296 + V1 < (q - 1 + 1) * (yn1 * 4294967296 + yn0) := by
  obtain ⟨h1, h2, h3, h4, h5, h6, h7, h8⟩ := hk
  obtain ⟨i1, i2, i3, i4, i5, i6⟩ := h
  have hlt : U * 4294967296 + V1 < q * (yn1 * 4294967296 + yn0) := by
    rcases ht with ht | ht
    · have : 4294967296 * (yn1 * 4294967296 + yn0) ≤ q * (yn1 * 4294967296 + yn0) := Int.mul_le_mul_of_nonneg_right ht (by omega)
      omega
    · rw [q_split]; omega
  refine ⟨?_, by rw [show q - 1 + 1 = q by omega]; exact hlt⟩
  rcases Int.lt_or_le 0 q with h | h
  · omega
  · have : q = 0 := by omega
    subst this
    simp at hlt; omega
theorem QInv.step {U V1 yn1 yn0 q r : Int} (hk : QOk U V1 yn1 yn0) (h : QInv U V1 yn1 yn0 q r) (ht : 4294967296 ≤ q ∨ 4294967296 * r + V1 < q * yn0) (hr : r + yn1 < 4294967296) : QInv U V1 yn1 yn0 (q - 1) (r + yn1) := by
  obtain ⟨p1, p2⟩ := h.pos hk ht
  obtain ⟨h1, h2, h3, h4, h5, h6, h7, h8⟩ := hk
  obtain ⟨i1, i2, i3, i4, i5, i6⟩ := h
  refine ⟨?_, by omega, by omega, by omega, hr, p2⟩
  rw [Int.sub_mul, Int.one_mul]; omega
theorem QInv.out {U V1 yn1 yn0 q r : Int} (hk : QOk U V1 yn1 yn0) (h : QInv U V1 yn1 yn0 q r) (ht : 4294967296 ≤ q ∨ 4294967296 * r + V1 < q * yn0) (hr : 4294967296 ≤ r + yn1) : QFin U V1 yn1 yn0 (q - 1) := by
  obtain ⟨p1, p2⟩ := h.pos hk ht
  obtain ⟨h1, h2, h3, h4, h5, h6, h7, h8⟩ := hk
  obtain ⟨i1, i2, i3, i4, i5, i6⟩ := h
  have e : (q - 1) * yn1 = q * yn1 - yn1 := by rw [Int.sub_mul, Int.one_mul]
  have b : (q - 1) * yn0 ≤ 4294967296 * yn0 := Int.mul_le_mul_of_nonneg_right (by omega) h5
  have hle : (q - 1) * (yn1 * 4294967296 + yn0) ≤ U * 4294967296 + V1 := by rw [q_split]; omega
  refine ⟨by omega, ?_, hle, p2⟩
  rcases Int.lt_or_le (q - 1) 4294967296 with h | h
  · exact h
  · have : 4294967296 * (yn1 * 4294967296 + yn0) ≤ (q - 1) * (yn1 * 4294967296 + yn0) := Int.mul_le_mul_of_nonneg_right h (by omega)
    omega
theorem QInv.stop {U V1 yn1 yn0 q r : Int} (h : QInv U V1 yn1 yn0 q r) (h1 : q < 4294967296) (h2 : q * yn0 ≤ 4294967296 * r + V1) : QFin U V1 yn1 yn0 q := by
  obtain ⟨i1, i2, i3, i4, i5, i6⟩ := h
  refine ⟨i2, h1, ?_, i6⟩
  rw [q_split]; omega

theorem wrapU {x : Int} (h0 : 0 ≤ x) (h1 : x ≤ 18446744073709551615) : IntKind.u64.wrap x = x := by rw [IntKind.wrap_u64]; omega
theorem QInv.start' {U V1 yn1 yn0 : Int} (h : QOk U V1 yn1 yn0) : QInv U V1 yn1 yn0 (U / yn1) (IntKind.u64.wrap (U - IntKind.u64.wrap (U / yn1 * yn1))) := by
  have hs := QInv.start h
  obtain ⟨h1, h2, h3, h4, h5, h6, h7, h8⟩ := h
  obtain ⟨i1, i2, i3, i4, i5, i6⟩ := hs
  have e : IntKind.u64.wrap (U / yn1 * yn1) = U / yn1 * yn1 := wrapU (q_mul_nn i2 (by omega)) (by omega)
  rw [e, wrapU (by omega) (by omega)]
  exact ⟨i1, i2, i3, i4, i5, i6⟩

theorem wrapQ {q yn0 : Int} (h0 : 0 ≤ q) (h1 : q < 4294967296) (h2 : 0 ≤ yn0) (h3 : yn0 < 4294967296) : IntKind.u64.wrap (q * yn0) = q * yn0 :=
  wrapU (q_mul_nn h0 h2) (by
    have : q * yn0 ≤ 4294967295 * 4294967295 := Int.mul_le_mul (by omega) (by omega) h2 (by omega)
    omega)
/-- What is left behind a right digit. -/
theorem QFin.left {U V1 yn1 yn0 q : Int} (_hk : QOk U V1 yn1 yn0) (h : QFin U V1 yn1 yn0 q) :
    0 ≤ U * 4294967296 + V1 - q * (yn1 * 4294967296 + yn0) ∧ U * 4294967296 + V1 - q * (yn1 * 4294967296 + yn0) < yn1 * 4294967296 + yn0 := by
  obtain ⟨i1, i2, i3, i4⟩ := h
  rw [Int.add_mul, Int.one_mul] at i4
  omega
theorem wrap_left {U V1 yn1 yn0 q : Int} (hk : QOk U V1 yn1 yn0) (h : QFin U V1 yn1 yn0 q) :
    IntKind.u64.wrap (IntKind.u64.wrap (IntKind.u64.wrap (U * 4294967296) + V1) - IntKind.u64.wrap (q * (yn1 * 4294967296 + yn0))) = U * 4294967296 + V1 - q * (yn1 * 4294967296 + yn0) := by
  have hl := h.left hk
  obtain ⟨h1, h2, h3, h4, h5, h6, h7, h8⟩ := hk
  simp only [IntKind.wrap_u64]
  omega
theorem QOk.next {U V1 V0 yn1 yn0 q : Int} (hk : QOk U V1 yn1 yn0) (h : QFin U V1 yn1 yn0 q) (h0 : 0 ≤ V0) (h1 : V0 < 4294967296) : QOk (U * 4294967296 + V1 - q * (yn1 * 4294967296 + yn0)) V0 yn1 yn0 := by
  have hl := h.left hk
  obtain ⟨a1, a2, a3, a4, a5, a6, a7, a8⟩ := hk
  exact ⟨hl.1, hl.2, a3, a4, a5, a6, h0, h1⟩

set_option maxRecDepth 100000 in
set_option maxHeartbeats 1000000 in
theorem div64_main (hi lo y yy un32 un10 yn1 yn0 un1 un0 : Int) (s : Nat) (w : World) (h1 : 0 < hi) (h2 : hi < y) (_h3 : y ≤ 18446744073709551615) (_h4 : 0 ≤ lo) (_h5 : lo ≤ 18446744073709551615) (hs : s ≤ 63)
    (C : Hid (Calls Try.prog 55 #[.int .u64 y] w fun e w' => e = .returned (.int .i64 (s : Int)) ∧ w = w'))
    (E1 : Hid (IntKind.u64.wrap (y * 2 ^ s) = yy)) (E2 : Hid (bits BinOp.or IntKind.u64 (IntKind.u64.wrap (hi * 2 ^ s)) (lo / 2 ^ (64 - s)) = un32)) (E3 : Hid (IntKind.u64.wrap (lo * 2 ^ s) = un10))
    (E4 : Hid (bits BinOp.and IntKind.u64 yy 4294967295 = yn0)) (E5 : Hid (yy / 4294967296 = yn1)) (E6 : Hid (bits BinOp.and IntKind.u64 un10 4294967295 = un0)) (E7 : Hid (un10 / 4294967296 = un1))
    (K1 : QOk un32 un1 yn1 yn0) (hyy : yy = yn1 * 4294967296 + yn0) (hu0 : 0 ≤ un0 ∧ un0 < 4294967296) :
    Calls Try.prog 44 #[.int .u64 hi, .int .u64 lo, .int .u64 y] w fun e w' => ∃ q1 q0 un21 : Int, e = .returned (.tuple #[.int .u64 (q1 * 4294967296 + q0), .int .u64 ((un21 * 4294967296 + un0 - q0 * yy) / 2 ^ s)]) ∧
      QFin un32 un1 yn1 yn0 q1 ∧ un21 = un32 * 4294967296 + un1 - q1 * yy ∧ QFin un21 un0 yn1 yn0 q0 ∧ w = w' := by
  have hy0 : (y == 0) = false := by rw [beq_eq_false_iff_ne]; omega
  have hh0 : (hi == 0) = false := by rw [beq_eq_false_iff_ne]; omega
  go_enter Try.func44, Try.ntmps44
  go_wp2_with fail
  refine C.out.mono ?_
  rintro e w' ⟨rfl, rfl⟩
  go_upto_region 15 with (fail)
  rw [E1.out, E2.out, E3.out, E4.out, E5.out, E6.out, E7.out]
  obtain ⟨b1, b2, b3, b4, b5, b6, b7, b8⟩ := K1
  obtain ⟨b9, b10⟩ := hu0
  have HY := Lib.hid hyy
  clear hyy C E1 E2 E3 E4 E5 E6 E7 hy0 hh0
  go_upto_block 0 with (fail)
  go_cut [15] (fun s15 wx => ∃ q : Int, s15 = .int .u64 q ∧ QFin un32 un1 yn1 yn0 q ∧ w = wx)
  case first =>
    go_wp2
    go_loop [15, 16] (fun t u => ∃ q r : Int, t = .int .u64 q ∧ u = .int .u64 r ∧ QInv un32 un1 yn1 yn0 q r) (fun t _ => (intOf t).toNat)
    case atStart => exact ⟨_, _, rfl, rfl, QInv.start' ⟨b1, b2, b3, b4, b5, b6, b7, b8⟩⟩
    case round =>
      obtain ⟨q, r, rfl, rfl, hQ⟩ := hrel
      have HQ := Lib.hid hQ
      obtain ⟨_, i2, i3, i4, i5, _⟩ := hQ
      have hK : QOk un32 un1 yn1 yn0 := ⟨b1, b2, b3, b4, b5, b6, b7, b8⟩
      have HK := Lib.hid hK
      clear hK
      by_cases hq : 4294967296 ≤ q
      · by_cases hr : r + yn1 < 4294967296
        · go_wp2
          go_round
          case rel => exact ⟨_, _, rfl, rfl, HQ.out.step HK.out (.inl hq) hr⟩
          case measure => simp [intOf]; omega
        · go_wp2
          go_meet
          case rel => exact ⟨_, rfl, HQ.out.out HK.out (.inl hq) (by omega), rfl⟩
      · have hwm := wrapQ i2 (by omega) b5 b6
        by_cases ht : 4294967296 * r + un1 < q * yn0
        · have hp := (HQ.out.pos HK.out (.inr ht)).1
          by_cases hr : r + yn1 < 4294967296
          · go_wp2
            go_round
            case rel => exact ⟨_, _, rfl, rfl, HQ.out.step HK.out (.inr ht) hr⟩
            case measure => simp [intOf]; omega
          · go_wp2
            go_meet
            case rel => exact ⟨_, rfl, HQ.out.out HK.out (.inr ht) (by omega), rfl⟩
        · go_wp2
          go_meet
          case rel => exact ⟨_, rfl, HQ.out.stop (by omega) (by omega), rfl⟩
  case rest =>
    obtain ⟨q1, rfl, hF, rfl⟩ := hcut
    have HF := Lib.hid hF
    obtain ⟨j1, j2, _, _⟩ := hF
    have hK : QOk un32 un1 yn1 yn0 := ⟨b1, b2, b3, b4, b5, b6, b7, b8⟩
    have HK := Lib.hid hK
    clear hK
    go_upto_region 21 with (fail)
    go_cut [17] (fun s17 wx => s17 = .int .u64 (un32 * 4294967296 + un1 - q1 * yy) ∧ w = wx)
    case first =>
      go_wp2
      go_meet
      case rel => exact ⟨by rw [HY.out, wrap_left HK.out HF.out], rfl⟩
    case rest =>
      obtain ⟨rfl, rfl⟩ := hcut
      have HK2 : Hid (QOk (un32 * 4294967296 + un1 - q1 * yy) un0 yn1 yn0) := by
        have := HK.out.next HF.out b9 b10
        rw [← HY.out] at this
        exact this
      obtain ⟨un21, hun⟩ : ∃ un21, un21 = un32 * 4294967296 + un1 - q1 * yy := ⟨_, rfl⟩
      rw [← hun] at HK2 ⊢
      have HU := Lib.hid hun
      clear hun
      obtain ⟨c1, c2, _, _, _, _, _, _⟩ := HK2.out
      go_upto_block 2 with (fail)
      go_cut [18] (fun s18 wx => ∃ q : Int, s18 = .int .u64 q ∧ QFin un21 un0 yn1 yn0 q ∧ w = wx)
      case first =>
        go_wp2
        go_loop [18, 16] (fun t u => ∃ q r : Int, t = .int .u64 q ∧ u = .int .u64 r ∧ QInv un21 un0 yn1 yn0 q r) (fun t _ => (intOf t).toNat)
        case atStart => exact ⟨_, _, rfl, rfl, QInv.start' HK2.out⟩
        case round =>
          obtain ⟨q, r, rfl, rfl, hQ⟩ := hrel
          have HQ := Lib.hid hQ
          obtain ⟨_, i2, i3, i4, i5, _⟩ := hQ
          by_cases hq : 4294967296 ≤ q
          · by_cases hr : r + yn1 < 4294967296
            · go_wp2
              go_round
              case rel => exact ⟨_, _, rfl, rfl, HQ.out.step HK2.out (.inl hq) hr⟩
              case measure => simp [intOf]; omega
            · go_wp2
              go_meet
              case rel => exact ⟨_, rfl, HQ.out.out HK2.out (.inl hq) (by omega), rfl⟩
          · have hwm := wrapQ i2 (by omega) b5 b6
            by_cases ht : 4294967296 * r + un0 < q * yn0
            · have hp := (HQ.out.pos HK2.out (.inr ht)).1
              by_cases hr : r + yn1 < 4294967296
              · go_wp2
                go_round
                case rel => exact ⟨_, _, rfl, rfl, HQ.out.step HK2.out (.inr ht) hr⟩
                case measure => simp [intOf]; omega
              · go_wp2
                go_meet
                case rel => exact ⟨_, rfl, HQ.out.out HK2.out (.inr ht) (by omega), rfl⟩
            · go_wp2
              go_meet
              case rel => exact ⟨_, rfl, HQ.out.stop (by omega) (by omega), rfl⟩
      case rest =>
        obtain ⟨q0, rfl, hF0, rfl⟩ := hcut
        have HF0 := Lib.hid hF0
        obtain ⟨j3, j4, _, _⟩ := hF0
        have W2 : Hid (IntKind.u64.wrap (IntKind.u64.wrap (IntKind.u64.wrap (un21 * 4294967296) + un0) - IntKind.u64.wrap (q0 * yy)) = un21 * 4294967296 + un0 - q0 * yy) := by
          have := wrap_left HK2.out HF0.out
          rw [← HY.out] at this
          exact this
        go_wp2
        go_ret2
        refine ⟨q1, q0, un21, ?_, HF.out, HU.out, HF0.out, rfl⟩
        rw [← W2.out]
        rfl

theorem shl_split (hi lo s : Nat) (hs : s ≤ 63) (hl : lo < 18446744073709551616) :
    (hi * 2 ^ s ||| lo / 2 ^ (64 - s)) * 18446744073709551616 + lo * 2 ^ s % 18446744073709551616 = (hi * 18446744073709551616 + lo) * 2 ^ s ∧ lo / 2 ^ (64 - s) < 2 ^ s ∧ (hi * 2 ^ s ||| lo / 2 ^ (64 - s)) = hi * 2 ^ s + lo / 2 ^ (64 - s) := by
  have hp : 0 < 2 ^ s := Nat.two_pow_pos s
  have hB : 2 ^ (64 - s) * 2 ^ s = 18446744073709551616 := by rw [← Nat.pow_add, show 64 - s + s = 64 by omega]
  have hlt : lo / 2 ^ (64 - s) < 2 ^ s := Nat.div_lt_of_lt_mul (by rw [hB]; exact hl)
  have hor : (hi * 2 ^ s ||| lo / 2 ^ (64 - s)) = hi * 2 ^ s + lo / 2 ^ (64 - s) := by
    rw [Nat.mul_comm hi, Nat.two_pow_add_eq_or_of_lt hlt]
  refine ⟨?_, hlt, hor⟩
  have e1 : lo * 2 ^ s / 18446744073709551616 = lo / 2 ^ (64 - s) := by
    rw [← hB, Nat.mul_comm (2 ^ (64 - s)), Nat.mul_comm lo, Nat.mul_div_mul_left _ _ hp]
  have e2 := Nat.div_add_mod (lo * 2 ^ s) 18446744073709551616
  rw [e1] at e2
  rw [hor, Nat.add_mul, Nat.add_mul]
  have e3 : hi * 18446744073709551616 * 2 ^ s = hi * 2 ^ s * 18446744073709551616 := Nat.mul_right_comm _ _ _
  omega

/-- The two digits make the quotient, and what is left, moved back, the remainder. -/
theorem div_join {N y p q1 q0 un32 un21 un1 un0 yn1 yn0 : Int} (hy : 0 < y) (hp : 0 < p) (hN : (un32 * 4294967296 + un1) * 4294967296 + un0 = N * p) (hyy : y * p = yn1 * 4294967296 + yn0)
    (h1 : un21 = un32 * 4294967296 + un1 - q1 * (y * p)) (h2 : QFin un21 un0 yn1 yn0 q0) : q1 * 4294967296 + q0 = N / y ∧ (un21 * 4294967296 + un0 - q0 * (y * p)) / p = N % y := by
  obtain ⟨_, _, g3, g4⟩ := h2
  rw [← hyy] at g3 g4
  rw [Int.add_mul, Int.one_mul] at g4
  have hR : un21 * 4294967296 + un0 - q0 * (y * p) = (N - (q1 * 4294967296 + q0) * y) * p := by
    have e1 : (N - (q1 * 4294967296 + q0) * y) * p = N * p - (q1 * (y * p) * 4294967296 + q0 * (y * p)) := by
      rw [Int.sub_mul, Int.add_mul, Int.add_mul, Int.mul_assoc q0 y p]
      have : q1 * 4294967296 * y * p = q1 * (y * p) * 4294967296 := by
        rw [Int.mul_right_comm q1, Int.mul_right_comm (q1 * y), Int.mul_assoc q1 y p]
      rw [this]
    rw [e1, ← hN, h1]
    rw [Int.sub_mul]
    omega
  have hr0 : 0 ≤ (N - (q1 * 4294967296 + q0) * y) * p := by rw [← hR]; omega
  have hr1 : (N - (q1 * 4294967296 + q0) * y) * p < y * p := by rw [← hR]; omega
  have k0 : 0 ≤ N - (q1 * 4294967296 + q0) * y := by
    rcases Int.lt_or_le (N - (q1 * 4294967296 + q0) * y) 0 with h | h
    · have := Int.mul_neg_of_neg_of_pos h hp; omega
    · exact h
  have k1 : N - (q1 * 4294967296 + q0) * y < y := Int.lt_of_mul_lt_mul_right hr1 (Int.le_of_lt hp)
  rw [hR, Int.mul_ediv_cancel _ (by omega)]
  have hq : N / y = q1 * 4294967296 + q0 := by
    have : N = (N - (q1 * 4294967296 + q0) * y) + (q1 * 4294967296 + q0) * y := by omega
    rw [this, Int.add_mul_ediv_right _ _ (by omega), Int.ediv_eq_zero_of_lt k0 k1]
    omega
  refine ⟨hq.symm, ?_⟩
  have := Int.mul_ediv_add_emod N y
  rw [hq, Int.mul_comm y] at this
  omega
end Go.Proofs.Ytfhbnolppahfhaa
