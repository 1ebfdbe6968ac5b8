/- lfsr: how many bits are set; math/bits.OnesCount32 and fed. -/
import Derived.Test.YtcadpgpenjpdiaaXl0
import Derived.Deep.QuietTactic
import Derived.BigQuiet
import Derived.WalkSmall
import Derived.Lib.BitFns
import Derived.Laws.BitsLemmas
namespace Go.Proofs.Ytcadpgpenjpdiaa
open Go.RowKit

/-- How many of the first k bits are set. -/
def pcn (x : Nat) : Nat → Nat
  | 0 => 0
  | k + 1 => pcn x k + (x.testBit k).toNat
theorem pcn_le (x : Nat) : ∀ k, pcn x k ≤ k
  | 0 => Nat.le_refl _
  | k + 1 => by have := pcn_le x k; have := Bool.toNat_le (x.testBit k); unfold pcn; omega
theorem pcn_byte : ∀ b : Fin 256, Lib.pop8 ((b.val : Nat) : Int) = (pcn b.val 8 : Int) := by decide +kernel
theorem pcn_parts (x : Nat) : pcn x 32 = pcn (x / 2 ^ 24 % 256) 8 + pcn (x / 2 ^ 16 % 256) 8 + pcn (x / 2 ^ 8 % 256) 8 + pcn (x % 256) 8 := by
  have h : ∀ (y : Nat) (i : Nat), i < 8 → (y % 256).testBit i = y.testBit i := fun y i hi => by
    rw [show (256 : Nat) = 2 ^ 8 from rfl, Nat.testBit_mod_two_pow, decide_eq_true hi, Bool.true_and]
  have g : ∀ y : Nat, pcn (y % 256) 8 = pcn y 8 := fun y => by
    simp only [pcn, h y 0 (by decide), h y 1 (by decide), h y 2 (by decide), h y 3 (by decide), h y 4 (by decide), h y 5 (by decide), h y 6 (by decide), h y 7 (by decide)]
  rw [g, g, g, g]
  simp only [pcn, Nat.testBit_div_two_pow, Nat.reduceAdd]
  omega
theorem par_one (p a b : Bool) (c : Nat) (h : c % 2 = p.toNat) : (c + (a && b).toNat) % 2 = (p ^^ (b && a)).toNat := by
  cases p <;> cases a <;> cases b <;> simp only [Bool.toNat_false, Bool.toNat_true, Bool.and_true, Bool.and_false, Bool.and_self, Bool.xor_false, Bool.xor_true, Bool.not_true, Bool.not_false] at h ⊢ <;> omega
theorem pcn_par (t x : Nat) : ∀ k, pcn (t &&& x) k % 2 = (par t x k).toNat
  | 0 => rfl
  | k + 1 => by
    have ih := pcn_par t x k
    unfold pcn par
    rw [Nat.testBit_and]
    exact par_one _ _ _ _ ih
theorem par_more {t n : Nat} (x : Nat) (ht : t < 2 ^ n) : ∀ k, par t x (n + k) = par t x n
  | 0 => rfl
  | k + 1 => by
    show (par t x (n + k) ^^ (x.testBit (n + k) && t.testBit (n + k))) = _
    rw [par_more x ht k, Nat.testBit_lt_two_pow (Nat.lt_of_lt_of_le ht (Nat.pow_le_pow_right (by decide) (by omega)))]
    simp

set_option maxRecDepth 100000 in
/-- The table of how many bits of a byte are set, as the translation writes it. -/
theorem ptab_eq : (⟨(([0, 1, 1, 2, 1, 2, 2, 3, 1, 2, 2, 3, 2, 3, 3, 4, 1, 2, 2, 3, 2, 3, 3, 4, 2, 3, 3, 4, 3, 4, 4, 5, 1, 2, 2, 3, 2, 3, 3, 4, 2, 3, 3, 4, 3, 4, 4, 5, 2, 3, 3, 4, 3, 4, 4, 5, 3, 4, 4, 5, 4, 5, 5, 6].append [1, 2, 2, 3, 2, 3, 3, 4, 2, 3, 3, 4, 3, 4, 4, 5, 2, 3, 3, 4, 3, 4, 4, 5, 3, 4, 4, 5, 4, 5, 5, 6, 2, 3, 3, 4, 3, 4, 4, 5, 3, 4, 4, 5, 4, 5, 5, 6, 3, 4, 4, 5, 4, 5, 5, 6, 4, 5, 5, 6, 5, 6, 6, 7]).append ([1, 2, 2, 3, 2, 3, 3, 4, 2, 3, 3, 4, 3, 4, 4, 5, 2, 3, 3, 4, 3, 4, 4, 5, 3, 4, 4, 5, 4, 5, 5, 6, 2, 3, 3, 4, 3, 4, 4, 5, 3, 4, 4, 5, 4, 5, 5, 6, 3, 4, 4, 5, 4, 5, 5, 6, 4, 5, 5, 6, 5, 6, 6, 7].append [2, 3, 3, 4, 3, 4, 4, 5, 3, 4, 4, 5, 4, 5, 5, 6, 3, 4, 4, 5, 4, 5, 5, 6, 4, 5, 5, 6, 5, 6, 6, 7, 3, 4, 4, 5, 4, 5, 5, 6, 4, 5, 5, 6, 5, 6, 6, 7, 4, 5, 5, 6, 5, 6, 6, 7, 5, 6, 6, 7, 6, 7, 7, 8])).toArray⟩ : ByteArray) = Lib.pop8tab := by rfl
theorem ptab_at (i : Int) (b : Nat) (hb : b < 256) (hi : i = b) : ∀ w, (Instr.index 9 (.string Lib.pop8tab) (.int .u32 i)).run Try.prog w = .ok (.int .u8 (pcn b 8 : Int)) w := by
  intro w
  subst hi
  rw [Lib.run_index_pop8tab w 9 .u32 b Try.underlying9 (by omega) (by omega)]
  have := pcn_byte ⟨b, hb⟩
  simp only at this
  rw [this]
theorem and255 (a : Int) (b : Nat) (ha : a = b) (hb : b < 4294967296) : bits .and .u32 a 255 = ((b % 256 : Nat) : Int) := by
  subst ha
  have := (bits_nat .u32 32 (by decide) (fun n h0 h1 => by rw [IntKind.wrap_u32]; omega) b 255 (by omega) (by decide)).1
  refine this.trans ?_
  rw [show (255 : Nat) = 2 ^ 8 - 1 from rfl, Nat.and_two_pow_sub_one_eq_mod]

set_option maxRecDepth 100000 in
set_option maxHeartbeats 1000000 in
theorem ones_any (x : Nat) (hx : x < 4294967296) (w : World) : Calls Try.prog 25 #[.int .u32 (x : Int)] w fun e w' => e = .returned (.int .i64 (pcn x 32 : Int)) ∧ ∃ m, w' = w.drewN m := by
  have E := Lib.hid (pcn_parts x)
  have i0 := ptab_at ((x : Int) / 16777216) (x / 2 ^ 24 % 256) (by omega) (by omega)
  have a1 := and255 ((x : Int) / 65536) (x / 2 ^ 16) (by omega) (by omega)
  have i1 := ptab_at ((x / 2 ^ 16 % 256 : Nat) : Int) (x / 2 ^ 16 % 256) (by omega) rfl
  have a2 := and255 ((x : Int) / 256) (x / 2 ^ 8) (by omega) (by omega)
  have i2 := ptab_at ((x / 2 ^ 8 % 256 : Nat) : Int) (x / 2 ^ 8 % 256) (by omega) rfl
  have a3 := and255 (x : Int) x rfl hx
  have i3 := ptab_at ((x % 256 : Nat) : Int) (x % 256) (by omega) rfl
  have l0 := pcn_le (x / 2 ^ 24 % 256) 8
  have l1 := pcn_le (x / 2 ^ 16 % 256) 8
  have l2 := pcn_le (x / 2 ^ 8 % 256) 8
  have l3 := pcn_le (x % 256) 8
  generalize x / 2 ^ 24 % 256 = y0 at *
  generalize x / 2 ^ 16 % 256 = y1 at *
  generalize x / 2 ^ 8 % 256 = y2 at *
  generalize x % 256 = y3 at *
  generalize pcn y0 8 = p0 at *
  generalize pcn y1 8 = p1 at *
  generalize pcn y2 8 = p2 at *
  generalize pcn y3 8 = p3 at *
  generalize pcn x 32 = p at *
  go_enter Try.func25, Try.ntmps25
  rw [ptab_eq]
  go_wp2_with fail
  go_quiet (fail)
  go_wp2
  go_ret
  exact ⟨retI (by rw [E.out]; omega), nq, rfl⟩
theorem and_u32 (a b : Nat) (ha : a < 4294967296) (hb : b < 4294967296) : bits .and .u32 (a : Int) (b : Int) = ((a &&& b : Nat) : Int) :=
  (bits_nat .u32 32 (by decide) (fun n h0 h1 => by rw [IntKind.wrap_u32]; omega) a b (by omega) (by omega)).1
theorem or_u32 (a b : Nat) (ha : a < 4294967296) (hb : b < 4294967296) : bits .or .u32 (a : Int) (b : Int) = ((a ||| b : Nat) : Int) :=
  (bits_nat .u32 32 (by decide) (fun n h0 h1 => by rw [IntKind.wrap_u32]; omega) a b (by omega) (by omega)).2
theorem and1 (a : Nat) (ha : a < 4294967296) : bits .and .u32 (a : Int) 1 = ((a % 2 : Nat) : Int) := by
  have := and_u32 a 1 ha (by decide)
  rw [Nat.and_one_is_mod] at this
  exact this

set_option maxRecDepth 100000 in
set_option maxHeartbeats 1000000 in
theorem fed_any (t x : Nat) (ht : t < 4294967296) (hx : x < 4294967296) (w : World) : Calls Try.prog 21 #[.int .u32 (t : Int), .int .u32 (x : Int)] w fun e w' => e = .returned (.int .u32 ((par t x 32).toNat : Int)) ∧ ∃ m, w' = w.drewN m := by
  have e1 := and_u32 t x ht hx
  have C := Lib.hid (ones_any (t &&& x) (by have := Nat.and_lt_two_pow (n := 32) t (show x < 2 ^ 32 by omega); omega) w)
  have e2 := and1 (pcn (t &&& x) 32) (by have := pcn_le (t &&& x) 32; omega)
  rw [pcn_par] at e2
  have e3 := pcn_le (t &&& x) 32
  generalize pcn (t &&& x) 32 = p at *
  generalize t &&& x = y at *
  generalize (par t x 32).toNat = r at *
  go_enter Try.func21, Try.ntmps21
  go_wp2_with fail
  refine C.out.mono ?_
  rintro e w1 ⟨rfl, m, rfl⟩
  go_wp2
  go_ret
  exact ⟨rfl, m, rfl⟩
end Go.Proofs.Ytcadpgpenjpdiaa
