/- Int.Lsh. -/
import Derived.Test.YtclfimpcacoefaaI9
namespace Go.Proofs.Ytclfimpcacoefaa
open Go.RowKit Go.Deep

theorem shiftLeft_le (A : Option Addr) (ca n q r : Nat) (xs : List Nat) (w : World) (ha : H.Wd w A xs) (hx : xs.length ≤ 5000000000000) (hn : Hid (n = 32 * q + r)) (hr : r < 32) (hq : q ≤ 5000000000000) :
    Calls Try.prog 37 #[.slice A xs.length ca, .int .i64 (n : Int)] w fun e w' => ∃ R c zs, e = .returned (.slice R zs.length c) ∧ H.Wd w' R zs ∧ zs.length ≤ 11000000000000 ∧ zs.length ≤ c ∧ H.val zs = H.val xs * 2 ^ n ∧ Below w.heap.size w w' := by
  refine (shiftLeft_any A ca n q r xs w ha hx hn hr hq).mono ?_
  rintro e w' ⟨R, c, zs, rfl, h1, h2, h3, h4, h5⟩
  exact ⟨R, c, zs, rfl, h1, by omega, h3, h4, h5⟩

set_option maxRecDepth 100000 in
set_option maxHeartbeats 2000000 in
theorem ilsh_core (g bx n q r : Nat) (ng : Bool) (A Z : Option Addr) (ca nz cz : Nat) (zn : Bool) (xs : List Nat) (w : World)
    (x0 : w.cell? ⟨bx, 0, none⟩ = some (.bool ng)) (x1 : w.cell? ⟨bx, 1, none⟩ = some (.slice A xs.length ca))
    (hz : Hd w g zn Z nz cz) (ha : H.Wd w A xs) (hx : xs.length ≤ 5000000000000) (hn : Hid (n = 32 * q + r)) (hr : r < 32) (hq : q ≤ 5000000000000) :
    Calls Try.prog 27 #[.pointer (some ⟨g, 0, none⟩), .pointer (some ⟨bx, 0, none⟩), .int .u64 (n : Int)] w fun e w' => e = .returned (.pointer (some ⟨g, 0, none⟩)) ∧ IsI w' g (sgn ng (H.val xs * 2 ^ n)) ∧ w.grownBy w' (some g) := by
  have z0 := hz.cell0
  have z1 := hz.cell1
  have f0 := hz.frozen 0
  have f1 := hz.frozen 1
  have HZ := Lib.hid hz
  have HA := Lib.hid ha
  have hnb : n ≤ 200000000000000 := by have := hn.out; omega
  have hwn : IntKind.i64.wrap (n : Int) = (n : Int) := by rw [IntKind.wrap_i64]; omega
  clear hz ha
  go_enter Try.func27, Try.ntmps27
  go_wp2
  go_region_with ((go_at_call 37; refine (shiftLeft_le A ca n q r xs _ (HA.out.below (Below.refl _ w).drew) hx hn hr hq).mono ?_; rintro e w1 ⟨R, c, zs, rfl, hW, hl, hc, hv, hB1⟩; obtain ⟨p1, p4, p5, p6, p7⟩ := keep4 (w := w) ⟨x0, z0, z1, f0, f1⟩ ((Below.refl _ w).drew.trans hB1)))
  all_goals
    have HW := Lib.hid hW
    have HV := Lib.hid hv
    have HB1 : Hid (Below w.heap.size w w1) := (Below.refl _ w).drew.trans hB1
    clear hW hv hB1 p1 p4 p5 p6 p7
    go_wp2_with fail
    refine (stored_trim HZ.out HB1.out HW.out (by omega) hc).mono ?_
    rintro e w2 ⟨rfl, h1, h2⟩
    rw [HV.out] at h1
    have H1 := Lib.hid h1
    have H2 := Lib.hid h2
    clear h1 h2
    go_wp2
    go_ret
    exact ⟨rfl, H1.out, H2.out⟩
theorem sgn_shl (X : Int) (n : Nat) : sgn (decide (X < 0)) (X.natAbs * 2 ^ n) = X * 2 ^ n := by
  unfold sgn
  by_cases h : X < 0
  · have e : ((X.natAbs : Nat) : Int) = -X := by omega
    simp only [h, decide_true, if_true, Int.natCast_mul, e, Int.natCast_pow, Int.neg_mul, Int.neg_neg]
    rfl
  · have e : ((X.natAbs : Nat) : Int) = X := by omega
    simp only [h, decide_false, Int.natCast_mul, e, Int.natCast_pow]
    rfl
/-- Lsh: times a power of 2. -/
theorem ilsh_len (g bx n : Nat) (X : Int) (w : World) (hg : IsH w g) (hx : IsI w bx X) (sx : DL X 5000000000000) (hn : n ≤ 150000000000000) :
    Calls Try.prog 27 #[.pointer (some ⟨g, 0, none⟩), .pointer (some ⟨bx, 0, none⟩), .int .u64 (n : Int)] w fun e w' => e = .returned (.pointer (some ⟨g, 0, none⟩)) ∧ IsI w' g (X * 2 ^ n) ∧ w.grownBy w' (some g) := by
  obtain ⟨zn, Z, nz, cz, hz⟩ := hg
  obtain ⟨A, ca, x0, x1, x2, _⟩ := hx.open_
  have := ilsh_core g bx n (n / 32) (n % 32) _ A Z ca nz cz zn _ w x0 x1 hz x2 sx.out (Nat.div_add_mod n 32).symm (Nat.mod_lt _ (by omega)) (by omega)
  rwa [H.val_words, sgn_shl] at this
theorem ilsh_any (g bx n : Nat) (X : Int) (w : World) (hg : IsH w g) (hx : IsI w bx X) (sx : X.natAbs < Bh ^ 400000) (hn : n ≤ 1000000) :
    Calls Try.prog 27 #[.pointer (some ⟨g, 0, none⟩), .pointer (some ⟨bx, 0, none⟩), .int .u64 (n : Int)] w fun e w' => e = .returned (.pointer (some ⟨g, 0, none⟩)) ∧ IsI w' g (X * 2 ^ n) ∧ w.grownBy w' (some g) :=
  ilsh_len g bx n X w hg hx ((DL.of_pow sx).up (by decide)) (by omega)
end Go.Proofs.Ytclfimpcacoefaa
