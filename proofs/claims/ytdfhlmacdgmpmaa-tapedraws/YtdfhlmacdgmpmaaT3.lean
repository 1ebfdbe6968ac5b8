/- lotdrawerref.BBelow. -/
import Derived.Test.YtdfhlmacdgmpmaaT2
namespace Go.Proofs.Ytdfhlmacdgmpmaa
open Go.RowKit

set_option maxHeartbeats 400000 in
theorem bbelow_bad (A : Option Addr) (ca : Nat) (t : List Bool) (n : Int) (w : World) (h : n < 1 ∨ 1099511627776 < n) :
    Calls Try.prog 9 #[.slice A t.length ca, .int .i64 n] w fun e w' => e = .returned (tup (bel t n)) ∧ w = w' := by
  rw [bel_bad h]
  rcases h with h | h
  · go_enter Try.func9, Try.ntmps9
    go_wp2
    go_ret3
    exact ⟨rfl, rfl⟩
  · have h' : ¬ n < 1 := by omega
    go_enter Try.func9, Try.ntmps9
    go_wp2
    go_ret3
    exact ⟨rfl, rfl⟩

theorem bitLen_zero : Lib.bitLen 0 = 0 := by decide

/-- Behind s bits, j more read, no group whole yet. -/
def Half (W n : Nat) (t : List Bool) (i j x : Nat) : Prop :=
  ∃ s, i = s + j ∧ j < W ∧ x = bn ((t.drop s).take j) ∧ draw W n t = shft s (draw W n (t.drop s))
theorem half_zero {W n : Nat} {t : List Bool} (h : 0 < W) : Half W n t 0 0 0 := ⟨0, rfl, h, by simp [bn_nil], by simp [shft_zero]⟩
theorem half_lt {W n i j x : Nat} {t : List Bool} (h : Half W n t i j x) (hW : W ≤ 40) : x < 1152921504606846976 ∧ j < W := by
  obtain ⟨s, rfl, hj, rfl, _⟩ := h
  have := bn_lt ((t.drop s).take j)
  have h2 : 2 ^ ((t.drop s).take j).length ≤ 2 ^ 60 := Nat.pow_le_pow_right (by omega) (by simp; omega)
  omega
theorem half_bn {W n i j x : Nat} {t : List Bool} (h : Half W n t i j x) (hi : i < t.length) : ∃ s, i = s + j ∧ 2 * x + (t.getD i false).toNat = bn ((t.drop s).take (j + 1)) := by
  obtain ⟨s, rfl, hj, rfl, _⟩ := h
  refine ⟨s, rfl, ?_⟩
  rw [bn_take_succ (by simp; omega)]
  simp
theorem half_next {W n i j x : Nat} {t : List Bool} (h : Half W n t i j x) (hi : i < t.length) (hj : j + 1 < W) : Half W n t (i + 1) (j + 1) (2 * x + (t.getD i false).toNat) := by
  obtain ⟨s, rfl, _, rfl, hd⟩ := h
  refine ⟨s, by omega, hj, ?_, hd⟩
  rw [bn_take_succ (by simp; omega)]
  simp
theorem half_hit {W n i j x : Nat} {t : List Bool} (h : Half W n t i j x) (hi : i < t.length) (hj : j + 1 = W) (hx : 2 * x + (t.getD i false).toNat < n) : draw W n t = some (2 * x + (t.getD i false).toNat, i + 1) := by
  obtain ⟨s, rfl, _, rfl, hd⟩ := h
  have e : 2 * bn ((t.drop s).take j) + (t.getD (s + j) false).toNat = bn ((t.drop s).take W) := by
    rw [← hj, bn_take_succ (by simp; omega)]; simp
  rw [e] at hx ⊢
  rw [hd, draw_hit (by omega) (by simp; omega) hx]
  simp [shft]; omega
theorem half_miss {W n i j x : Nat} {t : List Bool} (h : Half W n t i j x) (hi : i < t.length) (hj : j + 1 = W) (hx : n ≤ 2 * x + (t.getD i false).toNat) : Half W n t (i + 1) 0 0 := by
  obtain ⟨s, rfl, _, rfl, hd⟩ := h
  have e : 2 * bn ((t.drop s).take j) + (t.getD (s + j) false).toNat = bn ((t.drop s).take W) := by
    rw [← hj, bn_take_succ (by simp; omega)]; simp
  rw [e] at hx
  refine ⟨s + W, by omega, by omega, by simp [bn_nil], ?_⟩
  rw [hd, draw_miss (by omega) (by simp; omega) hx, List.drop_drop]
  exact shft_shft s W _
theorem half_end {W n j x : Nat} {t : List Bool} (h : Half W n t t.length j x) (hW : 0 < W) : draw W n t = none := by
  obtain ⟨s, e, hj, _, hd⟩ := h
  rw [hd, draw_short hW (by simp; omega)]; rfl

set_option maxHeartbeats 1000000 in
theorem bbelow_core (A : Option Addr) (ca : Nat) (t : List Bool) (n W : Nat) (w : World) (h : Tp w A t) (hl : t.length ≤ 4611686018427387904) (h1 : 2 ≤ n) (h2 : n ≤ 1099511627776) (HW : Hid (Lib.bitLen (n - 1) = W)) (hw0 : 0 < W) (hw : W ≤ 40) :
    Calls Try.prog 9 #[.slice A t.length ca, .int .i64 n] w fun e w' => e = .returned (tup (ansOf (draw W n t))) ∧ w = w' := by
  have H := Lib.hid h
  clear h
  go_enter Try.func9, Try.ntmps9
  go_wp2_with fail
  go_loop [7, 8] (fun k y => ∃ a b : Nat, k = .int .i64 a ∧ y = .int .i64 b ∧ a + Lib.bitLen b = W ∧ b < 1099511627776) (fun _ y => (intOf y).toNat)
  case atStart => exact ⟨0, n - 1, rfl, by rw [show ((n - 1 : Nat) : Int) = (n : Int) - 1 by omega], by rw [HW.out]; omega, by omega⟩
  case round =>
    obtain ⟨a, b, rfl, rfl, hab, hb⟩ := hrel
    by_cases hb0 : b = 0
    · subst hb0
      rw [bitLen_zero] at hab
      obtain rfl : W = a := by omega
      clear hab hb
      have hz : ((W : Int) == 0) = false := eqz_no (by omega)
      go_wp2_with fail
      go_loop [9, 10, 31] (fun x j i => ∃ a b c : Nat, c ≤ t.length ∧ x = .int .i64 a ∧ j = .int .i64 b ∧ i = .int .i64 c ∧ Half W n t c b a) (fun _ _ i => t.length - (intOf i).toNat)
      case atStart => exact ⟨0, 0, 0, by omega, rfl, rfl, rfl, half_zero hw0⟩
      case round =>
        clear hz
        obtain ⟨x, j, i, hi, rfl, rfl, rfl, hh⟩ := hrel
        have HH := Lib.hid hh
        have hx := half_lt hh hw
        clear hh
        by_cases hlt : i < t.length
        · obtain ⟨b, off, rfl, _, hc⟩ := H.out.at (by omega)
          have hci := hc i hlt
          clear hc
          have N : Hid (j + 1 < W → Half W n t (i + 1) (j + 1) (2 * x + (t.getD i false).toNat)) := fun h => half_next HH.out hlt h
          have O : Hid (j + 1 = W → 2 * x + (t.getD i false).toNat < n → draw W n t = some (2 * x + (t.getD i false).toNat, i + 1)) := fun h h' => half_hit HH.out hlt h h'
          have M : Hid (j + 1 = W → n ≤ 2 * x + (t.getD i false).toNat → Half W n t (i + 1) 0 0) := fun h h' => half_miss HH.out hlt h h'
          clear HH
          generalize t.getD i false = bt at *
          by_cases hj : j + 1 = W
          · have hj' : (((j : Int) + 1) == (W : Int)) = true := by simp; omega
            cases bt
            · by_cases hn : 2 * x < n
              · go_wp2
                go_ret3
                exact ⟨by rw [O.out hj (by simpa using hn)]; simp [tup, ansOf], rfl⟩
              · go_wp2
                go_round
                case rel => exact ⟨0, 0, i + 1, by omega, rfl, rfl, by go_num, M.out hj (by simp; omega)⟩
                case measure => simp [intOf]; omega
            · by_cases hn : 2 * x + 1 < n
              · go_wp2
                go_ret3
                exact ⟨by rw [O.out hj (by simpa using hn)]; simp [tup, ansOf], rfl⟩
              · go_wp2
                go_round
                case rel => exact ⟨0, 0, i + 1, by omega, rfl, rfl, by go_num, M.out hj (by simp; omega)⟩
                case measure => simp [intOf]; omega
          · have hj' : (((j : Int) + 1) == (W : Int)) = false := by simp; omega
            cases bt
            · go_wp2
              go_round
              case rel => exact ⟨2 * x, j + 1, i + 1, by omega, by go_num, by go_num, by go_num, by simpa using N.out (by omega)⟩
              case measure => simp [intOf]; omega
            · go_wp2
              go_round
              case rel => exact ⟨2 * x + 1, j + 1, i + 1, by omega, by go_num, by go_num, by go_num, by simpa using N.out (by omega)⟩
              case measure => simp [intOf]; omega
        · obtain rfl : t.length = i := by omega
          have E : Hid (draw W n t = none) := half_end HH.out hw0
          go_wp2
          go_ret3
          exact ⟨by rw [E.out]; rfl, rfl⟩
    · rw [Lib.bitLen_half b hb0 (by omega)] at hab
      have HA := Lib.hid hab
      have ha : a < W := by omega
      clear hab HW
      go_wp2
      go_round
      case rel => exact ⟨a + 1, b / 2, by go_num, by go_num, by have := HA.out; omega, by omega⟩
      case measure => simp [intOf]; omega

set_option maxHeartbeats 400000 in
theorem bbelow_one (A : Option Addr) (ca : Nat) (t : List Bool) (w : World) :
    Calls Try.prog 9 #[.slice A t.length ca, .int .i64 1] w fun e w' => e = .returned (tup (0, 0, 0)) ∧ w = w' := by
  go_enter Try.func9, Try.ntmps9
  go_wp2_with fail
  go_loop [7, 8] (fun k y => k = .int .i64 0 ∧ y = .int .i64 0) (fun _ y => (intOf y).toNat)
  case atStart => exact ⟨rfl, rfl⟩
  case round =>
    obtain ⟨rfl, rfl⟩ := hrel
    go_wp2
    go_ret3
    exact ⟨rfl, rfl⟩

theorem bbelow_any (A : Option Addr) (ca : Nat) (t : List Bool) (n : Int) (w : World) (h : TP w A ca t) :
    Calls Try.prog 9 #[.slice A t.length ca, .int .i64 n] w fun e w' => e = .returned (tup (bel t n)) ∧ w = w' := by
  by_cases hb : n < 1 ∨ 1099511627776 < n
  · exact bbelow_bad A ca t n w hb
  · obtain ⟨m, rfl⟩ : ∃ m : Nat, n = m := ⟨n.toNat, by omega⟩
    rw [bel_good (by omega) (by omega)]
    by_cases h1 : m = 1
    · subst h1
      rw [wid_one, draw_zero (by omega)]
      exact bbelow_one A ca t w
    · have hl := h.short
      exact bbelow_core A ca t m _ w h.tp hl (by omega) (by omega) rfl (wid_pos (by omega) (by omega)) (wid_le (by omega))
end Go.Proofs.Ytdfhlmacdgmpmaa
