/- tape.Below. -/
import Derived.Test.YtdfhlmacdgmpmaaT1
namespace Go.Proofs.Ytdfhlmacdgmpmaa
open Go.RowKit

/-- Three answers as a tuple. -/
def tup (r : Int × Int × Int) : Value := .tuple #[.int .i64 r.1, .int .i64 r.2.1, .int .i64 r.2.2]

set_option maxHeartbeats 400000 in
theorem below_bad (A : Option Addr) (ca : Nat) (t : List Bool) (n : Int) (w : World) (h : n < 1 ∨ 1099511627776 < n) :
    Calls Try.prog 8 #[.slice A t.length ca, .int .i64 n] w fun e w' => e = .returned (tup (bel t n)) ∧ w = w' := by
  rw [bel_bad h]
  rcases h with h | h
  · go_enter Try.func8, Try.ntmps8
    go_wp2
    go_ret3
    exact ⟨rfl, rfl⟩
  · have h' : ¬ n < 1 := by omega
    go_enter Try.func8, Try.ntmps8
    go_wp2
    go_ret3
    exact ⟨rfl, rfl⟩

set_option maxHeartbeats 1000000 in
theorem below_core (A : Option Addr) (ca : Nat) (t : List Bool) (n W : Nat) (w : World) (h : Tp w A t) (hl : t.length ≤ 4611686018427387904) (hca : t.length ≤ ca) (hcm : ca ≤ 9223372036854775807) (h1 : 2 ≤ n) (h2 : n ≤ 1099511627776) (HW : Hid (Lib.bitLen (n - 1) = W)) (hw0 : 0 < W) (hw : W ≤ 40) :
    Calls Try.prog 8 #[.slice A t.length ca, .int .i64 n] w fun e w' => e = .returned (tup (ansOf (draw W n t))) ∧ w = w' := by
  have C := Lib.hid (len_any ((n : Int) - 1) (by omega) (by omega) w)
  have e : ((n : Int) - 1).toNat = n - 1 := by omega
  rw [e, HW.out] at C
  have H := Lib.hid h
  clear h e HW
  go_enter Try.func8, Try.ntmps8
  go_wp2_with fail
  refine C.out.mono ?_
  rintro e w' ⟨rfl, rfl⟩
  clear C
  go_wp2_with fail
  go_loop [8] (fun i => ∃ s : Nat, s ≤ t.length ∧ i = .int .i64 s ∧ draw W n t = shft s (draw W n (t.drop s))) (fun i => t.length - (intOf i).toNat)
  case atStart => exact ⟨0, Nat.zero_le _, rfl, by simp [shft_zero]⟩
  case round =>
    obtain ⟨s, hs, rfl, hd⟩ := hrel
    have HD := Lib.hid hd
    clear hd
    by_cases hlt : s + W ≤ t.length
    · obtain ⟨b, off, rfl, _, hc⟩ := H.out.at (by omega)
      clear hc
      have eg : ((t.drop s).take W).length = W := by simp; omega
      have C2 := Lib.hid (binary_any (some ⟨b, off + s, none⟩) (ca - s) ((t.drop s).take W) w ((H.out.drop s).take W) (by omega))
      rw [eg] at C2
      have B := bn_lt ((t.drop s).take W)
      have B2 : 2 ^ ((t.drop s).take W).length ≤ 2 ^ 60 := Nat.pow_le_pow_right (by omega) (by omega)
      have hb : bn ((t.drop s).take W) < 1152921504606846976 := by omega
      clear eg B B2
      by_cases hn : bn ((t.drop s).take W) < n
      · have E : Hid (draw W n t = some (bn ((t.drop s).take W), s + W)) := by
          show draw W n t = _
          rw [HD.out, draw_hit hw0 (by simp; omega) hn]; simp [shft]; omega
        generalize bn ((t.drop s).take W) = x at *
        go_wp2_with fail
        refine C2.out.mono ?_
        rintro e w' ⟨rfl, rfl⟩
        go_wp2
        go_ret3
        exact ⟨by rw [E.out]; simp [tup, ansOf], rfl⟩
      · have E : Hid (draw W n t = shft (s + W) (draw W n (t.drop (s + W)))) := by
          show draw W n t = _
          rw [HD.out, draw_miss hw0 (by simp; omega) (by omega), List.drop_drop]
          exact shft_shft s W _
        generalize bn ((t.drop s).take W) = x at *
        go_wp2_with fail
        refine C2.out.mono ?_
        rintro e w' ⟨rfl, rfl⟩
        go_wp2
        go_round
        case rel => exact ⟨s + W, by omega, by go_num, E.out⟩
        case measure => simp [intOf]; omega
    · have E : Hid (draw W n t = none) := by
        show draw W n t = none
        rw [HD.out, draw_short hw0 (by simp; omega)]; rfl
      go_wp2
      go_ret3
      exact ⟨by rw [E.out]; rfl, rfl⟩

set_option maxHeartbeats 1000000 in
theorem below_one (A : Option Addr) (ca : Nat) (t : List Bool) (w : World) (h : Tp w A t) (hca : t.length ≤ ca) (hcm : ca ≤ 9223372036854775807) (hA : A = none → ca = 0) :
    Calls Try.prog 8 #[.slice A t.length ca, .int .i64 1] w fun e w' => e = .returned (tup (0, 0, 0)) ∧ w = w' := by
  have C := Lib.hid (len_any 0 (by omega) (by omega) w)
  have e : Lib.bitLen (0 : Int).toNat = 0 := by decide
  rw [e] at C
  clear h e
  cases A with
  | none =>
    obtain rfl := hA rfl
    obtain ⟨n, hn⟩ : ∃ n, t.length = n := ⟨_, rfl⟩
    rw [hn] at hca ⊢
    obtain rfl : n = 0 := by omega
    clear hn hca hA
    have C2 := Lib.hid (binary_any none 0 [] w Tp.nil (by simp))
    go_enter Try.func8, Try.ntmps8
    go_wp2_with fail
    refine C.out.mono ?_
    rintro e w' ⟨rfl, rfl⟩
    go_wp2_with fail
    go_loop [8] (fun i => i = .int .i64 0) (fun _ => 0)
    case atStart => rfl
    case round =>
      obtain rfl := hrel
      go_wp2_with fail
      refine C2.out.mono ?_
      rintro e w' ⟨rfl, rfl⟩
      go_wp2
      go_ret3
      exact ⟨rfl, rfl⟩
  | some a =>
    by_cases h0 : ca = 0
    · subst h0
      obtain ⟨n, hn⟩ : ∃ n, t.length = n := ⟨_, rfl⟩
      rw [hn] at hca ⊢
      obtain rfl : n = 0 := by omega
      clear hn hca hA
      have C2 := Lib.hid (binary_any (some a) 0 [] w Tp.nil (by simp))
      go_enter Try.func8, Try.ntmps8
      go_wp2_with fail
      refine C.out.mono ?_
      rintro e w' ⟨rfl, rfl⟩
      go_wp2_with fail
      go_loop [8] (fun i => i = .int .i64 0) (fun _ => 0)
      case atStart => rfl
      case round =>
        obtain rfl := hrel
        go_wp2_with fail
        refine C2.out.mono ?_
        rintro e w' ⟨rfl, rfl⟩
        go_wp2
        go_ret3
        exact ⟨rfl, rfl⟩
    · have C2 := Lib.hid (binary_any (some (a.add 0)) ca [] w Tp.nil (by simp))
      clear hA
      go_enter Try.func8, Try.ntmps8
      go_wp2_with fail
      refine C.out.mono ?_
      rintro e w' ⟨rfl, rfl⟩
      go_wp2_with fail
      go_loop [8] (fun i => i = .int .i64 0) (fun _ => 0)
      case atStart => rfl
      case round =>
        obtain rfl := hrel
        go_wp2_with fail
        refine C2.out.mono ?_
        rintro e w' ⟨rfl, rfl⟩
        go_wp2
        go_ret3
        exact ⟨rfl, rfl⟩

/-- A slice of bits that is well formed and reads as t. -/
structure TP (w : World) (A : Option Addr) (ca : Nat) (t : List Bool) : Prop where
  tp : Tp w A t
  le : t.length ≤ ca
  cap : ca ≤ 9223372036854775807
  short : t.length ≤ 4611686018427387904
  none : A = none → ca = 0
theorem TP.later {w w' : World} {A : Option Addr} {ca : Nat} {t : List Bool} (h : TP w A ca t) (hb : Below w.heap.size w w') : TP w' A ca t := ⟨h.tp.later hb, h.le, h.cap, h.short, h.none⟩

theorem below_any (A : Option Addr) (ca : Nat) (t : List Bool) (n : Int) (w : World) (h : TP w A ca t) :
    Calls Try.prog 8 #[.slice A t.length ca, .int .i64 n] w fun e w' => e = .returned (tup (bel t n)) ∧ w = w' := by
  by_cases hb : n < 1 ∨ 1099511627776 < n
  · exact below_bad A ca t n w hb
  · obtain ⟨m, rfl⟩ : ∃ m : Nat, n = m := ⟨n.toNat, by omega⟩
    rw [bel_good (by omega) (by omega)]
    by_cases h1 : m = 1
    · subst h1
      rw [wid_one, draw_zero (by omega)]
      exact below_one A ca t w h.tp h.le h.cap h.none
    · have hl := h.short
      exact below_core A ca t m _ w h.tp hl h.le h.cap (by omega) (by omega) rfl (wid_pos (by omega) (by omega)) (wid_le (by omega))
end Go.Proofs.Ytdfhlmacdgmpmaa
