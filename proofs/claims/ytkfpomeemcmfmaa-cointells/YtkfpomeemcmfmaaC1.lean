/- coin.Right and coin.Toss. -/
import Derived.Test.YtkfpomeemcmfmaaCm
import Derived.Test.YtkfpomeemcmfmaaTv
import Derived.Deep.QuietTactic
import Derived.BigQuiet
import Derived.WalkSmall
namespace Go.Proofs.Ytkfpomeemcmfmaa
open Go.RowKit

/-- A fraction as a value. -/
def frac (n d : Int) : Value := .agg #[.int .i64 n, .int .i64 d]
def ftup (r : Bool × Int × Int) : Value := .tuple #[.bool r.1, .int .i64 r.2.1, .int .i64 r.2.2]

theorem frac_cells (w : World) (n d : Int) : (w.alloc (.cells #[.int .i64 n, .int .i64 d] 24)).cell? ⟨w.heap.size, 0, none⟩ = some (.int .i64 n) ∧ (w.alloc (.cells #[.int .i64 n, .int .i64 d] 24)).cell? ⟨w.heap.size, 1, none⟩ = some (.int .i64 d) := by
  have h := heap_alloc_new w (.cells #[.int .i64 n, .int .i64 d] 24)
  exact ⟨cell_of_row _ _ 0 _ _ _ h, cell_of_row _ _ 1 _ _ _ h⟩

set_option maxHeartbeats 1000000 in
theorem right_any (n d : Int) (w : World) :
    Calls Try.prog 15 #[frac n d] w fun e w' => e = .returned (.bool (rgt n d)) ∧ Below w.heap.size w w' := by
  have hB : Hid (Below w.heap.size w (w.alloc (.cells #[.int .i64 n, .int .i64 d] 24))) := (Below.refl _ _).alloc (Nat.le_refl _) _
  unfold frac
  by_cases h1 : d < 1
  · have R : Hid (rgt n d = false) := by show rgt n d = false; simp [rgt]; omega
    go_enter Try.func15, Try.ntmps15
    go_wp2
    go_ret
    exact ⟨by rw [R.out]; rfl, hB.out⟩
  · by_cases h2 : 1099511627776 < d
    · have R : Hid (rgt n d = false) := by show rgt n d = false; simp [rgt]; omega
      go_enter Try.func15, Try.ntmps15
      go_wp2
      go_ret
      exact ⟨by rw [R.out]; rfl, hB.out⟩
    · by_cases h3 : n < 0
      · have R : Hid (rgt n d = false) := by show rgt n d = false; simp [rgt]; omega
        go_enter Try.func15, Try.ntmps15
        go_wp2
        go_ret
        exact ⟨by rw [R.out]; rfl, hB.out⟩
      · have R : Hid (rgt n d = decide (n ≤ d)) := by show rgt n d = decide (n ≤ d); simp [rgt, show 1 ≤ d by omega, show d ≤ 1099511627776 by omega, show 0 ≤ n by omega]
        go_enter Try.func15, Try.ntmps15
        go_wp2
        go_ret
        exact ⟨by rw [R.out]; rfl, hB.out⟩

set_option maxHeartbeats 1000000 in
theorem toss_bad_any (A : Option Addr) (ca : Nat) (t : List Bool) (n d : Int) (w : World) (h : rgt n d = false) :
    Calls Try.prog 9 #[.slice A t.length ca, frac n d] w fun e w' => e = .returned (ftup (toss t n d)) ∧ Below w.heap.size w w' := by
  rw [toss_bad h]
  have hB : Hid (Below w.heap.size w (w.alloc (.cells #[.int .i64 n, .int .i64 d] 24))) := (Below.refl _ _).alloc (Nat.le_refl _) _
  have C := Lib.hid (right_any n d (w.alloc (.cells #[.int .i64 n, .int .i64 d] 24)))
  rw [h] at C
  clear h
  unfold frac at *
  go_enter Try.func9, Try.ntmps9
  go_wp2_with fail
  refine C.out.mono ?_
  rintro e w1 ⟨rfl, hB1⟩
  have HB : Hid (Below w.heap.size w w1) := hB.out.trans (hB1.mono hB.out.size)
  clear hB1 C hB
  go_wp2
  go_ret3
  exact ⟨rfl, HB.out⟩

set_option maxHeartbeats 1000000 in
theorem toss_one_any (A : Option Addr) (ca : Nat) (t : List Bool) (d : Int) (w : World) (h : rgt d d = true) :
    Calls Try.prog 9 #[.slice A t.length ca, frac d d] w fun e w' => e = .returned (ftup (true, 0, 0)) ∧ Below w.heap.size w w' := by
  have hB : Hid (Below w.heap.size w (w.alloc (.cells #[.int .i64 d, .int .i64 d] 24))) := (Below.refl _ _).alloc (Nat.le_refl _) _
  have C := Lib.hid (right_any d d (w.alloc (.cells #[.int .i64 d, .int .i64 d] 24)))
  obtain ⟨c0, c1⟩ := frac_cells w d d
  rw [h] at C
  clear h
  unfold frac at *
  go_enter Try.func9, Try.ntmps9
  go_wp2_with fail
  refine C.out.mono ?_
  rintro e w1 ⟨rfl, hB1⟩
  have e0 := (hB1.cell (p := ⟨w.heap.size, 0, none⟩) (by simp)).trans c0
  have e1 := (hB1.cell (p := ⟨w.heap.size, 1, none⟩) (by simp)).trans c1
  have HB : Hid (Below w.heap.size w w1) := hB.out.trans (hB1.mono hB.out.size)
  clear hB1 C hB c0 c1
  go_wp2
  go_ret3
  exact ⟨rfl, HB.out⟩

set_option maxHeartbeats 2000000 in
theorem toss_core (A : Option Addr) (ca : Nat) (t : List Bool) (n d : Nat) (w : World) (ht : TP w A ca t) (h1 : 1 ≤ d) (h2 : d ≤ 1099511627776) (h3 : n < d) :
    Calls Try.prog 9 #[.slice A t.length ca, frac n d] w fun e w' => e = .returned (ftup (cans (tossF d n t))) ∧ Below w.heap.size w w' := by
  have hB : Hid (Below w.heap.size w (w.alloc (.cells #[.int .i64 (n : Int), .int .i64 (d : Int)] 24))) := (Below.refl _ _).alloc (Nat.le_refl _) _
  have C := Lib.hid (right_any n d (w.alloc (.cells #[.int .i64 (n : Int), .int .i64 (d : Int)] 24)))
  obtain ⟨c0, c1⟩ := frac_cells w n d
  have hr : rgt n d = true := rgt_iff.2 (by omega)
  rw [hr] at C
  clear hr
  have hl := ht.short
  have H := Lib.hid ht.tp
  clear ht
  unfold frac at *
  go_enter Try.func9, Try.ntmps9
  go_wp2_with fail
  refine C.out.mono ?_
  rintro e w1 ⟨rfl, hB1⟩
  have e0 := (hB1.cell (p := ⟨w.heap.size, 0, none⟩) (by simp)).trans c0
  have e1 := (hB1.cell (p := ⟨w.heap.size, 1, none⟩) (by simp)).trans c1
  have HB : Hid (Below w.heap.size w w1) := hB.out.trans (hB1.mono hB.out.size)
  have H1 := Lib.hid (H.out.later HB.out)
  clear hB1 C hB c0 c1 H
  go_wp2
  go_loop [7, 8] (fun rv kv => ∃ r k : Nat, k ≤ t.length ∧ r < d ∧ rv = .int .i64 r ∧ kv = .int .i64 k ∧ tossF d n t = csh k (tossF d r (t.drop k))) (fun _ kv => t.length - (intOf kv).toNat)
  case atStart => exact ⟨n, 0, Nat.zero_le _, h3, rfl, rfl, by simp [csh_zero]⟩
  case round =>
    obtain ⟨r, k, hk, hrd, rfl, rfl, hT⟩ := hrel
    have HT := Lib.hid hT
    clear hT
    by_cases r0 : r = 0
    · have E : Hid (tossF d n t = some (false, k)) := HT.out.trans (by rw [r0, tossF_zero]; simp [csh])
      subst r0
      clear HT
      go_wp2
      go_ret3
      exact ⟨by rw [E.out]; rfl, HB.out⟩
    · by_cases hlt : k < t.length
      · obtain ⟨b, off, rfl, _, hc⟩ := H1.out.at (by omega)
        have ck := hc k hlt
        clear hc
        by_cases e2 : d ≤ 2 * r
        · have dd : decide ((d : Int) ≤ (r : Int) * 2) = true := decide_eq_true (by omega)
          cases hx : t.getD k false with
          | true =>
            have E : Hid (tossF d n t = csh (k + 1) (tossF d (2 * r - d) (t.drop (k + 1)))) := HT.out.trans (by rw [toss_high r0 hlt e2 hx, csh_csh])
            rw [hx] at ck
            clear HT hx
            go_wp2
            go_round
            case rel => exact ⟨2 * r - d, k + 1, by omega, by omega, by go_num, by go_num, E.out⟩
            case measure => simp [intOf]; omega
          | false =>
            have E : Hid (tossF d n t = some (true, k + 1)) := HT.out.trans (by rw [toss_diff r0 hlt (by rw [hx]; simp [e2])]; simp [csh, e2])
            rw [hx] at ck
            clear HT hx
            go_wp2
            go_ret3
            exact ⟨by rw [E.out]; rfl, HB.out⟩
        · have dd : decide ((d : Int) ≤ (r : Int) * 2) = false := decide_eq_false (by omega)
          cases hx : t.getD k false with
          | true =>
            have E : Hid (tossF d n t = some (false, k + 1)) := HT.out.trans (by rw [toss_diff r0 hlt (by rw [hx]; simp; omega)]; simp [csh]; omega)
            rw [hx] at ck
            clear HT hx
            go_wp2
            go_ret3
            exact ⟨by rw [E.out]; rfl, HB.out⟩
          | false =>
            have E : Hid (tossF d n t = csh (k + 1) (tossF d (2 * r) (t.drop (k + 1)))) := HT.out.trans (by rw [toss_low r0 hlt e2 hx, csh_csh])
            rw [hx] at ck
            clear HT hx
            go_wp2
            go_round
            case rel => exact ⟨2 * r, k + 1, by omega, by omega, by go_num, by go_num, E.out⟩
            case measure => simp [intOf]; omega
      · have E : Hid (tossF d n t = none) := HT.out.trans (by rw [toss_none r0 (by omega)]; rfl)
        obtain rfl : k = t.length := by omega
        clear HT
        go_wp2
        go_ret3
        exact ⟨by rw [E.out]; rfl, HB.out⟩

theorem toss_any (A : Option Addr) (ca : Nat) (t : List Bool) (n d : Int) (w : World) (ht : TP w A ca t) :
    Calls Try.prog 9 #[.slice A t.length ca, frac n d] w fun e w' => e = .returned (ftup (toss t n d)) ∧ Below w.heap.size w w' := by
  cases h : rgt n d with
  | false => exact toss_bad_any A ca t n d w h
  | true =>
    have h' := rgt_iff.1 h
    obtain ⟨a, rfl⟩ : ∃ a : Nat, n = a := ⟨n.toNat, by omega⟩
    obtain ⟨b, rfl⟩ : ∃ b : Nat, d = b := ⟨d.toNat, by omega⟩
    rw [toss_good (by omega) (by omega) (by omega)]
    unfold tosG
    by_cases e : a = b
    · subst e
      rw [if_pos rfl]
      exact toss_one_any A ca t a w h
    · rw [if_neg e]
      exact toss_core A ca t a b w ht (by omega) (by omega) (by omega)
end Go.Proofs.Ytkfpomeemcmfmaa
