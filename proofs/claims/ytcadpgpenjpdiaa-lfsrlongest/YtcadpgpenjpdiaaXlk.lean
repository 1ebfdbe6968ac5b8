/- lotdrawerkeep.LfsrLongest. -/
import Derived.Test.YtcadpgpenjpdiaaXl9
import Derived.Deep.RegionHeld3
import Derived.Deep.DeepCutAuto
namespace Go.Proofs.Ytcadpgpenjpdiaa
open Go.RowKit Go.Deep

theorem hib_bit {n t x i : Nat} (h : NR n t) (hx : x < 2 ^ n) : hib n t x i = (nit n t i x).testBit (n - 1) := by
  have hy := nit_lt (t := t) h.lo hx i
  unfold hib
  have h4 := Nat.two_pow_pos (n - 1)
  have e : 2 ^ n = 2 ^ (n - 1) * 2 := by
    obtain ⟨k, hk⟩ : ∃ k, n = k + 1 := ⟨n - 1, by have := h.lo; omega⟩
    rw [hk, Nat.add_sub_cancel, Nat.pow_succ]
  have c1 : nit n t i x / 2 ^ (n - 1) < 2 := (Nat.div_lt_iff_lt_mul h4).2 (by omega)
  rw [Nat.testBit_eq_decide_div_mod_eq, decide_eq_decide]
  generalize nit n t i x / 2 ^ (n - 1) = z at *
  omega
theorem setN_succ (n t : Nat) : ∀ (k x : Nat), setN n t (k + 1) x = setN n t k x + ((nit n t k x).testBit (n - 1)).toNat
  | 0, x => by simp [setN, nit]
  | k + 1, x => by
    have e : nit n t k (nst n t x) = nit n t (k + 1) x := by rw [Nat.add_comm k 1, nit_add]; rfl
    have h1 : setN n t (k + 1 + 1) x = (x.testBit (n - 1)).toNat + setN n t (k + 1) (nst n t x) := rfl
    have h2 : setN n t (k + 1) x = (x.testBit (n - 1)).toNat + setN n t k (nst n t x) := rfl
    rw [h1, h2, setN_succ n t k (nst n t x), e]
    omega
theorem setN_le (n t : Nat) : ∀ (k x : Nat), setN n t k x ≤ k
  | 0, x => Nat.le_refl _
  | k + 1, x => by
    rw [setN_succ]
    have := setN_le n t k x
    have := Bool.toNat_le ((nit n t k x).testBit (n - 1))
    omega
theorem taps_nr : ∀ n, n < 9 → 1 ≤ n → tapsL.getD n 0 < 2 ^ n ∧ (tapsL.getD n 0).testBit (n - 1) = true := by decide +kernel
theorem NR.taps8 {n : Nat} (h : n < 9) (h1 : 1 ≤ n) : NR n (tapsL.getD n 0) := ⟨h1, by omega, (taps_nr n h h1).1, (taps_nr n h h1).2⟩
theorem taps_cell {n : Nat} (h : n < 9) (w : World) : (w.alloc (.cells #[.int .u32 0, .int .u32 1, .int .u32 3, .int .u32 6, .int .u32 12, .int .u32 20, .int .u32 48, .int .u32 96, .int .u32 184] 22)).cell? ⟨w.heap.size, n, none⟩ = some (.int .u32 ((tapsL.getD n 0 : Nat) : Int)) := by
  have := cell_of_row _ w.heap.size n _ 22 (0, 0) (heap_alloc_new w (.cells #[.int .u32 0, .int .u32 1, .int .u32 3, .int .u32 6, .int .u32 12, .int .u32 20, .int .u32 48, .int .u32 96, .int .u32 184] 22))
  rw [this]
  obtain rfl | rfl | rfl | rfl | rfl | rfl | rfl | rfl | rfl : n = 0 ∨ n = 1 ∨ n = 2 ∨ n = 3 ∨ n = 4 ∨ n = 5 ∨ n = 6 ∨ n = 7 ∨ n = 8 := by omega
  all_goals rfl

set_option maxRecDepth 100000 in
set_option maxHeartbeats 2000000 in
theorem lfsrLongest_out (n : Int) (h : n < 1 ∨ 9 ≤ n) (w : World) : Calls Try.prog 8 #[.int .i64 n] w fun e w' => e = .returned (.bool true) ∧ Below w.heap.size w w' := by
  have CA := Lib.hid alive14_any
  by_cases h1 : n < 1
  · clear h
    go_enter Try.func8, Try.ntmps8
    go_wp2_with fail
    refine (CA.out _).mono ?_
    rintro e w1 ⟨rfl, hb1⟩
    have HB1 := Lib.hid (hb1.alloc hb1.size (.cells #[.int .u32 0, .int .u32 1, .int .u32 3, .int .u32 6, .int .u32 12, .int .u32 20, .int .u32 48, .int .u32 96, .int .u32 184] 22))
    clear hb1
    go_wp2
    go_ret
    exact ⟨rfl, HB1.out⟩
  · have h2 : 9 ≤ n := by omega
    clear h
    go_enter Try.func8, Try.ntmps8
    go_wp2_with fail
    refine (CA.out _).mono ?_
    rintro e w1 ⟨rfl, hb1⟩
    have HB1 := Lib.hid (hb1.alloc hb1.size (.cells #[.int .u32 0, .int .u32 1, .int .u32 3, .int .u32 6, .int .u32 12, .int .u32 20, .int .u32 48, .int .u32 96, .int .u32 184] 22))
    clear hb1
    go_wp2
    go_ret
    exact ⟨rfl, HB1.out⟩

set_option maxRecDepth 100000 in
set_option maxHeartbeats 2000000 in
theorem lfsrLongest_in (n : Nat) (h1 : 1 ≤ n) (h9 : n < 9) (w : World) : Calls Try.prog 8 #[.int .i64 (n : Int)] w fun e w' => e = .returned (.bool true) ∧ Below w.heap.size w w' := by
  have CA := Lib.hid alive14_any
  obtain ⟨T, hT⟩ : ∃ T, tapsL.getD n 0 = T := ⟨_, rfl⟩
  have hR := NR.taps8 h9 h1
  rw [hT] at hR
  obtain ⟨hl1, hl2⟩ := long_all n h9 h1
  rw [hT] at hl1 hl2
  have hone : 1 < 2 ^ n := Nat.one_lt_two_pow (by omega)
  have HC : Hid (∀ w : World, (w.alloc (.cells #[.int .u32 0, .int .u32 1, .int .u32 3, .int .u32 6, .int .u32 12, .int .u32 20, .int .u32 48, .int .u32 96, .int .u32 184] 22)).cell? ⟨w.heap.size, n, none⟩ = some (.int .u32 (T : Int))) := fun w => by
    have := taps_cell h9 w
    rw [hT] at this
    exact this
  clear hT
  obtain ⟨q, hq, hq1, hq2, hqi⟩ := pow20 (n := n) (by omega)
  have hq256 : q ≤ 256 := by rw [← hq]; exact Nat.pow_le_pow_right (n := 2) (j := 8) (by decide) (by omega)
  obtain ⟨v, hv⟩ : ∃ v, n = v + 1 := ⟨n - 1, by omega⟩
  have hvi : (n : Int) - 1 = (v : Int) := by omega
  obtain ⟨r, hr, hr1, hr2, hri⟩ := pow20 (n := v) (by omega)
  have C1 : Hid (∀ w : World, Calls Try.prog 15 #[.int .i64 (n : Int), .int .u32 (T : Int), .int .u32 1] w fun e w' => e = .returned (.tuple #[.int .i64 ((q - 1 : Nat) : Int), .int .i64 0]) ∧ Below w.heap.size w w') := fun w => by
    have := per_ok hR hone w
    rw [hl1, hq] at this
    exact this
  have C2 : Hid (∀ w : World, Calls Try.prog 11 #[.int .i64 (n : Int), .int .u32 (T : Int), .int .u32 1, .int .i64 ((q - 1 : Nat) : Int)] w fun e w' => ∃ (R : Option Addr) (cr : Nat), e = .returned (.tuple #[.slice R (q - 1) cr, .int .i64 0]) ∧ TP w' R cr (rowN n T 1 (q - 1)) ∧ Below w.heap.size w w') := fun w => row_ok hR hone (q - 1) (by omega) w
  rw [show n - 1 = v by omega, hr, hq] at hl2
  have HL2 := Lib.hid hl2
  have HH := Lib.hid (fun k => hib_bit (i := k) hR hone)
  have HSN := Lib.hid (fun k => setN_succ n T k 1)
  have HSL := Lib.hid (fun k => setN_le n T k 1)
  have hni : (n : Int) < 9 := by omega
  have hn20 : n ≤ 8 := by omega
  have hv7 : v ≤ 7 := by omega
  have hqe : (q : Int) - 1 = ((q - 1 : Nat) : Int) := by omega
  clear hl1 hl2 hone hR h9 hv hq hr
  go_enter Try.func8, Try.ntmps8
  go_wp2_with fail
  refine (CA.out _).mono ?_
  rintro e w1 ⟨rfl, hb1⟩
  have HB1 := Lib.hid (hb1.alloc hb1.size (.cells #[.int .u32 0, .int .u32 1, .int .u32 3, .int .u32 6, .int .u32 12, .int .u32 20, .int .u32 48, .int .u32 96, .int .u32 184] 22))
  have hc := HC.out w1
  have HC1 := Lib.hid hc
  clear hb1
  go_wp2_with fail
  refine (C1.out _).mono ?_
  rintro e w2 ⟨rfl, hb2⟩
  have HB2 := Lib.hid (HB1.out.trans (hb2.mono HB1.out.size))
  have hgs : w1.heap.size < w2.heap.size := Nat.lt_of_lt_of_le (by simp) hb2.size
  have hc2 := (hb2.cell (p := ⟨w1.heap.size, n, none⟩) (by simp)).trans HC1.out
  clear hb2 hc HB1 HC1 C1
  obtain ⟨g, hg⟩ : ∃ g, w1.heap.size = g := ⟨_, rfl⟩
  rw [hg] at hc2 hgs
  have hc3 : w2.drew.cell? ⟨g, n, none⟩ = some (.int .u32 (T : Int)) := hc2
  have hgs3 : g < w2.drew.heap.size := hgs
  have HBD : Hid (Below w.heap.size w w2.drew) := HB2.out.drew
  have D := Lib.hid (And.intro hgs3 hc3)
  have wq : IntKind.i64.wrap (IntKind.i64.wrap (q : Int) - 1) = ((q - 1 : Nat) : Int) := by
    have wq1 : IntKind.i64.wrap (q : Int) = (q : Int) := IntWalk.i64_in _ (by omega)
    rw [wq1, hqe]
    exact IntWalk.i64_in _ (by omega)
  have CR := Lib.hid (C2.out w2.drew)
  clear hc3 hgs3 HB2 C2
  go_wp2_with fail
  go_region_held3 (fun w' => w'.cell? ⟨g, n, none⟩ = some (.int .u32 (T : Int))) (go_keep)
    (first | (go_at_call 11; refine CR.out.mono ?_; rintro e w3 ⟨R, cr, rfl, hT, hb3⟩; have f0 := (hb3.cell (p := ⟨g, n, none⟩) D.out.1).trans D.out.2; have HT3 := Lib.hid hT; have HB3 := Lib.hid hb3; clear hb3 hT))
  have HBE := Lib.hid (HBD.out.trans (HB3.out.mono HBD.out.size))
  clear HB3 HBD D CR hgs hc2 hg
  go_wp2_with fail
  go_loop [8, 45] (fun sv iv => ∃ k : Nat, k ≤ q - 1 ∧ iv = .int .i64 k ∧ sv = .int .i64 (setN n T k 1 : Int)) (fun _ iv => q - 1 - (intOf iv).toNat)
  case atStart => exact ⟨0, by omega, rfl, rfl⟩
  case round =>
    obtain ⟨k, hk, rfl, rfl⟩ := hrel
    by_cases hlt : k < q - 1
    · have hki : (k : Int) < ((q - 1 : Nat) : Int) := by omega
      obtain ⟨b, off, rfl, _, hcell⟩ := HT3.out.tp.at (by rw [rowN_len]; omega)
      have hc := hcell k (by rw [rowN_len]; exact hlt)
      rw [rowN_at hlt, HH.out k] at hc
      have E := Lib.hid (HSN.out k)
      have hsl := HSL.out k
      clear hcell
      generalize setN n T k 1 = s at *
      generalize (nit n T k 1).testBit (n - 1) = u at *
      cases u with
      | true =>
        simp only [Bool.toNat_true] at E
        go_wp2
        go_round
        case rel => exact ⟨k + 1, by omega, by go_num, by rw [E.out]; go_num⟩
        case measure => simp [intOf]; omega
      | false =>
        simp only [Bool.toNat_false, Nat.add_zero] at E
        go_wp2
        go_round
        case rel => exact ⟨k + 1, by omega, by go_num, by rw [E.out]⟩
        case measure => simp [intOf]; omega
    · obtain rfl : k = q - 1 := by omega
      rw [HL2.out]
      have f1 : ((r : Int) == (r : Int)) = true := by simp
      have f2 : (((q - 1 : Nat) : Int) == ((q - 1 : Nat) : Int)) = true := by simp
      go_wp2
      go_ret
      exact ⟨rfl, HBE.out⟩
theorem lfsrLongest_walk (n : Int) (w : World) : Calls Try.prog 8 #[.int .i64 n] w fun e w' => e = .returned (.bool true) ∧ Below w.heap.size w w' := by
  by_cases h : n < 1 ∨ 9 ≤ n
  · exact lfsrLongest_out n h w
  · obtain ⟨a, rfl⟩ : ∃ a : Nat, n = (a : Int) := ⟨n.toNat, by omega⟩
    exact lfsrLongest_in a (by omega) (by omega) w
end Go.Proofs.Ytcadpgpenjpdiaa
