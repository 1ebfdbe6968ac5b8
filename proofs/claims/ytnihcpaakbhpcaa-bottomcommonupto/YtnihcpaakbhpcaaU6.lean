/- slices.BinarySearchFunc of words by bottom.byRank's closure. -/
import Derived.Test.YtnihcpaakbhpcaaU3
namespace Go.Proofs.Ytnihcpaakbhpcaa
open Go.RowKit Go.Deep Go.Sort Go.Shelf Go.Lib

theorem ra_at' {r : W64 → Nat} {l : List W64} (h : Ra r l) {i j : Nat} (hij : i < j) (hj : j < l.length) : r (l.getD i 0) < r (l.getD j 0) := by
  have := List.pairwise_iff_getElem.1 h i j (by omega) hj hij
  simpa [List.getD_eq_getElem?_getD, hj, show i < l.length by omega] using this
theorem mem_at {l : List W64} {x : W64} (h : x ∈ l) : ∃ i, i < l.length ∧ l.getD i 0 = x := by
  obtain ⟨i, hi, e⟩ := List.getElem_of_mem h
  exact ⟨i, hi, by simpa [List.getD_eq_getElem?_getD, hi] using e⟩
theorem at_mem {l : List W64} {i : Nat} (h : i < l.length) : l.getD i 0 ∈ l := by
  rw [List.getD_eq_getElem?_getD, List.getElem?_eq_getElem h]
  exact List.getElem_mem _
theorem ord_zero {x y : Nat} : ord x y = 0 ↔ x = y := by
  unfold ord
  split
  · constructor
    · intro h; omega
    · intro h; omega
  · split
    · constructor
      · intro h; omega
      · intro h; omega
    · constructor
      · intro h; omega
      · intro h; rfl
theorem ord_lt0 {x y : Nat} : decide (ord x y < 0) = decide (x < y) := by rw [decide_eq_decide, ord_neg]

set_option maxRecDepth 100000 in
set_option maxHeartbeats 2000000 in
theorem bsearch_any (s x : W64) (Bx : Nat) (A : Option Addr) (ca : Nat) (l : List W64) (w : World) (hl : UP w A ca l) (hr : Ra (rk s) l) (hX : Boxed w Bx 22 (.int .u64 (s.toNat : Int))) (hlen : l.length ≤ 1000000) :
    Calls Try.prog 40 #[.slice A l.length ca, .int .u64 (x.toNat : Int), .func (.func 55) #[] #[.pointer (some ⟨Bx, 0, none⟩)]] w fun e w' => ∃ i : Int, e = .returned (.tuple #[.int .i64 i, .bool (decide (x ∈ l))]) ∧ Below w.heap.size w w' := by
  have hle := hl.le
  have hcap := hl.cap
  have HL := Lib.hid hl
  have HR := Lib.hid hr
  have HX := Lib.hid hX
  have rkE := rkEnters
  obtain ⟨n, hn⟩ : ∃ n, l.length = n := ⟨_, rfl⟩
  obtain ⟨bb, hbb⟩ : ∃ bb, decide (x ∈ l) = bb := ⟨_, rfl⟩
  have HY : Hid (∀ k, k < n → rk s (l.getD k 0) = rk s x → true = bb) := fun k hk e => by
    rw [← hbb]
    have := rk_inj e
    exact (decide_eq_true (by rw [← this]; exact at_mem (by omega))).symm
  have HNo : Hid (∀ k, (∀ j, j < k → rk s (l.getD j 0) < rk s x) → (∀ j, k ≤ j → j < n → rk s x ≤ rk s (l.getD j 0)) → (k < n → rk s (l.getD k 0) ≠ rk s x) → false = bb) := fun k h1 h2 h3 => by
    rw [← hbb]
    refine (decide_eq_false fun hm => ?_).symm
    obtain ⟨j, hj, e⟩ := mem_at hm
    rcases Nat.lt_trichotomy j k with h | h | h
    · have := h1 j h; rw [e] at this; omega
    · subst h
      exact h3 (by omega) (by rw [e])
    · have h4 := ra_at' hr h hj
      have h5 := h3 (by omega)
      have h6 := h2 k (Nat.le_refl _) (by omega)
      rw [e] at h4
      omega
  have HMono : Hid (∀ a b, a < b → b < n → rk s (l.getD a 0) < rk s (l.getD b 0)) := fun a b h1 h2 => ra_at' hr h1 (by omega)
  have HN : Hid (l.length = n) := hn
  rw [hn] at hle hlen
  rw [hbb, hn]
  clear hl hr hX hn hbb
  go_enter Try.func40, Try.ntmps40
  go_wp2_with fail
  go_loopw [9, 10] (fun iv jv wr => ∃ i j : Nat, i ≤ j ∧ j ≤ n ∧ iv = .int .i64 i ∧ jv = .int .i64 j ∧ (∀ k, k < i → rk s (l.getD k 0) < rk s x) ∧ (∀ k, j ≤ k → k < n → rk s x ≤ rk s (l.getD k 0)) ∧ Below w.heap.size w wr) (fun iv jv _ => (intOf jv).toNat - (intOf iv).toNat)
  case atStart => exact ⟨0, n, by omega, by omega, rfl, rfl, fun k hk => by omega, fun k h1 h2 => by omega, Below.refl _ _⟩
  case round =>
    obtain ⟨i, j, hij, hjn, rfl, rfl, h1, h2, hb⟩ := hrel
    have H1 := Lib.hid h1
    have H2 := Lib.hid h2
    have HB := Lib.hid hb
    clear h1 h2 hb
    have HXw : Hid (Boxed wr Bx 22 (.int .u64 (s.toNat : Int))) := (HB.out.block _ (Boxed.lt HX.out)).trans HX.out
    by_cases hlt : i < j
    · obtain ⟨h, hh⟩ : ∃ h, (i + j) / 2 = h := ⟨_, rfl⟩
      have hih : i ≤ h := by omega
      have hhj : h < j := by omega
      obtain ⟨b, off, rfl, _, hcell⟩ := (HL.out.later HB.out).ul.at (by rw [HN.out]; omega)
      have ch := hcell h (by rw [HN.out]; omega)
      have e1 : ((i : Int) + (j : Int)) / 2 = (h : Int) := by omega
      have e2 : IntKind.u64.wrap ((i : Int) + (j : Int)) = (i : Int) + (j : Int) := by rw [IntKind.wrap_u64]; omega
      have hhn : (h : Int) < (n : Int) := by omega
      clear hcell hh
      obtain ⟨y, hy⟩ : ∃ y, l.getD h 0 = y := ⟨_, rfl⟩
      rw [hy] at ch
      have HYY := Lib.hid hy
      clear hy
      have CR := Lib.hid (rank_any s y x Bx wr HXw.out)
      by_cases hyx : rk s y < rk s x
      · have t1 : decide (ord (rk s y) (rk s x) < 0) = true := by rw [ord_lt0]; exact decide_eq_true hyx
        have H1' : Hid (∀ k, k < h + 1 → rk s (l.getD k 0) < rk s x) := fun k hk => by
          rcases Nat.lt_or_ge k h with hkh | hkh
          · have := HMono.out k h hkh (by omega)
            rw [HYY.out] at this
            omega
          · obtain rfl : k = h := by omega
            rw [HYY.out]; exact hyx
        clear hyx
        go_wp2_with fail
        refine CR.out.mono ?_
        rintro e w1 ⟨rfl, q, rfl⟩
        clear CR
        go_wp2
        go_roundw
        case rel => exact ⟨h + 1, j, by omega, by omega, by go_num, rfl, H1'.out, H2.out, below_drewN HB.out _⟩
        case measure => simp [intOf]; omega
      · have t1 : decide (ord (rk s y) (rk s x) < 0) = false := by rw [ord_lt0]; exact decide_eq_false hyx
        have H2' : Hid (∀ k, h ≤ k → k < n → rk s x ≤ rk s (l.getD k 0)) := fun k hk hkn => by
          rcases Nat.eq_or_lt_of_le hk with hkh | hkh
          · subst hkh; rw [HYY.out]; omega
          · have := HMono.out h k hkh hkn
            rw [HYY.out] at this
            omega
        clear hyx
        go_wp2_with fail
        refine CR.out.mono ?_
        rintro e w1 ⟨rfl, q, rfl⟩
        clear CR
        go_wp2
        go_roundw
        case rel => exact ⟨i, h, by omega, by omega, rfl, rfl, H1.out, H2'.out, below_drewN HB.out _⟩
        case measure => simp [intOf]; omega
    · obtain rfl : i = j := by omega
      by_cases hin : i < n
      · obtain ⟨b, off, rfl, _, hcell⟩ := (HL.out.later HB.out).ul.at (by rw [HN.out]; omega)
        have ci := hcell i (by rw [HN.out]; omega)
        clear hcell
        obtain ⟨y, hy⟩ : ∃ y, l.getD i 0 = y := ⟨_, rfl⟩
        rw [hy] at ci
        have CR := Lib.hid (rank_any s y x Bx wr HXw.out)
        have i1 : (i : Int) < (n : Int) := by omega
        have E : Hid (decide (rk s y = rk s x) = bb) := by
          show _ = _
          by_cases he : rk s y = rk s x
          · rw [decide_eq_true he]; exact HY.out i hin (by rw [hy]; exact he)
          · rw [decide_eq_false he]; exact HNo.out i H1.out H2.out (fun _ => by rw [hy]; exact he)
        have hd : (ord (rk s y) (rk s x) == 0) = decide (rk s y = rk s x) := by
          rw [Bool.eq_iff_iff]
          simp [ord_zero]
        rw [← hd] at E
        clear hy hd H1 H2 HY HNo HMono
        go_wp2_with fail
        refine CR.out.mono ?_
        rintro e w1 ⟨rfl, q, rfl⟩
        clear CR
        go_wp2
        go_ret2
        exact ⟨i, by rw [← E.out]; rfl, below_drewN HB.out _⟩
      · have E : Hid (false = bb) := HNo.out i H1.out H2.out (fun h => absurd h hin)
        obtain rfl : i = n := by omega
        clear H1 H2 HY HNo HMono hin
        go_wp2
        go_ret2
        exact ⟨i, by rw [← E.out]; rfl, HB.out⟩
end Go.Proofs.Ytnihcpaakbhpcaa
