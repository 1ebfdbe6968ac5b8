/- alias.open, firstLow. -/
import Derived.Test.YtjhcbjpbmbjgoaaHb
namespace Go.Proofs.Ytjhcbjpbmbjgoaa
open Go.RowKit Go.Deep

/-- The first so many entries are laid. -/
def partA (W : List Int) (k : Nat) : AT := (List.range W.length).map fun i => if i < k then (W.getD i 0 * (W.length : Int), (i : Int)) else (0, 0)
theorem partA_len (W : List Int) (k : Nat) : (partA W k).length = W.length := by simp [partA]
theorem partA_zero (W : List Int) : partA W 0 = List.replicate W.length (0, 0) := by
  apply List.ext_getElem?
  intro i
  by_cases h : i < W.length <;> simp [partA, h]
theorem partA_all (W : List Int) : partA W W.length = initA W := by
  unfold partA initA
  apply List.map_congr_left
  intro i hi
  rw [if_pos (List.mem_range.1 hi)]
theorem partA_set {W : List Int} {k : Nat} (hk : k < W.length) : (partA W k).set k (W.getD k 0 * (W.length : Int), (k : Int)) = partA W (k + 1) := by
  apply List.ext_getElem?
  intro i
  by_cases h : i < W.length
  · by_cases e : k = i
    · subst e; simp [partA, h]
    · by_cases h2 : i < k
      · simp [partA, h, List.getElem?_set, e, h2, show i < k + 1 by omega]
      · simp [partA, h, List.getElem?_set, e, h2, show ¬ i < k + 1 by omega]
  · simp [partA, h, List.getElem?_set]
theorem mul_bound {x : Int} {n : Nat} (h1 : 0 ≤ x) (h2 : x ≤ 1048576) (h3 : n ≤ 400) : 0 ≤ x * (n : Int) ∧ x * (n : Int) ≤ 419430400 := by
  constructor
  · exact Int.mul_nonneg h1 (by omega)
  · have : x * (n : Int) ≤ 1048576 * (n : Int) := Int.mul_le_mul_of_nonneg_right h2 (by omega)
    omega

theorem run_makeA (n : Nat) (hn : n ≤ 1000) (w : World) : (Instr.makeSlice 53 (.int .i64 (n : Int)) (.int .i64 (n : Int))).run Try.prog w = .ok (.slice (some ⟨w.heap.size, 0, none⟩) n n) (w.alloc (.cells (madeCells #[.int .i64 0, .int .i64 0] (n * 2)) 41)) := by
  obtain ⟨i, hi, hz, hs, hb⟩ := info_parts info_alias
  have hr := run_make (P := Try.prog) w 53 41 i _ Try.underlying53 hi hz .i64 .i64 n n (by omega) (Int.le_refl _) (by rw [hb]; omega) (by omega)
  simp only [Int.toNat_natCast, hs] at hr
  exact hr

set_option maxRecDepth 100000 in
set_option maxHeartbeats 1000000 in
theorem open_any (A : Option Addr) (ca : Nat) (W : List Int) (w : World) (hW : IP w A ca W) (hR : WR W) :
    Calls Try.prog 26 #[.slice A W.length ca] w fun e w' => e = .returned (.slice (some ⟨w.heap.size, 0, none⟩) W.length W.length) ∧ AB w' w.heap.size (initA W) ∧ Below w.heap.size w w' := by
  have hle := hW.le
  have hcap := hW.cap
  have hn0 := hR.1
  have hn4 := hR.2.1
  have HR := Lib.hid hR.2.2
  have HW := Lib.hid hW
  have hmk := run_makeA W.length (by omega)
  have HA : Hid (AB (w.alloc (.cells (madeCells #[.int .i64 0, .int .i64 0] (W.length * 2)) 41)) w.heap.size (partA W 0)) := by
    show AB _ _ _
    rw [partA_zero]; exact AB.made w W.length
  clear hW hR
  go_enter Try.func26, Try.ntmps26
  go_wp2_with fail
  go_loopw [11] (fun iv wr => ∃ k : Nat, k ≤ W.length ∧ iv = .int .i64 k ∧ AB wr w.heap.size (partA W k) ∧ Below w.heap.size w wr) (fun iv _ => W.length - (intOf iv).toNat)
  case atStart => exact ⟨0, by omega, rfl, HA.out, (Below.refl _ _).alloc (Nat.le_refl _) _⟩
  case round =>
    clear HA hmk
    obtain ⟨k, hk, rfl, hAB, hB⟩ := hrel
    have HAB := Lib.hid hAB
    have HB := Lib.hid hB
    clear hAB hB
    by_cases hlt : k < W.length
    · obtain ⟨b, off, rfl, _, hcell⟩ := (HW.out.il.later HB.out).at (by omega)
      have hci := hcell k hlt
      have hx := HR.out _ (memW hlt)
      have hm := mul_bound hx.1 hx.2 hn4
      have hf0 := HAB.out.frozen (k * 2)
      have hf1 := HAB.out.frozen (k * 2 + 1)
      obtain ⟨e0, e1⟩ := HAB.out.at (i := k) (by rw [partA_len]; exact hlt)
      have HN : Hid (AB ((wr.setCell ⟨w.heap.size, k * 2, none⟩ (.int .i64 (W.getD k 0 * (W.length : Int)))).setCell ⟨w.heap.size, k * 2 + 1, none⟩ (.int .i64 (k : Int))) w.heap.size (partA W (k + 1))) := by
        show AB _ _ _
        rw [← partA_set hlt]
        exact HAB.out.set (by rw [partA_len]; exact hlt) _ _
      have HBN : Hid (Below w.heap.size w ((wr.setCell ⟨w.heap.size, k * 2, none⟩ (.int .i64 (W.getD k 0 * (W.length : Int)))).setCell ⟨w.heap.size, k * 2 + 1, none⟩ (.int .i64 (k : Int)))) := (HB.out.setCell (Nat.le_refl _) _).setCell (Nat.le_refl _) _
      clear hcell
      generalize W.getD k 0 = x at *
      go_wp2
      go_roundw
      case rel => exact ⟨k + 1, by omega, by go_num, HN.out, HBN.out⟩
      case measure => simp [intOf]; omega
    · obtain rfl : k = W.length := by omega
      have HE : Hid (AB wr w.heap.size (initA W)) := by show AB _ _ _; rw [← partA_all]; exact HAB.out
      go_wp2
      go_ret
      exact ⟨rfl, HE.out, HB.out⟩
end Go.Proofs.Ytjhcbjpbmbjgoaa
