/- lotdrawerref.Bits and lotdrawerkeep.alive2. -/
import Derived.Test.YtdfhlmacdgmpmaaT4
import Derived.Test.YtdfhlmacdgmpmaaT5
import Derived.Test.YtdfhlmacdgmpmaaT6
namespace Go.Proofs.Ytdfhlmacdgmpmaa
open Go.RowKit Go.Deep

/-- The lowest n bits of x, the greatest one first. -/
def bitsOf (x : Nat) : Nat → List Bool
  | 0 => []
  | n + 1 => bitsOf (x / 2) n ++ [x % 2 == 1]
theorem bitsOf_len (x : Nat) : ∀ n, (bitsOf x n).length = n
  | 0 => rfl
  | n + 1 => by rw [bitsOf, List.length_append, bitsOf_len]; rfl

/-- What stands in the loop of Bits: k bits are still to be laid. -/
def BitRel (w : World) (x n k y : Nat) (wr : World) : Prop :=
  ∃ suf : List Bool, suf.length + k = n ∧ bitsOf x n = bitsOf y k ++ suf ∧ Bs 4 wr w.heap.size (bvs (List.replicate k false ++ suf)) ∧ Below w.heap.size w wr
theorem bitRel_start (w : World) (x n : Nat) : BitRel w x n n x (w.alloc (.cells (madeCells #[.bool false] n) 4)) := by
  refine ⟨[], by simp, by simp, ?_, (Below.refl _ _).alloc (Nat.le_refl _) _⟩
  have := Bs.made 4 w (.bool false) n
  simpa [bvs] using this
theorem bitRel_step {w wr : World} {x n k y : Nat} (h : BitRel w x n (k + 1) y wr) : BitRel w x n k (y / 2) (wr.setCell ⟨w.heap.size, k, none⟩ (.bool (y % 2 == 1))) := by
  obtain ⟨suf, hl, he, hB, hb⟩ := h
  refine ⟨(y % 2 == 1) :: suf, by simp; omega, by rw [he, bitsOf]; simp, ?_, hb.setCell (Nat.le_refl _) _⟩
  have := hB.set k (.bool (y % 2 == 1))
  have e : (bvs (List.replicate (k + 1) false ++ suf)).set k (.bool (y % 2 == 1)) = bvs (List.replicate k false ++ (y % 2 == 1) :: suf) := by
    unfold bvs
    rw [← List.map_set (f := Value.bool)]
    congr 1
    rw [List.replicate_succ', List.append_assoc, List.set_append_right _ _ (by simp)]
    simp
  rw [e] at this
  exact this
theorem bitRel_cell {w wr : World} {x n k y : Nat} (h : BitRel w x n (k + 1) y wr) : (∃ v, wr.cell? ⟨w.heap.size, k, none⟩ = some (.bool v)) ∧ wr.frozen? ⟨w.heap.size, k, none⟩ = false := by
  obtain ⟨suf, hl, he, hB, hb⟩ := h
  refine ⟨⟨(List.replicate (k + 1) false ++ suf).getD k false, ?_⟩, hB.frozen k⟩
  rw [hB.cell (by simp [bvs]; omega), bvs_at (by simp; omega)]
theorem bitRel_end {w wr : World} {x n y : Nat} (h : BitRel w x n 0 y wr) : Bs 4 wr w.heap.size (bvs (bitsOf x n)) ∧ Below w.heap.size w wr := by
  obtain ⟨suf, hl, he, hB, hb⟩ := h
  rw [he]
  exact ⟨by simpa [bitsOf] using hB, hb⟩

theorem odd_eq (y : Nat) : (((y : Int) % 2) == 1) = (y % 2 == 1) := by
  rw [Bool.eq_iff_iff]; simp; omega

set_option maxHeartbeats 1000000 in
theorem bits_any (x n : Nat) (w : World) (hx : x ≤ 4611686018427387904) (hn : n ≤ 1000) :
    Calls Try.prog 16 #[.int .i64 x, .int .i64 n] w fun e w' => e = .returned (.slice (some ⟨w.heap.size, 0, none⟩) n n) ∧ Bs 4 w' w.heap.size (bvs (bitsOf x n)) ∧ Below w.heap.size w w' := by
  have hmk := run_make_row' (P := Try.prog) 22 4 (.bool false) 1 Try.underlying22 info_bool rfl .i64 .i64 n (by omega) (by omega)
  have HS := Lib.hid (bitRel_start w x n)
  go_enter Try.func16, Try.ntmps16
  go_wp2_with fail
  go_loopw [0, 6] (fun yv kv wr => ∃ k y : Nat, k ≤ n ∧ y ≤ x ∧ yv = .int .i64 y ∧ kv = .int .i64 ((k : Int) - 1) ∧ BitRel w x n k y wr) (fun _ kv _ => (intOf kv + 1).toNat)
  case atStart => exact ⟨n, x, by omega, by omega, rfl, rfl, HS.out⟩
  case round =>
    clear HS hmk
    obtain ⟨k, y, hk, hy, rfl, rfl, hR⟩ := hrel
    have HR := Lib.hid hR
    clear hR
    by_cases hk0 : k = 0
    · subst hk0
      have E := Lib.hid (bitRel_end HR.out)
      go_wp2
      go_ret
      exact ⟨rfl, E.out.1, E.out.2⟩
    · obtain ⟨m, rfl⟩ : ∃ m, k = m + 1 := ⟨k - 1, by omega⟩
      obtain ⟨⟨v, hc⟩, hf⟩ := bitRel_cell HR.out
      have E := Lib.hid (bitRel_step HR.out)
      rw [← odd_eq] at E
      have em : ((m + 1 : Nat) : Int) - 1 = (m : Int) := by omega
      rw [em]
      clear HR em
      go_wp2
      go_roundw
      case rel => exact ⟨m, y / 2, by omega, by omega, by go_num, by go_num, E.out⟩
      case measure => simp [intOf]

/-- What Bits makes is a tape. -/
theorem bits_tp {x n : Nat} {w : World} {g : Nat} (hn : n ≤ 1000) (h : Bs 4 w g (bvs (bitsOf x n))) : TP w (some ⟨g, 0, none⟩) n (bitsOf x n) :=
  ⟨h.vs, by rw [bitsOf_len]; exact Nat.le_refl _, by omega, by rw [bitsOf_len]; omega, fun h => by cases h⟩
theorem ip_new (w : World) (l : List Int) (hl : l.length ≤ 1000) : IP (w.alloc (.cells (ivs l).toArray 3)) (some ⟨w.heap.size, 0, none⟩) l.length l :=
  ⟨Bs.vs (T := 3) (heap_alloc_new w _), Nat.le_refl _, by omega, fun h => by cases h⟩

theorem val1 : bel (bitsOf 53 6) 6 = (5, 6, 0) := by decide +kernel
theorem val2 : fair (bitsOf 14 4) = (true, 4, 0) := by decide +kernel
theorem val3 : mny (bitsOf 9 4) [2, 1, 4] = ([1, 0, 0], 3, 0) := by decide +kernel

set_option maxRecDepth 100000 in
set_option maxHeartbeats 2000000 in
theorem alive2_any (w : World) :
    Calls Try.prog 15 #[] w fun e w' => e = .returned (.bool true) ∧ Below w.heap.size w w' := by
  have C1 := Lib.hid (bits_any 53 6 w (by omega) (by omega))
  go_enter Try.func15, Try.ntmps15
  go_wp2_with fail
  refine C1.out.mono ?_
  rintro e w1 ⟨rfl, hB1, hb1⟩
  have C2 := Lib.hid (below_any _ _ _ 6 _ (bits_tp (by omega) hB1))
  rw [val1, bitsOf_len] at C2
  unfold tup at C2
  have HB1 := Lib.hid hb1
  clear hB1 hb1 C1
  go_wp2_with fail
  refine C2.out.mono ?_
  rintro e w' ⟨rfl, rfl⟩
  clear C2
  have C3 := Lib.hid (bits_any 14 4 w1 (by omega) (by omega))
  go_wp2_with fail
  refine C3.out.mono ?_
  rintro e w2 ⟨rfl, hB2, hb2⟩
  have C4 := Lib.hid (fair_any _ _ _ _ (bits_tp (by omega) hB2))
  rw [val2, bitsOf_len] at C4
  unfold ftup at C4
  have HB2 : Hid (Below w.heap.size w w2) := HB1.out.trans (hb2.mono HB1.out.size)
  clear hB2 hb2 C3 HB1
  go_wp2_with fail
  refine C4.out.mono ?_
  rintro e w3 ⟨rfl, hb3⟩
  have HB3 : Hid (Below w.heap.size w w3) := HB2.out.trans (hb3.mono HB2.out.size)
  clear hb3 C4 HB2
  have C5 := Lib.hid (bits_any 9 4 w3 (by omega) (by omega))
  go_wp2_with fail
  refine C5.out.mono ?_
  rintro e w4 ⟨rfl, hB4, hb4⟩
  have HB4 : Hid (Below w.heap.size w w4) := HB3.out.trans (hb4.mono HB3.out.size)
  have hal : Below w4.heap.size w4 (w4.alloc (.cells #[.int .i64 2, .int .i64 1, .int .i64 4] 3)) := (Below.refl _ _).alloc (Nat.le_refl _) _
  have C6 := Lib.hid (many_any _ (some ⟨w4.heap.size, 0, none⟩) _ 3 _ [2, 1, 4] _ ((bits_tp (by omega) hB4).later hal) (ip_new w4 [2, 1, 4] (by simp)) (by simp))
  rw [val3, bitsOf_len] at C6
  have HB5 : Hid (Below w.heap.size w (w4.alloc (.cells #[.int .i64 2, .int .i64 1, .int .i64 4] 3))) := HB4.out.trans (hal.mono HB4.out.size)
  clear hal hB4 hb4 C5 HB3 HB4
  go_wp2_with fail
  refine C6.out.mono ?_
  rintro e w6 ⟨R6, c6, rfl, hI6, hb6⟩
  have HB6 : Hid (Below w.heap.size w w6) := HB5.out.trans (hb6.mono HB5.out.size)
  have hal : Below w6.heap.size w6 (w6.alloc (.cells #[.int .i64 1, .int .i64 0, .int .i64 0] 3)) := (Below.refl _ _).alloc (Nat.le_refl _) _
  have C7 := Lib.hid (equal_any R6 (some ⟨w6.heap.size, 0, none⟩) c6 3 [1, 0, 0] [1, 0, 0] _ (hI6.later hal).il (ip_new w6 [1, 0, 0] (by simp)).il (by simp) (by simp))
  have HB7 : Hid (Below w.heap.size w (w6.alloc (.cells #[.int .i64 1, .int .i64 0, .int .i64 0] 3))) := HB6.out.trans (hal.mono HB6.out.size)
  simp only [decide_true] at C7
  unfold mtup
  clear hal hI6 hb6 C6 HB5 HB6
  go_wp2_with fail
  refine C7.out.mono ?_
  rintro e w8 ⟨rfl, hb8⟩
  have HB8 : Hid (Below w.heap.size w w8) := HB7.out.trans (hb8.mono HB7.out.size)
  clear hb8 HB7 C7
  go_wp2
  go_ret
  exact ⟨rfl, HB8.out⟩
end Go.Proofs.Ytdfhlmacdgmpmaa
