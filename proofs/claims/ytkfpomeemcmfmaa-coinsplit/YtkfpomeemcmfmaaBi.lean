/- lotdrawerref.Bits. -/
import Derived.Test.YtkfpomeemcmfmaaTv
import Derived.Deep.OwnRows
namespace Go.Proofs.Ytkfpomeemcmfmaa
open Go.RowKit Go.Deep

/-- The lowest n bits of x, the greatest one first. -/
def bitsOf (x : Nat) : Nat → List Bool
  | 0 => []
  | n + 1 => bitsOf (x / 2) n ++ [x % 2 == 1]
theorem bitsOf_len (x : Nat) : ∀ n, (bitsOf x n).length = n
  | 0 => rfl
  | n + 1 => by rw [bitsOf, List.length_append, bitsOf_len]; rfl

/-- What stands in the loop of Bits: k bits are still to be laid. -/
def BitRel (w : World) (x n k y : Nat) (wr : World) : Prop :=
  ∃ suf : List Bool, suf.length + k = n ∧ bitsOf x n = bitsOf y k ++ suf ∧ Bs 4 wr w.heap.size (bvs (List.replicate k false ++ suf)) ∧ Below w.heap.size w wr
theorem bitRel_start (w : World) (x n : Nat) : BitRel w x n n x (w.alloc (.cells (madeCells #[.bool false] n) 4)) := by
  refine ⟨[], by simp, by simp, ?_, (Below.refl _ _).alloc (Nat.le_refl _) _⟩
  have := Bs.made 4 w (.bool false) n
  simpa [bvs] using this
theorem bitRel_step {w wr : World} {x n k y : Nat} (h : BitRel w x n (k + 1) y wr) : BitRel w x n k (y / 2) (wr.setCell ⟨w.heap.size, k, none⟩ (.bool (y % 2 == 1))) := by
  obtain ⟨suf, hl, he, hB, hb⟩ := h
  refine ⟨(y % 2 == 1) :: suf, by simp; omega, by rw [he, bitsOf]; simp, ?_, hb.setCell (Nat.le_refl _) _⟩
  have := hB.set k (.bool (y % 2 == 1))
  have e : (bvs (List.replicate (k + 1) false ++ suf)).set k (.bool (y % 2 == 1)) = bvs (List.replicate k false ++ (y % 2 == 1) :: suf) := by
    unfold bvs
    rw [← List.map_set (f := Value.bool)]
    congr 1
    rw [List.replicate_succ', List.append_assoc, List.set_append_right _ _ (by simp)]
    simp
  rw [e] at this
  exact this
theorem bitRel_cell {w wr : World} {x n k y : Nat} (h : BitRel w x n (k + 1) y wr) : (∃ v, wr.cell? ⟨w.heap.size, k, none⟩ = some (.bool v)) ∧ wr.frozen? ⟨w.heap.size, k, none⟩ = false := by
  obtain ⟨suf, hl, he, hB, hb⟩ := h
  refine ⟨⟨(List.replicate (k + 1) false ++ suf).getD k false, ?_⟩, hB.frozen k⟩
  rw [hB.cell (by simp [bvs]; omega), bvs_at (by simp; omega)]
theorem bitRel_end {w wr : World} {x n y : Nat} (h : BitRel w x n 0 y wr) : Bs 4 wr w.heap.size (bvs (bitsOf x n)) ∧ Below w.heap.size w wr := by
  obtain ⟨suf, hl, he, hB, hb⟩ := h
  rw [he]
  exact ⟨by simpa [bitsOf] using hB, hb⟩

theorem odd_eq (y : Nat) : (((y : Int) % 2) == 1) = (y % 2 == 1) := by
  rw [Bool.eq_iff_iff]; simp; omega

set_option maxHeartbeats 1000000 in
theorem bits_any (x n : Nat) (w : World) (hx : x ≤ 4611686018427387904) (hn : n ≤ 1000) :
    Calls Try.prog 18 #[.int .i64 x, .int .i64 n] w fun e w' => e = .returned (.slice (some ⟨w.heap.size, 0, none⟩) n n) ∧ Bs 4 w' w.heap.size (bvs (bitsOf x n)) ∧ Below w.heap.size w w' := by
  have hmk := run_make_row' (P := Try.prog) 22 4 (.bool false) 1 Try.underlying22 info_bool rfl .i64 .i64 n (by omega) (by omega)
  have HS := Lib.hid (bitRel_start w x n)
  go_enter Try.func18, Try.ntmps18
  go_wp2_with fail
  go_loopw [0, 6] (fun yv kv wr => ∃ k y : Nat, k ≤ n ∧ y ≤ x ∧ yv = .int .i64 y ∧ kv = .int .i64 ((k : Int) - 1) ∧ BitRel w x n k y wr) (fun _ kv _ => (intOf kv + 1).toNat)
  case atStart => exact ⟨n, x, by omega, by omega, rfl, rfl, HS.out⟩
  case round =>
    clear HS hmk
    obtain ⟨k, y, hk, hy, rfl, rfl, hR⟩ := hrel
    have HR := Lib.hid hR
    clear hR
    by_cases hk0 : k = 0
    · subst hk0
      have E := Lib.hid (bitRel_end HR.out)
      go_wp2
      go_ret
      exact ⟨rfl, E.out.1, E.out.2⟩
    · obtain ⟨m, rfl⟩ : ∃ m, k = m + 1 := ⟨k - 1, by omega⟩
      obtain ⟨⟨v, hc⟩, hf⟩ := bitRel_cell HR.out
      have E := Lib.hid (bitRel_step HR.out)
      rw [← odd_eq] at E
      have em : ((m + 1 : Nat) : Int) - 1 = (m : Int) := by omega
      rw [em]
      clear HR em
      go_wp2
      go_roundw
      case rel => exact ⟨m, y / 2, by omega, by omega, by go_num, by go_num, E.out⟩
      case measure => simp [intOf]

/-- What Bits makes is a tape. -/
theorem bits_tp {x n : Nat} {w : World} {g : Nat} (hn : n ≤ 1000) (h : Bs 4 w g (bvs (bitsOf x n))) : TP w (some ⟨g, 0, none⟩) n (bitsOf x n) :=
  ⟨h.vs, by rw [bitsOf_len]; exact Nat.le_refl _, by omega, by rw [bitsOf_len]; omega, fun h => by cases h⟩
theorem ip_new (w : World) (l : List Int) (hl : l.length ≤ 1000) : IP (w.alloc (.cells (ivs l).toArray 3)) (some ⟨w.heap.size, 0, none⟩) l.length l :=
  ⟨Bs.vs (T := 3) (heap_alloc_new w _), Nat.le_refl _, by omega, fun h => by cases h⟩

end Go.Proofs.Ytkfpomeemcmfmaa
