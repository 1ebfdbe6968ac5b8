/- slices.reverseRangeOrdered, partitionEqualOrdered of words. -/
import Derived.Test.YtnihcpaakbhpcaaSo2
namespace Go.Proofs.Ytnihcpaakbhpcaa
open Go.RowKit Go.Deep

set_option maxRecDepth 100000 in
set_option maxHeartbeats 2000000 in
theorem reverseR_any (B g cap n a b : Nat) (l : List W64) (w : World) (hO : OU w B (.slice (some ⟨g, 0, none⟩) n cap) l) (hn : l.length = n) (hB : B ≤ g) (hab : a < b) (hb : b ≤ n) (hs : n ≤ 17592186044416) :
    Calls Try.prog 72 #[.slice (some ⟨g, 0, none⟩) n cap, .int .i64 a, .int .i64 b] w (SPost w B (.slice (some ⟨g, 0, none⟩) n cap) a b l fun _ => True) := by
  have HO := Lib.hid hO
  have HN := Lib.hid hn
  have HGB := Lib.hid hB
  clear hO hn hB
  go_enter Try.func72, Try.ntmps72
  go_wp2_with fail
  go_loopw [6, 7] (fun iv jv wr => ∃ (i j : Nat) (l' : List W64), a ≤ i ∧ i ≤ j + 1 ∧ j < b ∧ iv = .int .i64 i ∧ jv = .int .i64 j ∧ Sw a b l l' ∧ OU wr B (.slice (some ⟨g, 0, none⟩) n cap) l' ∧ Below B w wr) (fun iv jv _ => (intOf jv).toNat + 1 - (intOf iv).toNat)
  case atStart => exact ⟨a, b - 1, l, by omega, by omega, by omega, rfl, by go_num, .refl _, HO.out, Below.refl _ _⟩
  case round =>
    obtain ⟨i, j, l1, hi1, hi2, hi3, rfl, rfl, hS, hO1, hb1⟩ := hrel
    have HS := Lib.hid hS
    have HO1 := Lib.hid hO1
    have HB1 := Lib.hid hb1
    have HL1 := Lib.hid (hS.len.trans HN.out)
    clear hS hO1 hb1 HO
    by_cases hlt : i < j
    · have HF2 := Lib.hid (OU.swapF (w := wr) (i := i) (j := j) HO1.out (by have := HL1.out; omega) (by have := HL1.out; omega))
      have f1 := HO1.out.frozen i
      have f3 := HO1.out.frozen j
      have c1 := HO1.out.at (i := i) (by have := HL1.out; omega)
      have c2 := HO1.out.at (i := j) (by have := HL1.out; omega)
      have HO3 := Lib.hid (HO1.out.swap i j)
      have HS3 := Lib.hid (HS.out.step (i := i) (j := j) (by omega) (by omega) (by omega) (by omega) (by have := HL1.out; omega))
      generalize sw l1 i j = l3 at *
      generalize l1.getD j 0 = x at *
      generalize l1.getD i 0 = z at *
      have i1 : (j : Int) < (n : Int) := by omega
      have i2 : (i : Int) < (n : Int) := by omega
      go_wp2
      obtain ⟨_, _, _, f2, y, c3⟩ := HF2.out
      go_region
      go_wp2
      go_roundw
      case rel => trace_state; exact ⟨i + 1, j - 1, l3, by omega, by omega, by omega, by go_num, by go_num, HS3.out, HO3.out, below_swap (below_drewN HB1.out 1) HGB.out _ _ _ _⟩
      case measure => simp [intOf]; omega
    · go_wp2
      go_end0
      exact ⟨l1, rfl, HS.out, trivial, HO1.out, HB1.out⟩
end Go.Proofs.Ytnihcpaakbhpcaa
