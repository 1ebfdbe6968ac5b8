/- lotdrawerkeep.AliasLike: the walk. -/
import Derived.Test.YtjhcbjpbmbjgoaaH9
import Derived.Test.YtjhcbjpbmbjgoaaRpt
namespace Go.Proofs.Ytjhcbjpbmbjgoaa
open Go.RowKit Go.Deep

theorem like_at {n k : Nat} {x : Int} (h : k < n) : (List.replicate n x).getD k 0 = x := by simp [List.getD_eq_getElem?_getD, h]
theorem like_sum (x : Int) : ∀ n : Nat, sumW (List.replicate n x) = (n : Int) * x
  | 0 => by simp [sumW]
  | n + 1 => by rw [List.replicate_succ, sumW, like_sum x n]; push_cast; rw [Int.add_mul]; omega
theorem like_ok {n : Nat} {x : Int} (h1 : 1 ≤ n) (h2 : n ≤ 400) (h3 : 1 ≤ x) (h4 : x ≤ 1048576) : WR (List.replicate n x) ∧ (sumC (List.replicate n x)).2 = 0 := by
  have hw : WR (List.replicate n x) := ⟨by simp; omega, by simp; omega, fun y hy => by rw [(List.mem_replicate.1 hy).2]; omega⟩
  refine ⟨hw, ?_⟩
  unfold sumC
  have hs : sumW (List.replicate n x) ≠ 0 := by
    rw [like_sum]
    have : 0 < (n : Int) * x := Int.mul_pos (by omega) (by omega)
    omega
  rw [if_pos hw, if_neg hs]
theorem like_make {n : Nat} {x : Int} : makeA (List.replicate n x) = initA (List.replicate n x) := by
  unfold makeA
  refine runA_stop ?_
  rintro ⟨h, _⟩
  rcases lo_cases (sumW (List.replicate n x)) (initA (List.replicate n x)) with ⟨h1, _⟩ | ⟨L, h1, h2, h3, h4⟩
  · omega
  · rw [initA_len, List.length_replicate] at h2
    unfold lev at h4
    rw [initA_at (by simpa using h2), like_at h2, like_sum, List.length_replicate, Int.mul_comm] at h4
    simp at h4
theorem like_lev {n k : Nat} {x : Int} (h : k < n) : lev (makeA (List.replicate n x)) k = (n : Int) * x ∧ too (makeA (List.replicate n x)) k = k := by
  rw [like_make]
  unfold lev too
  rw [initA_at (by simpa using h), like_at h, List.length_replicate, Int.mul_comm]
  exact ⟨rfl, rfl⟩

set_option maxRecDepth 100000 in
set_option maxHeartbeats 4000000 in
theorem aliasLike_walk (n x : Int) (w : World) :
    Calls Try.prog 7 #[.int .i64 n, .int .i64 x] w fun e w' => e = .returned (.bool true) ∧ Below w.heap.size w w' := by
  have CA := Lib.hid (alive8_any w)
  go_enter Try.func7, Try.ntmps7
  go_wp2_with fail
  refine CA.out.mono ?_
  rintro e w1 ⟨rfl, hb1⟩
  have HB := Lib.hid hb1
  clear CA hb1
  rcases (show n < 1 ∨ (1 ≤ n ∧ 400 < n) ∨ (1 ≤ n ∧ n ≤ 400 ∧ x < 1) ∨ (1 ≤ n ∧ n ≤ 400 ∧ 1 ≤ x ∧ 1048576 < x) ∨ (1 ≤ n ∧ n ≤ 400 ∧ 1 ≤ x ∧ x ≤ 1048576) by omega) with h | ⟨h1, h⟩ | ⟨h1, h2, h⟩ | ⟨h1, h2, h3, h⟩ | ⟨h1, h2, h3, h4⟩
  case inr.inr.inr.inr =>
    obtain ⟨N, rfl⟩ : ∃ N : Nat, n = N := ⟨n.toNat, by omega⟩
    obtain ⟨hR, hs⟩ := like_ok (n := N) (x := x) (by omega) (by omega) h3 h4
    have b1 : Below w1.heap.size w1 (w1.alloc (.cells #[.int .i64 x] 3)) := (Below.refl _ _).alloc (Nat.le_refl _) _
    have CR := Lib.hid (repeat_any (some ⟨w1.heap.size, 0, none⟩) 1 N x (w1.alloc (.cells #[.int .i64 x] 3)) (ip_lit w1 [x] (by simp)) (by omega) (by omega))
    rw [show (w1.alloc (.cells #[.int .i64 x] 3)).heap.size = w1.heap.size + 1 by simp] at CR
    have HB1 := Lib.hid (HB.out.trans (b1.mono HB.out.size))
    have HSU := Lib.hid hs
    have hml : Hid ((makeA (List.replicate N x)).length = N) := by show _ = _; rw [makeA_len hR.nonneg, List.length_replicate]
    have hm := mul_bound (x := x) (n := N) (by omega) h4 (by omega)
    rw [Int.mul_comm] at hm
    have d1 : decide ((N : Int) < 1) = false := by rw [decide_eq_false_iff_not]; omega
    have d2 : decide (400 < (N : Int)) = false := by rw [decide_eq_false_iff_not]; omega
    have d3 : decide (x < 1) = false := by rw [decide_eq_false_iff_not]; omega
    have d4 : decide (1048576 < x) = false := by rw [decide_eq_false_iff_not]; omega
    clear hR hs b1
    go_wp2_with fail
    clear d1 d2 d3 d4
    refine CR.out.mono ?_
    rintro e w2 ⟨rfl, hG, hb2⟩
    have hip := hG.ip (by simp; omega)
    rw [List.length_replicate] at hip
    have CM := Lib.hid (make_ok _ N (List.replicate N x) w2 hip HSU.out)
    rw [List.length_replicate] at CM
    have HB2 := Lib.hid (HB1.out.trans (hb2.mono (by have := HB.out.size; omega)))
    clear hG hb2 CR hip
    go_wp2_with fail
    refine CM.out.mono ?_
    rintro e w3 ⟨R, cr, rfl, hA, hb3⟩
    have HB3 := Lib.hid (HB2.out.trans (hb3.mono HB2.out.size))
    have hle := hA.le
    have hcap := hA.cap
    have HA := Lib.hid hA
    rw [hml.out] at hle
    clear hA hb3 CM
    go_wp2_with fail
    go_loopw [35] (fun iv wr => ∃ k : Nat, k ≤ N ∧ iv = .int .i64 k ∧ Below w3.heap.size w3 wr) (fun iv _ => N - (intOf iv).toNat)
    case atStart => exact ⟨0, by omega, rfl, Below.refl _ _⟩
    case round =>
      obtain ⟨k, hk, rfl, hB⟩ := hrel
      have HBr := Lib.hid hB
      clear hB
      by_cases hlt : k < N
      · obtain ⟨b, off, rfl, _, hcell⟩ := (HA.out.later HBr.out).il (by rw [hml.out]; omega)
        obtain ⟨c0, c1⟩ := hcell k (by rw [hml.out]; exact hlt)
        obtain ⟨e0, e1⟩ := like_lev (x := x) hlt
        rw [e0] at c0
        rw [e1] at c1
        obtain ⟨z, hz⟩ : ∃ z, (N : Int) * x = z := ⟨_, rfl⟩
        rw [hz] at c0 hm
        have HBN : Hid (Below w3.heap.size w3 (wr.alloc (.cells #[.int .i64 z, .int .i64 k] 41))) := HBr.out.alloc HBr.out.size _
        clear hcell e0 e1
        go_wp2
        go_roundw
        case rel => exact ⟨k + 1, by omega, by go_num, HBN.out⟩
        case measure => simp [intOf]; omega
      · obtain rfl : k = N := by omega
        have HBe := Lib.hid (HB3.out.trans (HBr.out.mono HB3.out.size))
        go_wp2
        go_ret
        exact ⟨rfl, HBe.out⟩
  all_goals
    go_wp2
    go_ret
    exact ⟨rfl, HB.out⟩
end Go.Proofs.Ytjhcbjpbmbjgoaa
