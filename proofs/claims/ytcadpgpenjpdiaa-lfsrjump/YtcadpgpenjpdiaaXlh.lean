/- lotdrawerkeep.LfsrJump. -/
import Derived.Test.YtcadpgpenjpdiaaXlg
namespace Go.Proofs.Ytcadpgpenjpdiaa
open Go.RowKit Go.Deep

set_option maxRecDepth 100000 in
set_option maxHeartbeats 2000000 in
theorem lfsrJump_out (n : Int) (t x : Nat) (A B : Int) (h : A < 0 ∨ B < 0 ∨ 1073741824 < A ∨ 1073741824 < B) (w : World) : Calls Try.prog 7 #[.int .i64 n, .int .u32 (t : Int), .int .u32 (x : Int), .int .i64 A, .int .i64 B] w fun e w' => e = .returned (.bool true) ∧ Below w.heap.size w w' := by
  have CA := Lib.hid alive14_any
  by_cases h1 : A < 0
  · clear h
    go_enter Try.func7, Try.ntmps7
    go_wp2_with fail
    refine (CA.out _).mono ?_
    rintro e w1 ⟨rfl, hb1⟩
    have HB1 := Lib.hid hb1
    clear hb1
    go_wp2
    go_ret
    exact ⟨rfl, HB1.out⟩
  · by_cases h2 : B < 0
    · clear h
      go_enter Try.func7, Try.ntmps7
      go_wp2_with fail
      refine (CA.out _).mono ?_
      rintro e w1 ⟨rfl, hb1⟩
      have HB1 := Lib.hid hb1
      clear hb1
      go_wp2
      go_ret
      exact ⟨rfl, HB1.out⟩
    · by_cases h3 : 1073741824 < A
      · clear h
        go_enter Try.func7, Try.ntmps7
        go_wp2_with fail
        refine (CA.out _).mono ?_
        rintro e w1 ⟨rfl, hb1⟩
        have HB1 := Lib.hid hb1
        clear hb1
        go_wp2
        go_ret
        exact ⟨rfl, HB1.out⟩
      · have h4 : 1073741824 < B := by omega
        clear h
        go_enter Try.func7, Try.ntmps7
        go_wp2_with fail
        refine (CA.out _).mono ?_
        rintro e w1 ⟨rfl, hb1⟩
        have HB1 := Lib.hid hb1
        clear hb1
        go_wp2
        go_ret
        exact ⟨rfl, HB1.out⟩

set_option maxRecDepth 100000 in
set_option maxHeartbeats 2000000 in
theorem lfsrJump_bad (n : Int) (t x : Nat) (A B : Nat) (ht : t < 4294967296) (hx : x < 4294967296) (h : ¬ OKh n t x) (hA : A ≤ 1073741824) (hB : B ≤ 1073741824) (w : World) : Calls Try.prog 7 #[.int .i64 n, .int .u32 (t : Int), .int .u32 (x : Int), .int .i64 (A : Int), .int .i64 (B : Int)] w fun e w' => e = .returned (.bool true) ∧ Below w.heap.size w w' := by
  have CA := Lib.hid alive14_any
  have C1 := Lib.hid (fun w => jump_bad ht hx h (A : Int) w)
  clear h
  go_enter Try.func7, Try.ntmps7
  go_wp2_with fail
  refine (CA.out _).mono ?_
  rintro e w1 ⟨rfl, hb1⟩
  have HB1 := Lib.hid hb1
  clear hb1
  go_wp2_with fail
  refine (C1.out _).mono ?_
  rintro e w2 ⟨rfl, rfl⟩
  go_wp2
  go_ret
  exact ⟨rfl, HB1.out⟩

set_option maxRecDepth 100000 in
set_option maxHeartbeats 2000000 in
theorem lfsrJump_ok {n t x : Nat} (h : NR n t) (hx : x < 2 ^ n) (A B : Nat) (hA : A ≤ 1073741824) (hB : B ≤ 1073741824) (w : World) : Calls Try.prog 7 #[.int .i64 (n : Int), .int .u32 (t : Int), .int .u32 (x : Int), .int .i64 (A : Int), .int .i64 (B : Int)] w fun e w' => e = .returned (.bool true) ∧ Below w.heap.size w w' := by
  have CA := Lib.hid alive14_any
  have hy := nit_lt (t := t) h.lo hx A
  obtain ⟨hp1, hp2, hp3, hp4⟩ := per_spec h hx
  obtain ⟨q, hq, hq1, hq2, hqi⟩ := pow20 (n := n) h.hi
  have hn20 := h.hi
  rw [hq] at hp2
  have C1 := Lib.hid (fun w => jump_ok h hx A (by omega) w)
  have C2 := Lib.hid (fun w => jump_ok h hy B (by omega) w)
  have C3 := Lib.hid (fun w => jump_ok h hx (A + B) (by omega) w)
  have C4 := Lib.hid (fun w => per_ok h hx w)
  have C5 := Lib.hid (fun w => jump_ok h hy (per n t x) (by omega) w)
  have e2 : nit n t B (nit n t A x) = nit n t (A + B) x := (nit_add n t A x B).symm
  have e5 : nit n t (per n t x) (nit n t A x) = nit n t A x := by
    rw [← nit_add, Nat.add_comm, nit_add, hp3]
  rw [e2] at C2
  rw [e5] at C5
  rw [Int.natCast_add] at C3
  clear e2 e5 hp3 hp4 hy h hx hq
  have hpi : (per n t x : Int) ≤ (q : Int) := by omega
  generalize nit n t (A + B) x = z at *
  generalize nit n t A x = y at *
  generalize per n t x = p at *
  have f1 : ((z : Int) == (z : Int)) = true := by simp
  have f2 : ((y : Int) == (y : Int)) = true := by simp
  go_enter Try.func7, Try.ntmps7
  go_wp2_with fail
  refine (CA.out _).mono ?_
  rintro e w1 ⟨rfl, hb1⟩
  have HB1 := Lib.hid hb1
  clear hb1
  go_wp2_with fail
  refine (C1.out _).mono ?_
  rintro e w2 ⟨rfl, hb2⟩
  have HB2 := Lib.hid (HB1.out.trans (hb2.mono HB1.out.size))
  clear hb2 HB1
  go_wp2_with fail
  refine (C2.out _).mono ?_
  rintro e w3 ⟨rfl, hb3⟩
  have HB3 := Lib.hid (HB2.out.trans (hb3.mono HB2.out.size))
  clear hb3 HB2
  go_wp2_with fail
  refine (C3.out _).mono ?_
  rintro e w4 ⟨rfl, hb4⟩
  have HB4 := Lib.hid (HB3.out.trans (hb4.mono HB3.out.size))
  clear hb4 HB3
  go_wp2_with fail
  refine (C4.out _).mono ?_
  rintro e w5 ⟨rfl, hb5⟩
  have HB5 := Lib.hid (HB4.out.trans (hb5.mono HB4.out.size))
  clear hb5 HB4
  go_wp2_with fail
  refine (C5.out _).mono ?_
  rintro e w6 ⟨rfl, hb6⟩
  have HB6 := Lib.hid (HB5.out.trans (hb6.mono HB5.out.size))
  clear hb6 HB5
  go_wp2
  go_ret
  exact ⟨rfl, HB6.out⟩
theorem lfsrJump_walk (n : Int) (t x : Nat) (A B : Int) (ht : t < 4294967296) (hx : x < 4294967296) (w : World) : Calls Try.prog 7 #[.int .i64 n, .int .u32 (t : Int), .int .u32 (x : Int), .int .i64 A, .int .i64 B] w fun e w' => e = .returned (.bool true) ∧ Below w.heap.size w w' := by
  by_cases h : A < 0 ∨ B < 0 ∨ 1073741824 < A ∨ 1073741824 < B
  · exact lfsrJump_out n t x A B h w
  · obtain ⟨a, rfl⟩ : ∃ a : Nat, A = (a : Int) := ⟨A.toNat, by omega⟩
    obtain ⟨b, rfl⟩ : ∃ b : Nat, B = (b : Int) := ⟨B.toNat, by omega⟩
    by_cases h1 : OKh n t x
    · obtain ⟨k, rfl, hR, hk⟩ := OKh.of h1
      exact lfsrJump_ok hR hk a b (by omega) (by omega) w
    · exact lfsrJump_bad n t x a b ht hx h1 (by omega) (by omega) w
end Go.Proofs.Ytcadpgpenjpdiaa
