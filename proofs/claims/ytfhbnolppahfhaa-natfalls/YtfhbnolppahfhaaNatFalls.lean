/- Whatever the input, lotdrawerkeep.NatFalls returns true and leaves its arguments as they were; no conditions. -/
import Derived.Test.YtfhbnolppahfhaaRows
import Derived.Test.YtfhbnolppahfhaaRow
import Derived.Test.YtfhbnolppahfhaaKa
import Derived.WalkKit
import Derived.ProofKit
import Derived.OpenShut
import Derived.ShutString
namespace Go.Proofs.Ytfhbnolppahfhaa.natFalls
open Go.ChangeShapes Go.WideShapes Go.ChangeAt Go.RowKit
open Go.ChangeMaps (open_string shut_string)
set_option linter.unusedVariables false

theorem own : ownKnob Try.prog.godebug = none := by kernel_rfl

set_option maxRecDepth 100000 in
set_option maxHeartbeats 2000000 in
theorem walk (a0 : Int) (a1 : Int) (a2 : Int) (w0 : (Lit.int .u64 a0).wf = true) (w1 : (Lit.int .i64 a1).wf = true) (w2 : (Lit.int .i64 a2).wf = true) (w : World) :
    Calls Try.prog 8 #[.int .u64 a0, .int .i64 a1, .int .i64 a2] w fun e w' => e = .returned (.bool true) ∧ Below w.heap.size w w' := by
  obtain ⟨hn0, hnB⟩ := wf_u64 w0
  obtain ⟨n, rfl⟩ := Int.eq_ofNat_of_zero_le hn0
  simp only [Int.toNat_natCast] at hnB
  clear w0 w1 w2 hn0
  have CA := Lib.hid (alive1_any w)
  by_cases hin : 0 ≤ a1 ∧ 0 ≤ a2 ∧ a1 ≤ 40 ∧ a2 ≤ 20
  · obtain ⟨i1, i2, i3, i4⟩ := hin
    obtain ⟨a, rfl⟩ := Int.eq_ofNat_of_zero_le i1
    obtain ⟨b, rfl⟩ := Int.eq_ofNat_of_zero_le i2
    have j3 : a ≤ 40 := by omega
    have j4 : b ≤ 20 := by omega
    have HN := Lib.hid hnB
    have h1 : fall n a < Bw ^ 64 := fall_lt hnB (by omega)
    have h2 : fall (n - a) b < Bw ^ 64 := fall_lt (Nat.lt_of_le_of_lt (Nat.sub_le _ _) hnB) (by omega)
    have h3 : fall n (a + b) < Bw ^ 64 := fall_lt hnB (by omega)
    have hn64 : n < 18446744073709551616 := hnB
    clear hnB i1 i2
    have C1 := fun W => falling_any n a W HN.out (by omega)
    have C2 := fun W => falling_any n (a + b) W HN.out (by omega)
    have C3 := fun W => falling_any (n - a) b W (Nat.lt_of_le_of_lt (Nat.sub_le _ _) HN.out) (by omega)
    simp only [show fitE (fall n a) = 0 from if_pos h1, show fitL (fall n a) = words (fall n a) from if_pos h1] at C1
    simp only [show fitE (fall n (a + b)) = 0 from if_pos h3, show fitL (fall n (a + b)) = words (fall n (a + b)) from if_pos h3] at C2
    simp only [show fitE (fall (n - a) b) = 0 from if_pos h2, show fitL (fall (n - a) b) = words (fall (n - a) b) from if_pos h2] at C3
    have D1 := Lib.hid C1
    have D2 := Lib.hid C2
    have D3 := Lib.hid C3
    have K1 := Lib.hid h1
    have K2 := Lib.hid h2
    have K3 := Lib.hid h3
    clear C1 C2 C3 h1 h2 h3
    go_enter Try.func8, Try.ntmps8
    go_wp2_with fail
    refine CA.out.mono ?_
    rintro e wa ⟨rfl, hBa⟩
    have HBa := Lib.hid hBa
    clear hBa CA
    go_wp2_with fail
    refine (D1.out wa).mono ?_
    rintro e wb ⟨R1, c1, rfl, hW1, hB1⟩
    have HW1 := Lib.hid hW1
    have HB1 := Lib.hid hB1
    clear hW1 hB1
    go_wp2_with fail
    rw [show (a : Int) + (b : Int) = ((a + b : Nat) : Int) by omega]
    refine (D2.out wb).mono ?_
    rintro e wc ⟨R2, c2, rfl, hW2, hB2⟩
    have HW2 := Lib.hid hW2
    have HB2 := Lib.hid hB2
    clear hW2 hB2
    have B12 : Hid (Below w.heap.size w wc) := below_to HBa.out (below_to HB1.out HB2.out)
    by_cases hna : n < a
    · have z1 : fall n a = 0 := fall_zero hna
      have z2 : fall n (a + b) = 0 := fall_zero (by omega)
      rw [z1, z2, words_zero]
      clear z1 z2
      simp only [List.length_nil]
      go_wp2
      go_ret
      exact ⟨rfl, B12.out⟩
    · have hle : a ≤ n := by omega
      have FA := Lib.hid (fall_add n a b)
      go_wp2_with fail
      rw [show (n : Int) - (a : Int) = ((n - a : Nat) : Int) by omega]
      refine (D3.out wc).mono ?_
      rintro e wx ⟨R3, c3, rfl, hW3, hB3⟩
      have HW3 := Lib.hid hW3
      have HB3 := Lib.hid hB3
      clear hW3 hB3
      have B13 : Hid (Below w.heap.size w wx) := below_to B12.out HB3.out
      have C4 := mul_any R1 R3 c1 c3 (words (fall n a)) (words (fall (n - a) b)) wx (HW1.out.below (below_to HB2.out HB3.out)) HW3.out (rt_words K1.out) (rt_words K2.out)
      rw [val_words, val_words, ← FA.out, show fitE (fall n (a + b)) = 0 from if_pos K3.out, show fitL (fall n (a + b)) = words (fall n (a + b)) from if_pos K3.out] at C4
      have HC4 := Lib.hid C4
      clear C4
      go_wp2_with fail
      refine HC4.out.mono ?_
      rintro e wy ⟨R4, c4, rfl, hW4, _, hB4⟩
      have hl64 : (words (fall n (a + b))).length ≤ 9223372036854775807 := Nat.le_trans ((words_len _ 64).2 K3.out) (by omega)
      have C5 := equal_any R4 R2 c4 c2 (words (fall n (a + b))) (words (fall n (a + b))) wy hW4 (HW2.out.below (below_to HB3.out hB4)) hl64 hl64
      rw [show decide (words (fall n (a + b)) = words (fall n (a + b))) = true from by simp] at C5
      have HC5 := Lib.hid C5
      have HB4 := Lib.hid hB4
      clear hW4 hB4 C5 hl64 HC4
      go_wp2_with fail
      refine HC5.out.mono ?_
      rintro e wz ⟨rfl, hB5⟩
      have HB5 := Lib.hid hB5
      clear hB5
      go_wp2
      go_ret
      exact ⟨rfl, below_to B13.out (below_to HB4.out HB5.out)⟩
  · rcases (show a1 < 0 ∨ (¬ a1 < 0 ∧ a2 < 0) ∨ (¬ a1 < 0 ∧ ¬ a2 < 0 ∧ 40 < a1) ∨ (¬ a1 < 0 ∧ ¬ a2 < 0 ∧ ¬ 40 < a1 ∧ 20 < a2) by omega) with h | ⟨h, k⟩ | ⟨h, k, l⟩ | ⟨h, k, l, m⟩
    all_goals
      clear hin
      go_enter Try.func8, Try.ntmps8
      go_wp2_with fail
      refine CA.out.mono ?_
      rintro e wa ⟨rfl, hBa⟩
      have HBa := Lib.hid hBa
      clear hBa
      go_wp2
      go_ret
      exact ⟨rfl, HBa.out⟩

set_option maxRecDepth 100000 in
theorem lifted (os : Os) (started : os.Started) (H : Type) (enc : TypeId × Value → H) :
    ReturnsInHanded {} Try.checked os 8 .any (Rows.natFallsSpec.pre6 enc Try.prog Try.f8 Rows.natFallsRow.domain false) (Rows.natFallsSpec.post enc Try.prog Try.f8 false true false false) := by
  refine returnsInHanded_of_change (C := Try.checked) own started (by kernel_rfl) Try.func8
    (ChangeSpec.witness6 (enc := enc) (C := Try.checked) false ⟨#[], #[.int .u64 0, .int .i64 0, .int .i64 0], []⟩ 8 (by kernel_rfl) (by kernel_rfl) (by kernel_rfl) (by kernel_rfl)) ?_
  intro W base args ds gs before hval0 hW hcnd _
  have hval : ∀ (j : Nat) t v, Try.f8.params[j]? = some t → args[j]? = some v → Value.okWide Try.prog W .any base t v := hval0
  have hW' := hW
  obtain ⟨p, q, hA0, hV, rfl, hfz, hnd⟩ := hW
  have hA : DataW.TrodAll enc Try.prog W 0 (fun _ => true) true Try.f8.params.toList args.toList ds p := hA0
  rw [Try.params8] at hA hval
  obtain ⟨v0, vs0, d0, ds0, p0, q0, hargs, rfl, rfl, h0, r0⟩ := trodAll_cons hA
  obtain ⟨v1, vs1, d1, ds1, p1, q1, rfl, rfl, rfl, h1, r1⟩ := trodAll_cons r0
  obtain ⟨v2, vs2, d2, ds2, p2, q2, rfl, rfl, rfl, h2, r2⟩ := trodAll_cons r1
  obtain ⟨rfl, rfl, rfl⟩ := trodAll_nil r2
  obtain rfl : args = #[v0, v1, v2] := by cases args; simp_all
  obtain ⟨rfl, rfl⟩ := trodVars_none hV
  obtain ⟨a0, rfl, rfl, rfl, w0⟩ := open_int Try.underlying23 (hval 0 23 v0 rfl rfl) h0
  obtain ⟨a1, rfl, rfl, rfl, w1⟩ := open_int Try.underlying3 (hval 1 3 v1 rfl rfl) h1
  obtain ⟨a2, rfl, rfl, rfl, w2⟩ := open_int Try.underlying3 (hval 2 3 v2 rfl rfl) h2
  clear hA0 hval0
  simp only [List.append_nil] at hW'
  refine (walk a0 a1 a2 w0 w1 w2 W).mono fun e W' ⟨he, hg⟩ => ?_
  subst he
  exact ⟨_, rfl, _, _, _, [], _, [], hW', trodAll_mk1 (shut_bool Try.underlying4 _), (trodAll_cons_mk (shut_int Try.underlying23 w0) (trodAll_cons_mk (shut_int Try.underlying3 w1) (trodAll_cons_mk (shut_int Try.underlying3 w2) trodAll_mk0))), rfl, hg.frame _, fun h => by cases h⟩

theorem over : Rows.natFallsRow.holds Try.pinned (OpenSpec.ofChange Rows.natFallsSpec) :=
  OpenClaim.holds_of_wide 8 Try.f8 rfl rfl rfl rfl rfl rfl rfl ⟨rfl, rfl, rfl, rfl, rfl⟩ rfl rfl rfl rfl rfl (by kernel_rfl) Try.func8 (by kernel_rfl)
    (of_decide_eq_true (by kernel_rfl)) (by unfold Func.isWrapper; first | (rw [if_pos (by decide +kernel)]; kernel_rfl) | (rw [if_neg (by decide +kernel)]; exact ⟨rfl, rfl⟩))
    (fun os started H enc _ => lifted os started H enc)

theorem proved : Rows.NatFallsSaid :=
  over
#print axioms proved
end Go.Proofs.Ytfhbnolppahfhaa.natFalls
namespace Go.Proofs.Ytfhbnolppahfhaa
theorem natFalls_holds : Rows.NatFallsSaid := natFalls.proved
end Go.Proofs.Ytfhbnolppahfhaa
