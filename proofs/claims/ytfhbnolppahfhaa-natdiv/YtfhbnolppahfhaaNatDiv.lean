/- Whatever the input, lotdrawerkeep.NatDiv returns true and leaves its arguments as they were; no conditions. -/
import Derived.Test.YtfhbnolppahfhaaRows
import Derived.Test.YtfhbnolppahfhaaRow
import Derived.Test.YtfhbnolppahfhaaKa
import Derived.WalkKit
import Derived.ProofKit
import Derived.OpenShut
import Derived.ShutString
import Derived.ChangeOld
import Derived.Below
namespace Go.Proofs.Ytfhbnolppahfhaa.natDiv
open Go.ChangeShapes Go.WideShapes Go.ChangeAt Go.RowKit
open Go.ChangeMaps (open_string shut_string)
set_option linter.unusedVariables false

theorem own : ownKnob Try.prog.godebug = none := by kernel_rfl
theorem laidOut : laidOutB Try.prog = true := by kernel_rfl

set_option maxRecDepth 100000 in
set_option maxHeartbeats 2000000 in
theorem walk (a0 : Option Addr) (len0 cap0 : Nat) (z0 : List Int) (a1 : Int) (w : World) (w0 : IsRow .u64 w a0 len0 cap0 z0) (w1 : (Lit.int .u64 a1).wf = true) :
    Calls Try.prog 7 #[.slice a0 len0 cap0, .int .u64 a1] w fun e w' => e = .returned (.bool true) ∧ Below w.heap.size w w' := by
  obtain ⟨xs, rfl, ha, hla⟩ := w0.words
  obtain ⟨hb0, hbB⟩ := wf_u64 w1
  obtain ⟨b, rfl⟩ := Int.eq_ofNat_of_zero_le hb0
  simp only [Int.toNat_natCast] at hbB
  clear w0 w1 hb0 z0
  have CA := Lib.hid (alive1_any w)
  go_enter Try.func7, Try.ntmps7
  go_wp2_with fail
  refine CA.out.mono ?_
  rintro e wa ⟨rfl, hBa⟩
  have HBa := Lib.hid hBa
  have HA : Hid (Wd wa a0 xs) := ha.below hBa
  clear hBa CA ha
  by_cases hr : rt xs = true
  · by_cases hb : b = 0
    · subst hb
      have C1 := Lib.hid (div_zero a0 cap0 xs wa HA.out hla hr)
      clear hr hbB
      go_wp2_with fail
      refine C1.out.mono ?_
      rintro e w' ⟨rfl, rfl⟩
      go_wp2
      go_ret
      exact ⟨rfl, HBa.out⟩
    · have hbp : 0 < b := by omega
      have C1 := Lib.hid (div_any a0 cap0 b xs wa HA.out hr hbp hbB)
      have hvx : val xs < Bw ^ 64 := val_of_rt HA.out.1 hr
      have hq : val xs / b < Bw ^ 64 := Nat.lt_of_le_of_lt (Nat.div_le_self _ _) hvx
      have hm : val xs / b * b < Bw ^ 64 := Nat.lt_of_le_of_lt (Nat.div_mul_le_self _ _) hvx
      have hrb : val xs % b < b := Nat.mod_lt _ hbp
      have hb64 : b < Bw ^ 64 := Nat.lt_of_lt_of_le (show b < Bw ^ 1 by simpa using hbB) (Nat.pow_le_pow_right Bw_pos (by omega))
      have hr64 : val xs % b < Bw ^ 64 := Nat.lt_trans hrb hb64
      obtain ⟨r, hrr⟩ : ∃ r, r = val xs % b := ⟨_, rfl⟩
      have hs : val xs / b * b + r = val xs := by rw [hrr]; exact Nat.div_add_mod' _ _
      rw [← hrr] at C1 hrb hr64
      have HR := Lib.hid hr
      have HV := Lib.hid hvx
      have HQ := Lib.hid hq
      have HM := Lib.hid hm
      have HB64 := Lib.hid hb64
      have HR64 := Lib.hid hr64
      have HS := Lib.hid hs
      have HbB := Lib.hid hbB
      clear hr hvx hq hm hb64 hr64 hs hrr hb hbB
      go_wp2_with fail
      refine C1.out.mono ?_
      rintro e wb ⟨R1, c1, rfl, hW1, _, hB1⟩
      have HW1 := Lib.hid hW1
      have HB1 := Lib.hid hB1
      clear hW1 hB1 C1
      have C2 := Lib.hid (of_any b wb HbB.out)
      go_wp2_with fail
      refine C2.out.mono ?_
      rintro e wc ⟨R2, c2, rfl, hW2, _, hB2⟩
      have C3 := mul_any R1 R2 c1 c2 (words (val xs / b)) (words b) wc (HW1.out.below hB2) hW2 (rt_words HQ.out) (rt_words HB64.out)
      rw [val_words, val_words, show fitL (val xs / b * b) = words (val xs / b * b) from if_pos HM.out, show fitE (val xs / b * b) = 0 from if_pos HM.out] at C3
      have HB2 := Lib.hid hB2
      have HC3 := Lib.hid C3
      clear hW2 hB2 C2 C3
      go_wp2_with fail
      refine HC3.out.mono ?_
      rintro e wd ⟨R3, c3, rfl, hW3, _, hB3⟩
      have HW3 := Lib.hid hW3
      have HB3 := Lib.hid hB3
      clear hW3 hB3 HC3
      have C4 := Lib.hid (of_any r wd (Nat.lt_trans hrb HbB.out))
      go_wp2_with fail
      refine C4.out.mono ?_
      rintro e we ⟨R4, c4, rfl, hW4, _, hB4⟩
      have C5 := add_any R3 R4 c3 c4 (words (val xs / b * b)) (words r) we (HW3.out.below hB4) hW4 (rt_words HM.out) (rt_words HR64.out)
      rw [val_words, val_words, HS.out, show fitL (val xs) = words (val xs) from if_pos HV.out, show fitE (val xs) = 0 from if_pos HV.out, words_rt HA.out.1 HR.out] at C5
      have HB4 := Lib.hid hB4
      have HC5 := Lib.hid C5
      clear hW4 hB4 C4 C5
      go_wp2_with fail
      refine HC5.out.mono ?_
      rintro e wf ⟨R5, c5, rfl, hW5, _, hB5⟩
      have B1 : Hid (Below wa.heap.size wa wf) := below_to HB1.out (below_to HB2.out (below_to HB3.out (below_to HB4.out hB5)))
      have C6 := equal_any R5 a0 c5 cap0 xs xs wf hW5 (HA.out.below B1.out) hla hla
      rw [show decide (xs = xs) = true from by simp] at C6
      have HC6 := Lib.hid C6
      clear hW5 hB5 HC5 C6
      go_wp2_with fail
      refine HC6.out.mono ?_
      rintro e wg ⟨rfl, hB6⟩
      have HB6 := Lib.hid hB6
      clear hB6
      go_wp2
      go_ret
      exact ⟨rfl, below_to HBa.out (below_to B1.out HB6.out)⟩
  · have hr2 : rt xs = false := by simpa using hr
    have C1 := Lib.hid (div_bad a0 cap0 b xs wa HA.out hla hr2)
    clear hr hr2 hbB
    go_wp2_with fail
    refine C1.out.mono ?_
    rintro e w' ⟨rfl, rfl⟩
    go_wp2
    go_ret
    exact ⟨rfl, HBa.out⟩

set_option maxRecDepth 100000 in
theorem lifted (os : Os) (started : os.Started) (H : Type) (enc : TypeId × Value → H) :
    ReturnsInHanded {} Try.checked os 7 .any (Rows.natDivSpec.pre6 enc Try.prog Try.f7 Rows.natDivRow.domain false) (Rows.natDivSpec.post enc Try.prog Try.f7 false true false false) := by
  refine returnsInHanded_of_change (C := Try.checked) own started (by kernel_rfl) Try.func7
    (ChangeSpec.witness6 (enc := enc) (C := Try.checked) false ⟨#[], #[.slice none 0 0, .int .u64 0], []⟩ 8 (by kernel_rfl) (by kernel_rfl) (by kernel_rfl) (by kernel_rfl)) ?_
  intro W base args ds gs before hval0 hW hcnd _
  have hval : ∀ (j : Nat) t v, Try.f7.params[j]? = some t → args[j]? = some v → Value.okWide Try.prog W .any base t v := hval0
  have hW' := hW
  obtain ⟨p, q, hA0, hV, rfl, hfz, hnd⟩ := hW
  have hA : DataW.TrodAll enc Try.prog W 0 (fun _ => true) true Try.f7.params.toList args.toList ds p := hA0
  rw [Try.params7] at hA hval
  obtain ⟨v0, vs0, d0, ds0, p0, q0, hargs, rfl, rfl, h0, r0⟩ := trodAll_cons hA
  obtain ⟨v1, vs1, d1, ds1, p1, q1, rfl, rfl, rfl, h1, r1⟩ := trodAll_cons r0
  obtain ⟨rfl, rfl, rfl⟩ := trodAll_nil r1
  obtain rfl : args = #[v0, v1] := by cases args; simp_all
  obtain ⟨rfl, rfl⟩ := trodVars_none hV
  obtain ⟨a0, len0, cap0, rfl⟩ := okWide_slice Try.underlying22 (hval 0 22 v0 rfl rfl)
  have k0 := h0
  have lt0 : ∀ x ∈ p0, x.block < W.heap.size := by obtain ⟨m, hm⟩ := k0; exact DataW.trod_lt m _ _ _ hm
  obtain ⟨z0, w0⟩ : ∃ zs, IsRow .u64 W a0 len0 cap0 zs := by
    obtain ⟨fuel, hf⟩ := h0
    rcases open_ints Try.underlying22 Try.underlying23 (by kernel_rfl) hf with ⟨hcs, _⟩ | ⟨x, l, c, zs, hcs, _, hl, hm, hz, _, hcell, hwz⟩
    · simp [Value.cells] at hcs
      obtain ⟨rfl, rfl, rfl⟩ := hcs
      exact ⟨[], .inl ⟨rfl, rfl, rfl, rfl⟩⟩
    · simp [Value.cells] at hcs
      obtain ⟨rfl, rfl, rfl⟩ := hcs
      exact ⟨zs, .inr ⟨_, rfl, hl, hm, by simpa using hz, hcell, hwz⟩⟩
  obtain ⟨a1, rfl, rfl, rfl, w1⟩ := open_int Try.underlying23 (hval 1 23 v1 rfl rfl) h1
  clear hA0 hval0
  refine (walk a0 len0 cap0 z0 a1 W w0 w1).mono fun e W' ⟨he, bel⟩ => ?_
  subst he
  exact ⟨_, rfl, _, _, _, [], _, [], hW', trodAll_mk1 (shut_bool Try.underlying4 _), (trodAll_cons_mk (Below.trod laidOut (by kernel_rfl) (of_decide_eq_true (by kernel_rfl)) k0 bel lt0) (trodAll_cons_mk (shut_int Try.underlying23 w1) trodAll_mk0)), rfl, bel.frame _, fun h => by cases h⟩

theorem over : Rows.natDivRow.holds Try.pinned (OpenSpec.ofChange Rows.natDivSpec) :=
  OpenClaim.holds_of_wide 7 Try.f7 rfl rfl rfl rfl rfl rfl rfl ⟨rfl, rfl, rfl, rfl, rfl⟩ rfl rfl rfl rfl rfl (by kernel_rfl) Try.func7 (by kernel_rfl)
    (of_decide_eq_true (by kernel_rfl)) (by unfold Func.isWrapper; first | (rw [if_pos (by decide +kernel)]; kernel_rfl) | (rw [if_neg (by decide +kernel)]; exact ⟨rfl, rfl⟩))
    (fun os started H enc _ => lifted os started H enc)

theorem proved : Rows.NatDivSaid := over
#print axioms proved
end Go.Proofs.Ytfhbnolppahfhaa.natDiv
namespace Go.Proofs.Ytfhbnolppahfhaa
theorem natDiv_holds : Rows.NatDivSaid := natDiv.proved
end Go.Proofs.Ytfhbnolppahfhaa
