/- lfsr.period and Period. -/
import Derived.Test.YtcadpgpenjpdiaaXl5
namespace Go.Proofs.Ytcadpgpenjpdiaa
open Go.RowKit Go.Deep

set_option maxRecDepth 100000 in
set_option maxHeartbeats 1000000 in
theorem period_any {n t x : Nat} (h : NR n t) (hx : x < 2 ^ n) (a b : Nat) (w : World) (hs : SF w a b n t) : Calls Try.prog 22 #[.func (.func 24) #[] #[.pointer (some ⟨a, 0, none⟩), .pointer (some ⟨b, 0, none⟩)], .int .u32 (x : Int)] w fun e w' => e = .returned (.int .i64 (per n t x : Int)) ∧ Below w.heap.size w w' := by
  have hen := enters_step
  have CN := Lib.hid (fun y hy w hs => next_any (a := a) (b := b) (w := w) (x := y) h hy hs)
  have hxs := h.state hx
  obtain ⟨hp1, hp2, hp3, hp4⟩ := per_spec h hx
  have hp20 : per n t x ≤ 1048576 := Nat.le_trans hp2 (Nat.pow_le_pow_right (by decide) h.hi)
  have HL := Lib.hid (fun k => nit_lt (t := t) (k := k) h.lo hx)
  have HP3 := Lib.hid hp3
  have HP4 := Lib.hid hp4
  have HX := Lib.hid hx
  have HS := Lib.hid hs
  have C0 := Lib.hid (CN.out x hx w hs)
  clear h hp2 hp3 hp4 hx hs
  generalize per n t x = p at *
  go_enter Try.func22, Try.ntmps22
  go_wp2_with fail
  refine C0.out.mono ?_
  rintro e w1 ⟨rfl, m, rfl⟩
  have HS1 := Lib.hid (HS.out.drewN m)
  have HB1 := Lib.hid (below_drewN (Below.refl w.heap.size w) m)
  clear C0
  go_wp2_with fail
  go_loopw [5, 6] (fun kv sv wr => ∃ k : Nat, kv = .int .i64 k ∧ sv = .int .u32 (nit n t k x : Int) ∧ 1 ≤ k ∧ k ≤ p ∧ SF wr a b n t ∧ Below w.heap.size w wr) (fun kv _ _ => p - (intOf kv).toNat)
  case atStart => exact ⟨1, rfl, rfl, by omega, by omega, HS1.out, HB1.out⟩
  case round =>
    clear HS1 HB1 HS
    obtain ⟨k, rfl, rfl, hk1, hk2, hS, hB⟩ := hrel
    have HS := Lib.hid hS
    have HB := Lib.hid hB
    clear hS hB
    by_cases he : nit n t k x = x
    · have hkp : k = p := by
        apply Classical.byContradiction
        intro hne
        exact HP4.out k hk1 (by omega) he
      subst hkp
      have e1 := neq_no he
      rw [he]
      rw [he] at e1
      clear he
      go_wp2
      go_ret
      exact ⟨rfl, HB.out⟩
    · have hkp : k < p := by
        apply Classical.byContradiction
        intro hne
        have : k = p := by omega
        subst this
        exact he HP3.out
      have e1 := neq_yes he
      have CK := Lib.hid (CN.out _ (HL.out k) wr HS.out)
      have E : Hid (nst n t (nit n t k x) = nit n t (k + 1) x) := rfl
      clear he
      generalize nit n t k x = y at *
      generalize nst n t y = z at *
      go_wp2_with fail
      refine CK.out.mono ?_
      rintro e w2 ⟨rfl, m2, rfl⟩
      have HS2 := Lib.hid (HS.out.drewN m2)
      have HB2 := Lib.hid (below_drewN HB.out m2)
      go_wp2
      go_roundw
      case rel => exact ⟨k + 1, by go_num, by rw [E.out], by omega, by omega, HS2.out, HB2.out⟩
      case measure => simp [intOf]; omega

set_option maxRecDepth 100000 in
set_option maxHeartbeats 1000000 in
theorem per_bad {n : Int} {t x : Nat} (ht : t < 4294967296) (hx : x < 4294967296) (h : ¬ OKh n t x) (w : World) : Calls Try.prog 15 #[.int .i64 n, .int .u32 (t : Int), .int .u32 (x : Int)] w fun e w' => e = .returned (.tuple #[.int .i64 0, .int .i64 1]) ∧ w' = w := by
  have C := Lib.hid (holds_any n t x ht hx w)
  rw [decide_eq_false h] at C
  clear h
  go_enter Try.func15, Try.ntmps15
  go_wp2_with fail
  refine C.out.mono ?_
  rintro e w1 ⟨rfl, rfl⟩
  go_wp2
  go_ret2
  exact ⟨rfl, rfl⟩
set_option maxRecDepth 100000 in
set_option maxHeartbeats 1000000 in
theorem per_ok {n t x : Nat} (h : NR n t) (hx : x < 2 ^ n) (w : World) : Calls Try.prog 15 #[.int .i64 (n : Int), .int .u32 (t : Int), .int .u32 (x : Int)] w fun e w' => e = .returned (.tuple #[.int .i64 (per n t x : Int), .int .i64 0]) ∧ Below w.heap.size w w' := by
  have C := Lib.hid (holds_any n t x h.taps (by have := h.state hx; omega) w)
  rw [decide_eq_true (h.okh hx)] at C
  have CS := Lib.hid (stepper_any h)
  have CN := Lib.hid (fun a b w hs => period_any (a := a) (b := b) (w := w) h hx hs)
  unfold sfv at CS
  clear h hx
  go_enter Try.func15, Try.ntmps15
  go_wp2_with fail
  refine C.out.mono ?_
  rintro e w1 ⟨rfl, rfl⟩
  go_wp2_with fail
  refine (CS.out _).mono ?_
  rintro e w1 ⟨a, b, rfl, hs, hb⟩
  have HB := Lib.hid hb
  have CM := Lib.hid (CN.out _ _ _ hs)
  clear hb hs
  go_wp2_with fail
  refine CM.out.mono ?_
  rintro e w2 ⟨rfl, hb⟩
  have HB2 := Lib.hid (HB.out.trans (hb.mono HB.out.size))
  go_wp2
  go_ret2
  exact ⟨rfl, HB2.out⟩
end Go.Proofs.Ytcadpgpenjpdiaa
