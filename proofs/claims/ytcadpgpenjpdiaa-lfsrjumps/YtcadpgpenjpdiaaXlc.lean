/- lotdrawerref.NPeriod. -/
import Derived.Test.YtcadpgpenjpdiaaXlb
namespace Go.Proofs.Ytcadpgpenjpdiaa
open Go.RowKit Go.Deep

set_option maxRecDepth 100000 in
set_option maxHeartbeats 1000000 in
theorem nperiod_any {n t x : Nat} (h : NR n t) (hx : x < 2 ^ n) (w : World) : Calls Try.prog 17 #[.int .i64 (n : Int), .int .u32 (t : Int), .int .u32 (x : Int)] w fun e w' => e = .returned (.int .i64 (per n t x : Int)) ∧ w' = w := by
  have CN := Lib.hid (fun y hy => nstep_any (w := w) (x := y) h hy)
  have hxs := h.state hx
  obtain ⟨hp1, hp2, hp3, hp4⟩ := per_spec h hx
  have hp20 : per n t x ≤ 1048576 := Nat.le_trans hp2 (Nat.pow_le_pow_right (by decide) h.hi)
  have HL := Lib.hid (fun k => nit_lt (t := t) (k := k) h.lo hx)
  have HP3 := Lib.hid hp3
  have HP4 := Lib.hid hp4
  have C0 := Lib.hid (CN.out x hx)
  clear h hp2 hp3 hp4 hx
  generalize per n t x = p at *
  go_enter Try.func17, Try.ntmps17
  go_wp2_with fail
  refine C0.out.mono ?_
  rintro e w ⟨rfl, rfl⟩
  clear C0
  go_wp2_with fail
  go_loop [7, 8] (fun kv sv => ∃ k : Nat, kv = .int .i64 k ∧ sv = .int .u32 (nit n t k x : Int) ∧ 1 ≤ k ∧ k ≤ p) (fun kv _ => p - (intOf kv).toNat)
  case atStart => exact ⟨1, rfl, rfl, by omega, by omega⟩
  case round =>
    obtain ⟨k, rfl, rfl, hk1, hk2⟩ := hrel
    by_cases he : nit n t k x = x
    · have hkp : k = p := by
        apply Classical.byContradiction
        intro hne
        exact HP4.out k hk1 (by omega) he
      subst hkp
      have e1 := neq_no he
      rw [he]
      rw [he] at e1
      clear he
      go_wp2
      go_ret
      exact ⟨rfl, rfl⟩
    · have hkp : k < p := by
        apply Classical.byContradiction
        intro hne
        have : k = p := by omega
        subst this
        exact he HP3.out
      have e1 := neq_yes he
      have CK := Lib.hid (CN.out _ (HL.out k))
      have E : Hid (nst n t (nit n t k x) = nit n t (k + 1) x) := rfl
      clear he
      generalize nit n t k x = y at *
      generalize nst n t y = z at *
      go_wp2_with fail
      refine CK.out.mono ?_
      rintro e w2 ⟨rfl, rfl⟩
      go_wp2
      go_round
      case rel => exact ⟨k + 1, by go_num, by rw [E.out], by omega, by omega⟩
      case measure => simp [intOf]; omega
end Go.Proofs.Ytcadpgpenjpdiaa
