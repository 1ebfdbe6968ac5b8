/- lotdrawerkeep.MixerSeed: the walk. -/
import Derived.Test.YtcfiigodefkncaaXs6
namespace Go.Proofs.Ytcfiigodefkncaa
open Go.RowKit Go.Deep

theorem weq_yes {x y : W64} (h : x = y) : ((x.toNat : Int) == (y.toNat : Int)) = true := by rw [w64_beq]; exact decide_eq_true h
theorem weq_no {x y : W64} (h : x ≠ y) : ((x.toNat : Int) == (y.toNat : Int)) = false := by rw [w64_beq]; exact decide_eq_false h
theorem seedX_inj {a b : W64} (h : seedX a = seedX b) : a = b := by
  have h1 : mix (a + KI) = mix (b + KI) := congrArg Mx.a h
  have h2 := mix_inj h1
  have h3 : a + KI - KI = b + KI - KI := by rw [h2]
  rwa [BitVec.add_sub_cancel, BitVec.add_sub_cancel] at h3
theorem seedX_ne (a : W64) : seedX a ≠ Mx.zero := by
  intro h
  have h1 : mix (a + KI) = 0#64 := congrArg Mx.a h
  have h2 : mix (a + KI + KI) = 0#64 := congrArg Mx.b h
  have h3 : a + KI = a + KI + KI := mix_inj (h1.trans h2.symm)
  have h4 : a + KI - (a + KI) = a + KI + KI - (a + KI) := by rw [← h3]
  rw [BitVec.sub_self, BitVec.add_comm (a + KI) KI, BitVec.add_sub_cancel] at h4
  exact absurd h4 (by decide)

set_option maxRecDepth 100000 in
set_option maxHeartbeats 2000000 in
theorem mixerSeed_walk (a b : W64) (w : World) :
    Calls Try.prog 7 #[.int .u64 (a.toNat : Int), .int .u64 (b.toNat : Int)] w fun e w' => e = .returned (.bool true) ∧ Below w.heap.size w w' := by
  have CA := Lib.hid (alive13_any w)
  have C1 := Lib.hid (seed_any a)
  have C2 := Lib.hid (seed_any b)
  have hne := seedX_ne a
  have hi : a ≠ b → seedX a ≠ seedX b := fun h e => h (seedX_inj e)
  have hq : a = b → seedX a = seedX b := fun h => by rw [h]
  generalize seedX a = m at *
  generalize seedX b = o at *
  obtain ⟨m0, m1, m2, m3⟩ := m
  obtain ⟨o0, o1, o2, o3⟩ := o
  have E2 : ∀ w : World, _ := fun w => mx_eq ⟨m0, m1, m2, m3⟩ Mx.zero w
  have E1 : ∀ w : World, _ := fun w => mx_eq ⟨m0, m1, m2, m3⟩ ⟨o0, o1, o2, o3⟩ w
  rw [decide_eq_false hne] at E2
  by_cases h : a = b
  case' pos =>
    have e1 := weq_yes h
    rw [decide_eq_true (hq h)] at E1
  case' neg =>
    have e1 := weq_no h
    rw [decide_eq_false (hi h)] at E1
  all_goals
    unfold mxv at C1 C2
    dsimp only at C1 C2 E1
    clear hi h hne hq
    dsimp only [Mx.zero] at E2
    simp only [show (((0#64 : W64).toNat : Nat) : Int) = 0 from rfl] at E2
    go_enter Try.func7, Try.ntmps7
    go_wp2_with fail
    refine CA.out.mono ?_
    rintro e w1 ⟨rfl, hb⟩
    have HB := Lib.hid hb
    clear hb CA
    go_wp2_with fail
    refine (C1.out _).mono ?_
    rintro e w2 ⟨rfl, hb⟩
    have HB := Lib.hid (HB.out.trans (hb.mono HB.out.size))
    clear hb
    go_wp2_with fail
    refine (C2.out _).mono ?_
    rintro e w3 ⟨rfl, hb⟩
    have HB := Lib.hid (HB.out.trans (hb.mono HB.out.size))
    clear hb
    go_wp2_with fail
    refine (C1.out _).mono ?_
    rintro e w4 ⟨rfl, hb⟩
    have HB := Lib.hid (HB.out.trans (hb.mono HB.out.size))
    clear hb
    go_wp2
    go_ret
    exact ⟨rfl, HB.out⟩
end Go.Proofs.Ytcfiigodefkncaa
