/- lotdrawerlaw.BottomMixes: the walk. -/
import Derived.Test.YtnihcpaakbhpcaaMxc
import Derived.Test.YtnihcpaakbhpcaaU1
namespace Go.Proofs.Ytnihcpaakbhpcaa
open Go.RowKit Go.Deep

set_option maxRecDepth 100000 in
set_option maxHeartbeats 1000000 in
theorem bottomMixes_walk (x : W64) (w : World) :
    Calls Try.prog 3 #[.int .u64 (x.toNat : Int)] w fun e w' => e = .returned (.bool true) ∧ Below w.heap.size w w' := by
  have C1 := Lib.hid (mix_any x w)
  have C2 := Lib.hid (lmix_any x w)
  have C3 : Hid (∀ w, Calls Try.prog 12 _ w _) := fun w => unmix_any x w
  have C4 : Hid (∀ w, Calls Try.prog 11 _ w _) := fun w => lmix_any (unmix x) w
  rw [mix_unmix] at C4
  generalize mix x = m at *
  generalize unmix x = u at *
  have e1 : ((m.toNat : Int) == (m.toNat : Int)) = true := by simp
  have e2 : ((x.toNat : Int) == (x.toNat : Int)) = true := by simp
  go_enter Try.func3, Try.ntmps3
  go_wp2_with fail
  refine C1.out.mono ?_
  rintro e w ⟨rfl, rfl⟩
  go_wp2_with fail
  refine C2.out.mono ?_
  rintro e w2 ⟨rfl, hb⟩
  have HB := Lib.hid hb
  clear hb C1 C2
  go_wp2_with fail
  refine (C3.out _).mono ?_
  rintro e w2 ⟨rfl, rfl⟩
  have C5 := Lib.hid (C4.out w2)
  clear C3 C4
  go_wp2_with fail
  refine C5.out.mono ?_
  rintro e w3 ⟨rfl, hb⟩
  have HB2 := Lib.hid (HB.out.trans (hb.mono HB.out.size))
  clear hb C5
  go_wp2
  go_ret
  exact ⟨rfl, HB2.out⟩
end Go.Proofs.Ytnihcpaakbhpcaa
