/- lotdrawerkeep.BottomBack: the walk. -/
import Derived.Test.YtnihcpaakbhpcaaG7
namespace Go.Proofs.Ytnihcpaakbhpcaa
open Go.RowKit Go.Deep

theorem mix_iff (x y : W64) : mix x = mix y ↔ x = y := ⟨mix_inj, fun h => by rw [h]⟩
theorem eqw_yes {x y : W64} (h : x = y) : ((x.toNat : Int) == (y.toNat : Int)) = true := by rw [intEq]; exact decide_eq_true h
theorem eqw_no {x y : W64} (h : x ≠ y) : ((x.toNat : Int) == (y.toNat : Int)) = false := by rw [intEq]; exact decide_eq_false h

set_option maxRecDepth 100000 in
set_option maxHeartbeats 2000000 in
theorem bottomBack_walk (x y : W64) (w : World) :
    Calls Try.prog 5 #[.int .u64 (x.toNat : Int), .int .u64 (y.toNat : Int)] w fun e w' => e = .returned (.bool true) ∧ Below w.heap.size w w' := by
  have CA := Lib.hid (alive12_any w)
  have M1 : Hid (∀ w, Calls Try.prog 10 _ w _) := fun w => mix_any x w
  have M2 : Hid (∀ w, Calls Try.prog 10 _ w _) := fun w => mix_any y w
  have M3 : Hid (∀ w, Calls Try.prog 10 _ w _) := fun w => mix_any (unmix x) w
  have N1 : Hid (∀ w, Calls Try.prog 12 _ w _) := fun w => unmix_any (mix x) w
  have N2 : Hid (∀ w, Calls Try.prog 12 _ w _) := fun w => unmix_any x w
  rw [unmix_mix] at N1
  rw [mix_unmix] at M3
  have hxx : ((x.toNat : Int) == (x.toNat : Int)) = true := eqw_yes rfl
  have hi := mix_iff x y
  generalize hm : mix x = m at *
  generalize hn : mix y = n at *
  generalize unmix x = u at *
  clear hm hn
  by_cases h : x = y
  case' pos =>
    have e1 := eqw_yes h
    have e2 := eqw_yes (hi.2 h)
  case' neg =>
    have e1 := eqw_no h
    have e2 := eqw_no (fun e => h (hi.1 e))
  all_goals
    clear hi h
    go_enter Try.func5, Try.ntmps5
    go_wp2_with fail
    refine CA.out.mono ?_
    rintro e w1 ⟨rfl, hb⟩
    have HB := Lib.hid hb
    clear hb CA
    go_wp2_with fail
    refine (M1.out _).mono ?_
    rintro e w2 ⟨rfl, rfl⟩
    go_wp2_with fail
    refine (N1.out _).mono ?_
    rintro e w2 ⟨rfl, rfl⟩
    go_wp2_with fail
    refine (N2.out _).mono ?_
    rintro e w2 ⟨rfl, rfl⟩
    go_wp2_with fail
    refine (M3.out _).mono ?_
    rintro e w2 ⟨rfl, rfl⟩
    go_wp2_with fail
    refine (M1.out _).mono ?_
    rintro e w2 ⟨rfl, rfl⟩
    go_wp2_with fail
    refine (M2.out _).mono ?_
    rintro e w2 ⟨rfl, rfl⟩
    go_wp2
    go_ret
    exact ⟨rfl, HB.out⟩
end Go.Proofs.Ytnihcpaakbhpcaa
