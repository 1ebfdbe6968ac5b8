/- mixer.Step. -/
import Derived.Test.YtcfiigodefkncaaXs1
namespace Go.Proofs.Ytcfiigodefkncaa
open Go.RowKit Go.Deep

set_option maxRecDepth 100000 in
set_option maxHeartbeats 1000000 in
theorem step_any (m : Mx) (w : World) : Calls Try.prog 8 #[mxv m] w fun e w' => e = .returned (.tuple #[.int .u64 ((stO m).toNat : Int), mxv (stN m)]) ∧ Below w.heap.size w w' := by
  have C1 := Lib.hid (rotl7_any (m.b * 5#64))
  have C2 := Lib.hid (rotl45_any (m.d ^^^ m.b))
  have e1 := mulK_w m.b 5#64 5 rfl
  have e2 := mulK_w (rot 7 (m.b * 5#64)) 9#64 9 rfl
  have e3 := shl_w m.b 17 131072 rfl
  have e4 := xor_w m.c m.a
  have e5 := xor_w m.d m.b
  have e6 := xor_w m.b (m.c ^^^ m.a)
  have e7 := xor_w m.a (m.d ^^^ m.b)
  have e8 := xor_w (m.c ^^^ m.a) (m.b <<< 17)
  have HE : Hid (stN m = ⟨m.a ^^^ (m.d ^^^ m.b), m.b ^^^ (m.c ^^^ m.a), (m.c ^^^ m.a) ^^^ m.b <<< 17, rot 45 (m.d ^^^ m.b)⟩) := rfl
  have HO : Hid (stO m = rot 7 (m.b * 5#64) * 9#64) := rfl
  rw [HE.out, HO.out]
  clear HE HO
  generalize rot 45 (m.d ^^^ m.b) = d' at *
  generalize (m.c ^^^ m.a) ^^^ m.b <<< 17 = c' at *
  generalize m.b ^^^ (m.c ^^^ m.a) = b' at *
  generalize m.a ^^^ (m.d ^^^ m.b) = a' at *
  generalize m.d ^^^ m.b = f at *
  generalize m.c ^^^ m.a = q at *
  generalize m.b <<< 17 = t at *
  generalize rot 7 (m.b * 5#64) * 9#64 = o at *
  generalize rot 7 (m.b * 5#64) = r at *
  generalize m.b * 5#64 = x5 at *
  obtain ⟨a, b, c, d⟩ := m
  dsimp only at *
  unfold mxv
  dsimp only
  go_enter Try.func8, Try.ntmps8
  go_wp2_with fail
  refine (C1.out _).mono ?_
  rintro e w1 ⟨rfl, rfl⟩
  go_wp2_with fail
  refine (C2.out _).mono ?_
  rintro e w1 ⟨rfl, rfl⟩
  go_wp2
  go_region
  go_wp2
  exact ret_tmx (p := 3) (u := 2) (m := ⟨a', b', c', d'⟩) rfl rfl rfl (heap_alloc2_new w _ _) rfl ⟨rfl, ((Below.refl _ w).alloc (Nat.le_refl _) _).alloc (by simp) _ |>.drew⟩
end Go.Proofs.Ytcfiigodefkncaa
