/- lotdrawerref.MStep. -/
import Derived.Test.YtcfiigodefkncaaXr1
namespace Go.Proofs.Ytcfiigodefkncaa
open Go.RowKit Go.Deep

set_option maxRecDepth 100000 in
set_option maxHeartbeats 1000000 in
theorem mstep_any (m : Mx) (w : World) : Calls Try.prog 9 #[mxv m] w fun e w' => e = .returned (.tuple #[.int .u64 ((stO m).toNat : Int), mxv (stN m)]) ∧ Below w.heap.size w w' := by
  have C1 : Hid (∀ w, Calls Try.prog 20 #[.int .u64 ((m.b * 5#64 : W64).toNat : Int), .int .i64 7] w fun e w' => e = .returned (.int .u64 ((rot 7 (m.b * 5#64)).toNat : Int)) ∧ w' = w) := fun w => mturn_any (m.b * 5#64) 7 (by decide) w
  have C2 : Hid (∀ w, Calls Try.prog 20 #[.int .u64 ((m.d ^^^ m.b : W64).toNat : Int), .int .i64 45] w fun e w' => e = .returned (.int .u64 ((rot 45 (m.d ^^^ m.b)).toNat : Int)) ∧ w' = w) := fun w => mturn_any (m.d ^^^ m.b) 45 (by decide) w
  have e1 := mulK_w m.b 5#64 5 rfl
  have e2 := mulK_w (rot 7 (m.b * 5#64)) 9#64 9 rfl
  rw [Int.mul_comm] at e2
  have e3 := shl_w m.b 17 131072 rfl
  have e4 := xor_w m.c m.a
  have e5 := xor_w m.d m.b
  have e6 := xor_w m.b (m.c ^^^ m.a)
  have e7 := xor_w m.a (m.d ^^^ m.b)
  have e8 := xor_w (m.c ^^^ m.a) (m.b <<< 17)
  have HE : Hid (stN m = ⟨m.a ^^^ (m.d ^^^ m.b), m.b ^^^ (m.c ^^^ m.a), (m.c ^^^ m.a) ^^^ m.b <<< 17, rot 45 (m.d ^^^ m.b)⟩) := rfl
  have HO : Hid (stO m = rot 7 (m.b * 5#64) * 9#64) := rfl
  rw [HE.out, HO.out]
  clear HE HO
  generalize rot 45 (m.d ^^^ m.b) = d' at *
  generalize (m.c ^^^ m.a) ^^^ m.b <<< 17 = c' at *
  generalize m.b ^^^ (m.c ^^^ m.a) = b' at *
  generalize m.a ^^^ (m.d ^^^ m.b) = a' at *
  generalize m.d ^^^ m.b = f at *
  generalize m.c ^^^ m.a = q at *
  generalize m.b <<< 17 = t at *
  generalize rot 7 (m.b * 5#64) * 9#64 = o at *
  generalize rot 7 (m.b * 5#64) = r at *
  generalize m.b * 5#64 = x5 at *
  obtain ⟨a, b, c, d⟩ := m
  dsimp only at *
  unfold mxv
  dsimp only
  go_enter Try.func9, Try.ntmps9
  go_wp2
  go_region
  go_wp2_with fail
  refine (C1.out _).mono ?_
  rintro e w1 ⟨rfl, rfl⟩
  go_wp2_with fail
  refine (C2.out _).mono ?_
  rintro e w1 ⟨rfl, rfl⟩
  go_wp2
  exact ret_tmx (p := 3) (u := 2) (m := ⟨a', b', c', d'⟩) rfl rfl rfl (heap_alloc2_new w _ _) rfl ⟨rfl, (((Below.refl _ w).alloc (Nat.le_refl _) _).alloc (by simp) _).drew⟩
end Go.Proofs.Ytcfiigodefkncaa
