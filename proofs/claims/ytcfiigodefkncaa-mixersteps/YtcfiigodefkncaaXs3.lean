import Derived.Test.YtcfiigodefkncaaXs2
/- mixer.unshift, mixer.Back, mixer.Seed, mixer.inRange. -/
namespace Go.Proofs.Ytcfiigodefkncaa
open Go.RowKit Go.Deep

theorem shlx_w (x : W64) (k : Nat) (p : Int) (hp : p = (2 ^ k : Nat)) : bits .xor .u64 (x.toNat : Int) (IntKind.u64.wrap ((x.toNat : Int) * p)) = ((shl k x).toNat : Int) := by
  rw [shl_w x k p hp, xor_w]; rfl
theorem add_w (x c : W64) (C : Int) (hC : C = (c.toNat : Int)) : IntKind.u64.wrap ((x.toNat : Int) + C) = ((x + c).toNat : Int) := by
  rw [hC, IntKind.wrap_u64, BitVec.toNat_add]
  omega

set_option maxRecDepth 100000 in
set_option maxHeartbeats 1000000 in
theorem munshift_any (x : W64) (w : World) : Calls Try.prog 21 #[.int .u64 (x.toNat : Int)] w fun e w' => e = .returned (.int .u64 ((ushl x).toNat : Int)) ∧ w' = w := by
  have e1 := shlx_w x 17 131072 rfl
  have e2 := shlx_w (shl 17 x) 34 17179869184 rfl
  have HE : Hid (ushl x = shl 34 (shl 17 x)) := rfl
  rw [HE.out]
  clear HE
  generalize shl 34 (shl 17 x) = z at *
  generalize shl 17 x = y at *
  go_enter Try.func21, Try.ntmps21
  go_wp2
  go_loop [0, 3] (fun m b => (m = .int .u64 (x.toNat : Int) ∧ b = .int .i64 17) ∨ (m = .int .u64 (y.toNat : Int) ∧ b = .int .i64 34) ∨ (m = .int .u64 (z.toNat : Int) ∧ b = .int .i64 68)) (fun _ b => 128 - (intOf b).toNat)
  case atStart => exact .inl ⟨rfl, rfl⟩
  case round =>
    rcases hrel with ⟨rfl, rfl⟩ | ⟨rfl, rfl⟩ | ⟨rfl, rfl⟩
    · go_wp2
      go_round
      case rel => exact .inr (.inl ⟨rfl, by go_num⟩)
      case measure => simp [intOf]
    · go_wp2
      go_round
      case rel => exact .inr (.inr ⟨rfl, by go_num⟩)
      case measure => simp [intOf]
    · go_wp2
      go_ret
      exact ⟨rfl, rfl⟩

set_option maxRecDepth 100000 in
set_option maxHeartbeats 1000000 in
theorem back_any (m : Mx) (w : World) : Calls Try.prog 10 #[mxv m] w fun e w' => e = .returned (mxv (bkN m)) ∧ Below w.heap.size w w' := by
  have C1 := Lib.hid (rotl19_any m.d)
  have C2 := Lib.hid (munshift_any (m.b ^^^ m.c))
  have e1 := xor_w m.a (rot 19 m.d)
  have e2 := xor_w m.b m.c
  have e3 := xor_w m.b (ushl (m.b ^^^ m.c))
  have e4 := xor_w (m.b ^^^ ushl (m.b ^^^ m.c)) (m.a ^^^ rot 19 m.d)
  have e5 := xor_w (rot 19 m.d) (ushl (m.b ^^^ m.c))
  have HE : Hid (bkN m = ⟨m.a ^^^ rot 19 m.d, ushl (m.b ^^^ m.c), m.b ^^^ ushl (m.b ^^^ m.c) ^^^ (m.a ^^^ rot 19 m.d), rot 19 m.d ^^^ ushl (m.b ^^^ m.c)⟩) := rfl
  rw [HE.out]
  clear HE
  generalize m.b ^^^ ushl (m.b ^^^ m.c) ^^^ (m.a ^^^ rot 19 m.d) = c' at *
  generalize m.b ^^^ ushl (m.b ^^^ m.c) = q at *
  generalize rot 19 m.d ^^^ ushl (m.b ^^^ m.c) = d' at *
  generalize m.a ^^^ rot 19 m.d = a' at *
  generalize ushl (m.b ^^^ m.c) = b' at *
  generalize m.b ^^^ m.c = s at *
  generalize rot 19 m.d = f at *
  obtain ⟨a, b, c, d⟩ := m
  dsimp only at *
  unfold mxv
  dsimp only
  go_enter Try.func10, Try.ntmps10
  go_wp2_with fail
  refine (C1.out _).mono ?_
  rintro e w1 ⟨rfl, rfl⟩
  go_wp2_with fail
  refine (C2.out _).mono ?_
  rintro e w1 ⟨rfl, rfl⟩
  go_wp2
  exact ret_mx (p := 2) (m := ⟨a', b', c', d'⟩) rfl rfl (heap_alloc2_new w _ _) rfl ⟨rfl, ((Below.refl _ w).alloc (Nat.le_refl _) _).alloc (by simp) _⟩

/-- What SplitMix64 adds. -/
def KI : W64 := 0x9e3779b97f4a7c15#64
def seedX (n : W64) : Mx := ⟨mix (n + KI), mix (n + KI + KI), mix (n + KI + KI + KI), mix (n + KI + KI + KI + KI)⟩

set_option maxRecDepth 100000 in
set_option maxHeartbeats 2000000 in
theorem seed_any (n : W64) (w : World) : Calls Try.prog 11 #[.int .u64 (n.toNat : Int)] w fun e w' => e = .returned (mxv (seedX n)) ∧ Below w.heap.size w w' := by
  have a1 := add_w n KI 11400714819323198485 rfl
  have a2 := add_w (n + KI) KI 11400714819323198485 rfl
  have a3 := add_w (n + KI + KI) KI 11400714819323198485 rfl
  have a4 := add_w (n + KI + KI + KI) KI 11400714819323198485 rfl
  have C1 := Lib.hid (mix_any (n + KI))
  have C2 := Lib.hid (mix_any (n + KI + KI))
  have C3 := Lib.hid (mix_any (n + KI + KI + KI))
  have C4 := Lib.hid (mix_any (n + KI + KI + KI + KI))
  have HE : Hid (seedX n = ⟨mix (n + KI), mix (n + KI + KI), mix (n + KI + KI + KI), mix (n + KI + KI + KI + KI)⟩) := rfl
  rw [HE.out]
  clear HE
  generalize n + KI + KI + KI + KI = n4 at *
  generalize n + KI + KI + KI = n3 at *
  generalize n + KI + KI = n2 at *
  generalize n + KI = n1 at *
  generalize mix n1 = a at *
  generalize mix n2 = b at *
  generalize mix n3 = c at *
  generalize mix n4 = d at *
  unfold mxv
  dsimp only
  go_enter Try.func11, Try.ntmps11
  go_wp2
  go_loopw [0, 5] (fun nv iv wr => (nv = .int .u64 (n.toNat : Int) ∧ iv = .int .i64 0 ∧ wr = (w.alloc (.cells #[.int .u64 0, .int .u64 0, .int .u64 0, .int .u64 0] 24)).alloc (.cells #[.int .u64 0, .int .u64 0, .int .u64 0, .int .u64 0] 24)) ∨ (nv = .int .u64 (n1.toNat : Int) ∧ iv = .int .i64 1 ∧ wr = (w.alloc (.cells #[.int .u64 0, .int .u64 0, .int .u64 0, .int .u64 0] 24)).alloc (.cells #[.int .u64 (a.toNat : Int), .int .u64 0, .int .u64 0, .int .u64 0] 24)) ∨ (nv = .int .u64 (n2.toNat : Int) ∧ iv = .int .i64 2 ∧ wr = (w.alloc (.cells #[.int .u64 0, .int .u64 0, .int .u64 0, .int .u64 0] 24)).alloc (.cells #[.int .u64 (a.toNat : Int), .int .u64 (b.toNat : Int), .int .u64 0, .int .u64 0] 24)) ∨ (nv = .int .u64 (n3.toNat : Int) ∧ iv = .int .i64 3 ∧ wr = (w.alloc (.cells #[.int .u64 0, .int .u64 0, .int .u64 0, .int .u64 0] 24)).alloc (.cells #[.int .u64 (a.toNat : Int), .int .u64 (b.toNat : Int), .int .u64 (c.toNat : Int), .int .u64 0] 24)) ∨ (nv = .int .u64 (n4.toNat : Int) ∧ iv = .int .i64 4 ∧ wr = (w.alloc (.cells #[.int .u64 0, .int .u64 0, .int .u64 0, .int .u64 0] 24)).alloc (.cells #[.int .u64 (a.toNat : Int), .int .u64 (b.toNat : Int), .int .u64 (c.toNat : Int), .int .u64 (d.toNat : Int)] 24))) (fun _ iv _ => 4 - (intOf iv).toNat)
  case atStart => exact .inl ⟨rfl, rfl, rfl⟩
  case round =>
    rcases hrel with ⟨rfl, rfl, rfl⟩ | ⟨rfl, rfl, rfl⟩ | ⟨rfl, rfl, rfl⟩ | ⟨rfl, rfl, rfl⟩ | ⟨rfl, rfl, rfl⟩
    · go_wp2_with fail
      refine (C1.out _).mono ?_
      rintro e w1 ⟨rfl, rfl⟩
      go_wp2
      go_roundw
      case rel => exact .inr (.inl ⟨rfl, by go_num, trivial⟩)
      case measure => simp [intOf]
    · go_wp2_with fail
      refine (C2.out _).mono ?_
      rintro e w1 ⟨rfl, rfl⟩
      go_wp2
      go_roundw
      case rel => exact .inr (.inr (.inl ⟨rfl, by go_num, trivial⟩))
      case measure => simp [intOf]
    · go_wp2_with fail
      refine (C3.out _).mono ?_
      rintro e w1 ⟨rfl, rfl⟩
      go_wp2
      go_roundw
      case rel => exact .inr (.inr (.inr (.inl ⟨rfl, by go_num, trivial⟩)))
      case measure => simp [intOf]
    · go_wp2_with fail
      refine (C4.out _).mono ?_
      rintro e w1 ⟨rfl, rfl⟩
      go_wp2
      go_roundw
      case rel => exact .inr (.inr (.inr (.inr ⟨rfl, by go_num, trivial⟩)))
      case measure => simp [intOf]
    · go_wp2
      exact ret_mx (p := 2) (m := ⟨a, b, c, d⟩) rfl rfl ((heap_alloc_old _ _ (by simp)).trans (heap_alloc_new w _)) rfl ⟨rfl, ((Below.refl _ w).alloc (Nat.le_refl _) _).alloc (by simp) _⟩
set_option maxHeartbeats 1000000 in
theorem minRange_any (n : Int) (w : World) : Calls Try.prog 24 #[.int .i64 n] w fun e w' => e = .returned (.bool (decide (0 ≤ n ∧ n ≤ 10000))) ∧ w' = w := by
  by_cases h1 : 0 ≤ n <;> by_cases h2 : n ≤ 10000
  all_goals
    go_enter Try.func24, Try.ntmps24
    go_wp2
    go_ret
    exact ⟨retB (by simp [h1, h2]), rfl⟩
end Go.Proofs.Ytcfiigodefkncaa
