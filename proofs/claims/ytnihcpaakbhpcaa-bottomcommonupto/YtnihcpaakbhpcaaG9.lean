/- lotdrawerkeep.BottomLess: the walk. -/
import Derived.Test.YtnihcpaakbhpcaaG7
namespace Go.Proofs.Ytnihcpaakbhpcaa
open Go.RowKit Go.Deep

theorem allF_ok {s : W64} {r : Int} {l : List W64} (h : 1 ≤ r ∧ r ≤ 400) : allF s r l = (skL s r l, 0) := if_pos h
theorem allF_bad {s : W64} {r : Int} {l : List W64} (h : ¬ (1 ≤ r ∧ r ≤ 400)) : allF s r l = ([], 2) := if_neg h
theorem skL_len (s : W64) (r : Int) (l : List W64) (h : 0 ≤ r) : ((skL s r l).length : Int) ≤ r := by
  have := ske_len (rk s) r.toNat l
  unfold skL
  omega
theorem allF_cases (s : W64) (r m : Int) (l : List W64) : (allF s r l).2 = 2 ∨ ((allF s r l).2 = 0 ∧ (allF s m l).2 = 2) ∨ ((allF s r l).2 = 0 ∧ (allF s m l).2 = 0 ∧ r < m) ∨
    ((allF s r l).2 = 0 ∧ (allF s m l).2 = 0 ∧ m ≤ r ∧ ((allF s m l).1.length : Int) = min m ((allF s r l).1.length : Int) ∧ (allF s r l).1.take (allF s m l).1.length = (allF s m l).1) := by
  by_cases h1 : 1 ≤ r ∧ r ≤ 400
  · by_cases h2 : 1 ≤ m ∧ m ≤ 400
    · rw [allF_ok h1, allF_ok h2]
      rcases Int.lt_or_le r m with h3 | h3
      · exact .inr (.inr (.inl ⟨rfl, rfl, h3⟩))
      · have e : skL s m l = (skL s r l).take m.toNat := ske_less (rk s) (by omega) l
        refine .inr (.inr (.inr ⟨rfl, rfl, h3, ?_, ?_⟩))
        · show ((skL s m l).length : Int) = min m ((skL s r l).length : Int)
          rw [e, List.length_take]; omega
        · show (skL s r l).take (skL s m l).length = skL s m l
          rw [e, List.length_take]
          rcases Nat.le_total m.toNat (skL s r l).length with h | h
          · rw [Nat.min_eq_left h]
          · rw [Nat.min_eq_right h, List.take_of_length_le h, List.take_of_length_le (Nat.le_refl _)]
    · rw [allF_ok h1, allF_bad h2]; exact .inr (.inl ⟨rfl, rfl⟩)
  · rw [allF_bad h1]; exact .inl rfl

set_option maxRecDepth 100000 in
set_option maxHeartbeats 2000000 in
theorem bottomLess_walk (s : W64) (r m : Int) (A : Option Addr) (ca : Nat) (l : List W64) (w : World) (hl : UP w A ca l) (hs : l.length ≤ 17592186044416) :
    Calls Try.prog 8 #[.int .u64 (s.toNat : Int), .int .i64 r, .int .i64 m, .slice A l.length ca] w fun e w' => e = .returned (.bool true) ∧ Below w.heap.size w w' := by
  have CA := Lib.hid (alive12_any w)
  have C1 : Hid (∀ w1, Below w.heap.size w w1 → Calls Try.prog 16 #[.int .u64 (s.toNat : Int), .int .i64 r, .slice A l.length ca] w1 (UOPost w1 (allF s r l))) := fun w1 h => all_any s r A ca l w1 (hl.later h) hs
  have C2 : Hid (∀ w1, Below w.heap.size w w1 → Calls Try.prog 16 #[.int .u64 (s.toNat : Int), .int .i64 m, .slice A l.length ca] w1 (UOPost w1 (allF s m l))) := fun w1 h => all_any s m A ca l w1 (hl.later h) hs
  have hc := allF_cases s r m l
  generalize allF s r l = p1 at *
  generalize allF s m l = p2 at *
  obtain ⟨a, e1⟩ := p1
  obtain ⟨b, e2⟩ := p2
  dsimp only at hc
  obtain ⟨n, hn⟩ : ∃ n, l.length = n := ⟨_, rfl⟩
  rw [hn] at C1 C2 ⊢
  clear hl hs hn
  rcases hc with rfl | ⟨rfl, rfl⟩ | ⟨rfl, rfl, hrm⟩ | ⟨rfl, rfl, hrm, hlen, htk⟩
  all_goals
    go_enter Try.func8, Try.ntmps8
    go_wp2_with fail
    refine CA.out.mono ?_
    rintro e w1 ⟨rfl, hb⟩
    have HB := Lib.hid hb
    clear hb CA
    go_wp2_with fail
    refine (C1.out _ HB.out).mono ?_
    rintro e w2 ⟨v, rfl, hO, hb⟩
    obtain ⟨R, cr, rfl, hU⟩ := hO.up
    dsimp only at hU ⊢
    have HB2 := Lib.hid (HB.out.trans (hb.mono HB.out.size))
    have HU := Lib.hid hU
    clear hb hO hU
    go_wp2_with fail
    refine (C2.out _ HB2.out).mono ?_
    rintro e w3 ⟨v, rfl, hO, hb⟩
    obtain ⟨R2, cr2, rfl, hU⟩ := hO.up
    dsimp only at hU ⊢
    have HB3 := Lib.hid (HB2.out.trans (hb.mono HB2.out.size))
    have HU1 := Lib.hid (HU.out.later hb)
    have HU2 := Lib.hid hU
    clear hb hO hU HB2 HU C1 C2
  · go_wp2
    go_ret
    exact ⟨rfl, HB3.out⟩
  · go_wp2
    go_ret
    exact ⟨rfl, HB3.out⟩
  · have d1 : decide (r < m) = true := decide_eq_true hrm
    go_wp2
    go_ret
    exact ⟨rfl, HB3.out⟩
  · have HTK := Lib.hid htk
    have HLE : Hid ((b.length : Int) = min m (a.length : Int)) := hlen
    obtain ⟨k, hk⟩ : ∃ k : Nat, min m (a.length : Int) = k := ⟨b.length, by omega⟩
    have hbk : b.length = k := by omega
    have hka : k ≤ a.length := by omega
    clear htk hlen
    have d1 : decide (r < m) = false := decide_eq_false (by omega)
    have hc1 := HU1.out.cap
    have hl1 := HU1.out.le
    have hc2 := HU2.out.cap
    have hl2 := HU2.out.le
    have C := Lib.hid (uequal_any R R2 cr cr2 (a.take b.length) b w3 (HU1.out.ul.take _) HU2.out.ul (by rw [List.length_take]; omega) (by omega))
    rw [HTK.out, hbk] at C
    simp only [decide_true] at C
    rw [hbk]
    clear HLE HTK HU1 HU2 hrm
    go_wp2_with fail
    refine C.out.mono ?_
    rintro e w4 ⟨rfl, hb⟩
    have HB4 := Lib.hid (HB3.out.trans (hb.mono HB3.out.size))
    clear hb C
    go_wp2
    go_ret
    exact ⟨rfl, HB4.out⟩
end Go.Proofs.Ytnihcpaakbhpcaa
