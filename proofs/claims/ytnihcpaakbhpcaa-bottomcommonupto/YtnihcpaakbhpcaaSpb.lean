/- slices.choosePivotOrdered of words: a place of the part. -/
import Derived.Test.YtnihcpaakbhpcaaSpa
namespace Go.Proofs.Ytnihcpaakbhpcaa
open Go.RowKit Go.Deep

def VPost (w : World) (a b : Nat) (e : Ending) (w' : World) : Prop := ∃ (x : Nat) (h : Int), e = .returned (.tuple #[.int .i64 x, .int .i64 h]) ∧ a ≤ x ∧ x < b ∧ Below w.heap.size w w'

set_option maxRecDepth 100000 in
set_option maxHeartbeats 4000000 in
theorem pivot_any (B g cap n a b : Nat) (l : List W64) (w : World) (hO : OU w B (.slice (some ⟨g, 0, none⟩) n cap) l) (hn : l.length = n) (hg : g < w.heap.size) (hab : a + 12 < b) (hb : b ≤ n) (hs : n ≤ 17592186044416) :
    Calls Try.prog 71 #[.slice (some ⟨g, 0, none⟩) n cap, .int .i64 a, .int .i64 b] w (VPost w a b) := by
  have HV : Hid (∀ k, (Value.slice (some ⟨g, 0, none⟩) n cap).ownBlock = some k → k < w.heap.size) := fun k hk => by cases hk; exact hg
  have K1 := Lib.hid (fun (a : Nat) (s : Int) (w1 : World) (h1 : 1 ≤ a) (ha : a + 1 < n) (hb : Below w.heap.size w w1) (h2 : Boxed w1 w.heap.size 3 (.int .i64 s)) => medianA_any B g cap n a w.heap.size s l w1 (hO.low HV.out hb) hn hg h1 ha hs h2)
  have K2 := Lib.hid (fun (a b c : Nat) (s : Int) (w1 : World) (ha : a < n) (hb : b < n) (hc : c < n) (hb : Below w.heap.size w w1) (h2 : Boxed w1 w.heap.size 3 (.int .i64 s)) => median_any B g cap n a b c w.heap.size s l w1 (hO.low HV.out hb) hn hg ha (by assumption) hc hs h2)
  have hbox : Below w.heap.size w (w.alloc (.cells #[.int .i64 0] 3)) := (Below.refl _ _).alloc (Nat.le_refl _) _
  have HB0 := Lib.hid hbox
  have HX0 := Lib.hid (Boxed.new w 3 (.int .i64 0))
  clear hO hn hbox
  obtain ⟨L, hL⟩ : ∃ L : Nat, L = b - a := ⟨_, rfl⟩
  obtain ⟨q, hq⟩ : ∃ q : Nat, q = L / 4 := ⟨_, rfl⟩
  have e1 : (b : Int) - (a : Int) = (L : Int) := by omega
  have e2 : IntKind.i64.wrap (L : Int) = (L : Int) := IntWalk.i64_in _ (by omega)
  have e5 : Int.tdiv (L : Int) 4 = (q : Int) := by rw [hq]; simp
  have e6 : IntKind.i64.wrap (q : Int) = (q : Int) := IntWalk.i64_in _ (by omega)
  obtain ⟨q2, hq2⟩ : ∃ q2 : Nat, q2 = q * 2 := ⟨_, rfl⟩
  obtain ⟨q3, hq3⟩ : ∃ q3 : Nat, q3 = q * 3 := ⟨_, rfl⟩
  have e7 : (q : Int) * 2 = (q2 : Int) := by omega
  have e8 : (q : Int) * 3 = (q3 : Int) := by omega
  have e9 : IntKind.i64.wrap (q2 : Int) = (q2 : Int) := IntWalk.i64_in _ (by omega)
  have e10 : IntKind.i64.wrap (q3 : Int) = (q3 : Int) := IntWalk.i64_in _ (by omega)
  obtain ⟨i, hi⟩ : ∃ i : Nat, i = a + q := ⟨_, rfl⟩
  obtain ⟨j, hj⟩ : ∃ j : Nat, j = a + q2 := ⟨_, rfl⟩
  obtain ⟨k, hk⟩ : ∃ k : Nat, k = a + q3 := ⟨_, rfl⟩
  have e11 : (a : Int) + (q : Int) = (i : Int) := by omega
  have e12 : (a : Int) + (q2 : Int) = (j : Int) := by omega
  have e13 : (a : Int) + (q3 : Int) = (k : Int) := by omega
  have e14 : IntKind.i64.wrap (i : Int) = (i : Int) := IntWalk.i64_in _ (by omega)
  have e15 : IntKind.i64.wrap (j : Int) = (j : Int) := IntWalk.i64_in _ (by omega)
  have e16 : IntKind.i64.wrap (k : Int) = (k : Int) := IntWalk.i64_in _ (by omega)
  have d1 : decide ((8 : Int) ≤ (L : Int)) = true := decide_eq_true (by omega)
  have HR := Lib.hid (show a + 1 ≤ i ∧ i + 1 < b ∧ a + 1 ≤ j ∧ j + 1 < b ∧ a + 1 ≤ k ∧ k + 1 < b by omega)
  by_cases h50 : 50 ≤ L
  · have d2 : decide ((50 : Int) ≤ (L : Int)) = true := decide_eq_true (by omega)
    clear hL hq hq2 hq3 hi hj hk h50
    go_enter Try.func71, Try.ntmps71
    go_wp2_with fail
    refine (K1.out i 0 _ (by have := HR.out; omega) (by have := HR.out; omega) HB0.out HX0.out).mono ?_
    rintro e w1 ⟨x1, rfl, hx, ⟨s1, hp1⟩, hb1⟩
    have X1 := Lib.hid hx
    have H1 := Lib.hid hp1
    have B1 := Lib.hid (HB0.out.trans hb1)
    clear hx hp1 hb1 HB0 HX0
    go_wp2_with fail
    refine (K1.out j s1 w1 (by have := HR.out; omega) (by have := HR.out; omega) B1.out H1.out).mono ?_
    rintro e w2 ⟨x2, rfl, hx, ⟨s2, hp1⟩, hb1⟩
    have X2 := Lib.hid hx
    have H2 := Lib.hid hp1
    have B2 := Lib.hid (B1.out.trans hb1)
    clear hx hp1 hb1 B1 H1
    go_wp2_with fail
    refine (K1.out k s2 w2 (by have := HR.out; omega) (by have := HR.out; omega) B2.out H2.out).mono ?_
    rintro e w3 ⟨x3, rfl, hx, ⟨s3, hp1⟩, hb1⟩
    have X3 := Lib.hid hx
    have H3 := Lib.hid hp1
    have B3 := Lib.hid (B2.out.trans hb1)
    clear hx hp1 hb1 B2 H2
    go_wp2_with fail
    refine (K2.out x1 x2 x3 s3 w3 (by have := HR.out; have := X1.out; omega) (by have := HR.out; have := X2.out; omega) (by have := HR.out; have := X3.out; omega) B3.out H3.out).mono ?_
    rintro e w4 ⟨x, rfl, hx, ⟨s4, hp1⟩, hb1⟩
    have HXX := Lib.hid (show a ≤ x ∧ x < b by have := HR.out; have := X1.out; have := X2.out; have := X3.out; omega)
    have c1 := hp1.cell
    have B4 := Lib.hid (B3.out.trans hb1)
    clear hx hp1 hb1 B3 H3
    by_cases h0 : s4 = 0
    · subst h0
      go_wp2
      go_ret2
      exact ⟨x, _, rfl, HXX.out.1, HXX.out.2, B4.out⟩
    · by_cases h12 : s4 = 12
      · subst h12
        go_wp2
        go_ret2
        exact ⟨x, _, rfl, HXX.out.1, HXX.out.2, B4.out⟩
      · have t1 : (s4 == 0) = false := by simp; exact h0
        have t2 : (s4 == 12) = false := by simp; exact h12
        clear h0 h12
        go_wp2
        go_ret2
        exact ⟨x, _, rfl, HXX.out.1, HXX.out.2, B4.out⟩
  · have d2 : decide ((50 : Int) ≤ (L : Int)) = false := decide_eq_false (by omega)
    clear hL hq hq2 hq3 hi hj hk h50
    go_enter Try.func71, Try.ntmps71
    go_wp2_with fail
    refine (K2.out i j k 0 _ (by have := HR.out; omega) (by have := HR.out; omega) (by have := HR.out; omega) HB0.out HX0.out).mono ?_
    rintro e w4 ⟨x, rfl, hx, ⟨s4, hp1⟩, hb1⟩
    have HXX := Lib.hid (show a ≤ x ∧ x < b by have := HR.out; omega)
    have c1 := hp1.cell
    have B4 := Lib.hid (HB0.out.trans hb1)
    clear hx hp1 hb1
    by_cases h0 : s4 = 0
    · subst h0
      go_wp2
      go_ret2
      exact ⟨x, _, rfl, HXX.out.1, HXX.out.2, B4.out⟩
    · by_cases h12 : s4 = 12
      · subst h12
        go_wp2
        go_ret2
        exact ⟨x, _, rfl, HXX.out.1, HXX.out.2, B4.out⟩
      · have t1 : (s4 == 0) = false := by simp; exact h0
        have t2 : (s4 == 12) = false := by simp; exact h12
        clear h0 h12
        go_wp2
        go_ret2
        exact ⟨x, _, rfl, HXX.out.1, HXX.out.2, B4.out⟩
end Go.Proofs.Ytnihcpaakbhpcaa
