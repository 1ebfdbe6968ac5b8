/- slices.order2Ordered, medianOrdered, medianAdjacentOrdered of words: which places they answer. -/
import Derived.Test.YtnihcpaakbhpcaaSo2
import Derived.RangeFuncBox
namespace Go.Proofs.Ytnihcpaakbhpcaa
open Go.RowKit Go.Deep

/-- The list is read, a box of an integer is written. -/
def CPost (w : World) (p : Nat) (a b : Nat) (e : Ending) (w' : World) : Prop := ∃ x y : Nat, e = .returned (.tuple #[.int .i64 x, .int .i64 y]) ∧ (x = a ∧ y = b ∨ x = b ∧ y = a) ∧ (∃ s : Int, Boxed w' p 3 (.int .i64 s)) ∧ Below p w w'

set_option maxRecDepth 100000 in
set_option maxHeartbeats 2000000 in
theorem order2_any (B g cap n a b p : Nat) (s : Int) (l : List W64) (w : World) (hO : OU w B (.slice (some ⟨g, 0, none⟩) n cap) l) (hn : l.length = n) (hg : g < p) (ha : a < n) (hb : b < n) (hs : n ≤ 17592186044416) (hp : Boxed w p 3 (.int .i64 s)) :
    Calls Try.prog 94 #[.slice (some ⟨g, 0, none⟩) n cap, .int .i64 a, .int .i64 b, .pointer (some ⟨p, 0, none⟩)] w (CPost w p a b) := by
  have c1 := hO.at (i := a) (by omega)
  have c2 := hO.at (i := b) (by omega)
  have c3 := hp.cell
  have f3 := hp.frozen
  have i1 : (a : Int) < (n : Int) := by omega
  have i2 : (b : Int) < (n : Int) := by omega
  generalize l.getD a 0 = x at *
  generalize l.getD b 0 = y at *
  clear hO hn hs
  go_enter Try.func94, Try.ntmps94
  go_wp2_with fail
  go_quiet (first | (go_at_call 74; exact Calls.quiet_of_same (less_any _ _ _)))
  go_wp2
  all_goals
    go_ret2
    first
      | exact ⟨a, b, rfl, .inl ⟨rfl, rfl⟩, ⟨s, hp⟩, below_drewN (Below.refl _ _) _⟩
      | exact ⟨b, a, rfl, .inr ⟨rfl, rfl⟩, ⟨_, Boxed.set (W := w.drewN nq) _ hp⟩, (below_drewN (Below.refl _ _) nq).setCell (p := ⟨p, 0, none⟩) (Nat.le_refl _) _⟩

/-- One of three places. -/
def MPost3 (w : World) (p : Nat) (S : Nat → Prop) (e : Ending) (w' : World) : Prop := ∃ x : Nat, e = .returned (.int .i64 x) ∧ S x ∧ (∃ s : Int, Boxed w' p 3 (.int .i64 s)) ∧ Below p w w'

set_option maxRecDepth 100000 in
set_option maxHeartbeats 2000000 in
theorem median_any (B g cap n a b c p : Nat) (s : Int) (l : List W64) (w : World) (hO : OU w B (.slice (some ⟨g, 0, none⟩) n cap) l) (hn : l.length = n) (hg : g < p) (ha : a < n) (hb : b < n) (hc : c < n) (hs : n ≤ 17592186044416) (hp : Boxed w p 3 (.int .i64 s)) :
    Calls Try.prog 85 #[.slice (some ⟨g, 0, none⟩) n cap, .int .i64 a, .int .i64 b, .int .i64 c, .pointer (some ⟨p, 0, none⟩)] w (MPost3 w p fun x => x = a ∨ x = b ∨ x = c) := by
  have HO := Lib.hid hO
  have HV : Hid (∀ k, (Value.slice (some ⟨g, 0, none⟩) n cap).ownBlock = some k → k < p) := fun k hk => by cases hk; exact hg
  have K := Lib.hid (fun (a b : Nat) (ha : a < n) (hb : b < n) (s : Int) (w1 : World) (h1 : Below p w w1) (h2 : Boxed w1 p 3 (.int .i64 s)) => order2_any B g cap n a b p s l w1 (hO.low HV.out h1) hn hg ha hb hs h2)
  have HP := Lib.hid hp
  clear hO hn hp
  go_enter Try.func85, Try.ntmps85
  go_wp2_with fail
  refine (K.out a b ha hb s w (Below.refl _ _) HP.out).mono ?_
  rintro e w1 ⟨x1, y1, rfl, hx1, ⟨s1, hp1⟩, hb1⟩
  have H1 := Lib.hid hp1
  have B1 := Lib.hid hb1
  have X1 := Lib.hid hx1
  clear hp1 hb1 hx1
  go_wp2_with fail
  refine (K.out y1 c (by have := X1.out; omega) hc s1 w1 B1.out H1.out).mono ?_
  rintro e w2 ⟨x2, y2, rfl, hx2, ⟨s2, hp2⟩, hb2⟩
  have H2 := Lib.hid hp2
  have B2 := Lib.hid (B1.out.trans hb2)
  have X2 := Lib.hid hx2
  clear hp2 hb2 hx2
  go_wp2_with fail
  refine (K.out x1 x2 (by have := X1.out; omega) (by have := X1.out; have := X2.out; omega) s2 w2 B2.out H2.out).mono ?_
  rintro e w3 ⟨x3, y3, rfl, hx3, ⟨s3, hp3⟩, hb3⟩
  have H3 := Lib.hid hp3
  have B3 := Lib.hid (B2.out.trans hb3)
  have X3 := Lib.hid hx3
  clear hp3 hb3 hx3
  go_wp2
  go_ret
  exact ⟨y3, rfl, by have := X1.out; have := X2.out; have := X3.out; omega, ⟨s3, H3.out⟩, B3.out⟩

set_option maxRecDepth 100000 in
set_option maxHeartbeats 2000000 in
theorem medianA_any (B g cap n a p : Nat) (s : Int) (l : List W64) (w : World) (hO : OU w B (.slice (some ⟨g, 0, none⟩) n cap) l) (hn : l.length = n) (hg : g < p) (h1 : 1 ≤ a) (ha : a + 1 < n) (hs : n ≤ 17592186044416) (hp : Boxed w p 3 (.int .i64 s)) :
    Calls Try.prog 84 #[.slice (some ⟨g, 0, none⟩) n cap, .int .i64 a, .pointer (some ⟨p, 0, none⟩)] w (MPost3 w p fun x => a ≤ x + 1 ∧ x ≤ a + 1) := by
  obtain ⟨m, hm⟩ : ∃ m, a = m + 1 := ⟨a - 1, by omega⟩
  have hw2 : (a : Int) - 1 = (m : Int) := by omega
  have K := median_any B g cap n m a (a + 1) p s l w hO hn hg (by omega) (by omega) (by omega) hs hp
  rw [show ((a + 1 : Nat) : Int) = (a : Int) + 1 by omega] at K
  have K := Lib.hid K
  have HM := Lib.hid (show a = m + 1 from hm)
  clear hO hn hp hm
  go_enter Try.func84, Try.ntmps84
  go_wp2_with fail
  refine K.out.mono ?_
  rintro e w1 ⟨x, rfl, hx, hp1, hb1⟩
  have X1 := Lib.hid hx
  have H1 := Lib.hid hp1
  have B1 := Lib.hid hb1
  clear hx hp1 hb1 K
  go_wp2
  go_ret
  exact ⟨x, rfl, by have := X1.out; have := HM.out; omega, H1.out, B1.out⟩
end Go.Proofs.Ytnihcpaakbhpcaa
