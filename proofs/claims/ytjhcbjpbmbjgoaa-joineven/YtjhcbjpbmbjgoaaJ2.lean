/- join.pick, join.whole; two streams as a value. -/
import Derived.Test.YtjhcbjpbmbjgoaaJ1
import Derived.Test.YtjhcbjpbmbjgoaaZy
import Derived.Test.YtjhcbjpbmbjgoaaZl
import Derived.Test.YtjhcbjpbmbjgoaaPl
import Derived.Test.YtjhcbjpbmbjgoaaCk
import Derived.Deep.RegionHeld3
namespace Go.Proofs.Ytjhcbjpbmbjgoaa
open Go.RowKit Go.Deep

/-- A stream, two of them. -/
def sv (n : Int) (v : Value) : Value := .agg #[.int .i64 n, v]
def sv2 (na : Int) (va : Value) (nb : Int) (vb : Value) : Value := .agg #[.int .i64 na, va, .int .i64 nb, vb]
def QB (w : World) (g : Nat) (na : Int) (va : Value) (nb : Int) (vb : Value) : Prop := Bs 70 w g [.int .i64 na, va, .int .i64 nb, vb]
theorem QB.at {w : World} {g : Nat} {na nb : Int} {va vb : Value} (h : QB w g na va nb vb) : w.cell? ⟨g, 0, none⟩ = some (.int .i64 na) ∧ w.cell? ⟨g, 1, none⟩ = some va ∧ w.cell? ⟨g, 2, none⟩ = some (.int .i64 nb) ∧ w.cell? ⟨g, 3, none⟩ = some vb ∧
    w.frozen? ⟨g, 0, none⟩ = false ∧ w.frozen? ⟨g, 1, none⟩ = false ∧ w.frozen? ⟨g, 2, none⟩ = false ∧ w.frozen? ⟨g, 3, none⟩ = false :=
  ⟨Bs.cell h (j := 0) (by simp), Bs.cell h (j := 1) (by simp), Bs.cell h (j := 2) (by simp), Bs.cell h (j := 3) (by simp), Bs.frozen h 0, Bs.frozen h 1, Bs.frozen h 2, Bs.frozen h 3⟩

/-- Out of which stream. -/
def pickR (na nb d : Int) : Int × Int := if d < 0 ∨ na + nb ≤ d then (0, 2) else if d < na then (0, 0) else (1, 0)
set_option maxHeartbeats 2000000 in
theorem pick_any (na nb d : Int) (va vb : Value) (w : World) (h1 : 0 ≤ na) (h2 : 0 ≤ nb) (h3 : na ≤ 1099511627776) (h4 : nb ≤ 1099511627776) :
    Calls Try.prog 42 #[sv2 na va nb vb, .int .i64 d] w fun e w' => e = .returned (ptup (pickR na nb d)) ∧ Below w.heap.size w w' := by
  have HB : Hid (Below w.heap.size w (w.alloc (.cells #[.int .i64 na, va, .int .i64 nb, vb] 70))) := (Below.refl _ _).alloc (Nat.le_refl _) _
  have HQ : QB (w.alloc (.cells #[.int .i64 na, va, .int .i64 nb, vb] 70)) w.heap.size na va nb vb := heap_alloc_new w _
  obtain ⟨c0, c1, c2, c3, _⟩ := HQ.at
  unfold sv2
  rcases (show d < 0 ∨ (0 ≤ d ∧ na + nb ≤ d) ∨ (0 ≤ d ∧ d < na + nb ∧ d < na) ∨ (0 ≤ d ∧ d < na + nb ∧ na ≤ d) by omega) with h | ⟨h, h5⟩ | ⟨h, h5, h6⟩ | ⟨h, h5, h6⟩
  · have E : Hid (pickR na nb d = (0, 2)) := if_pos (.inl h)
    go_enter Try.func42, Try.ntmps42
    go_wp2
    go_ret2
    exact ⟨by rw [E.out]; rfl, HB.out⟩
  · have E : Hid (pickR na nb d = (0, 2)) := if_pos (.inr h5)
    go_enter Try.func42, Try.ntmps42
    go_wp2
    go_ret2
    exact ⟨by rw [E.out]; rfl, HB.out⟩
  · have E : Hid (pickR na nb d = (0, 0)) := (if_neg (by omega)).trans (if_pos h6)
    go_enter Try.func42, Try.ntmps42
    go_wp2
    go_ret2
    exact ⟨by rw [E.out]; rfl, HB.out⟩
  · have E : Hid (pickR na nb d = (1, 0)) := (if_neg (by omega)).trans (if_neg (by omega))
    go_enter Try.func42, Try.ntmps42
    go_wp2
    go_ret2
    exact ⟨by rw [E.out]; rfl, HB.out⟩
end Go.Proofs.Ytjhcbjpbmbjgoaa
