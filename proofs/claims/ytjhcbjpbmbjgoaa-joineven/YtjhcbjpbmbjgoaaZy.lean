/- Reservoirs as values; pool.rightRoom, Right. -/
import Derived.Test.YtjhcbjpbmbjgoaaZa
import Derived.Test.YtjhcbjpbmbjgoaaOi
import Derived.Laws.ResultCell
import Derived.Laws.Rows
namespace Go.Proofs.Ytjhcbjpbmbjgoaa
open Go.RowKit Go.Deep

/-- A reservoir as a value. -/
def pv (r c : Int) (v : Value) : Value := .agg #[.int .i64 r, .int .i64 c, v]
/-- Block g is a variable that holds a reservoir. -/
def PB (w : World) (g : Nat) (r c : Int) (v : Value) : Prop := Bs 28 w g [.int .i64 r, .int .i64 c, v]
theorem PB.at {w : World} {g : Nat} {r c : Int} {v : Value} (h : PB w g r c v) : w.cell? ⟨g, 0, none⟩ = some (.int .i64 r) ∧ w.cell? ⟨g, 1, none⟩ = some (.int .i64 c) ∧ w.cell? ⟨g, 2, none⟩ = some v ∧ w.frozen? ⟨g, 0, none⟩ = false ∧ w.frozen? ⟨g, 1, none⟩ = false ∧ w.frozen? ⟨g, 2, none⟩ = false :=
  ⟨Bs.cell h (j := 0) (by simp), Bs.cell h (j := 1) (by simp), Bs.cell h (j := 2) (by simp), Bs.frozen h 0, Bs.frozen h 1, Bs.frozen h 2⟩
theorem PB.new (w : World) (r c : Int) (v : Value) : PB (w.alloc (.cells #[.int .i64 r, .int .i64 c, v] 28)) w.heap.size r c v := heap_alloc_new w _
theorem PB.new2 (w : World) (o : Obj) (r c : Int) (v : Value) : PB ((w.alloc o).alloc (.cells #[.int .i64 r, .int .i64 c, v] 28)) (w.heap.size + 1) r c v := heap_alloc2_new w _ _
theorem PB.new2s (w : World) (a : Addr) (u : Value) (o : Obj) (r c : Int) (v : Value) : PB (((w.setCell a u).alloc o).alloc (.cells #[.int .i64 r, .int .i64 c, v] 28)) (w.heap.size + 1) r c v := by
  have := PB.new2 (w.setCell a u) o r c v
  simpa using this
theorem PB.alloc {w : World} {g : Nat} {r c : Int} {v : Value} (h : PB w g r c v) (o : Obj) : PB (w.alloc o) g r c v := by
  unfold PB Bs at *
  rw [Below.heap_alloc w o g (lt_of_block h)]; exact h
theorem PB.below {w w' : World} {B g : Nat} {r c : Int} {v : Value} (h : PB w g r c v) (hb : Below B w w') (hg : g < B) : PB w' g r c v := Bs.below h hb hg
theorem PB.later {w w' : World} {g : Nat} {r c : Int} {v : Value} (h : PB w g r c v) (hb : Below w.heap.size w w') : PB w' g r c v := Bs.below h hb (Bs.lt h)
theorem PB.grown {w w' : World} {g : Nat} {r c : Int} {v : Value} {row : Option Nat} (h : PB w g r c v) (hb : w.grownBy w' row) (hg : row ≠ some g) : PB w' g r c v := by
  unfold PB Bs at *
  rw [← h]
  exact hb.block g (Bs.lt h) (fun e => hg e.symm)
theorem PB.set0 {w : World} {g : Nat} {r c : Int} {v : Value} (h : PB w g r c v) (x : Int) : PB (w.setCell ⟨g, 0, none⟩ (.int .i64 x)) g x c v := Bs.set h 0 (.int .i64 x)
theorem PB.set1 {w : World} {g : Nat} {r c : Int} {v : Value} (h : PB w g r c v) (x : Int) : PB (w.setCell ⟨g, 1, none⟩ (.int .i64 x)) g r x v := Bs.set h 1 (.int .i64 x)
theorem PB.set2 {w : World} {g : Nat} {r c : Int} {v : Value} (h : PB w g r c v) (x : Value) : PB (w.setCell ⟨g, 2, none⟩ x) g r c x := Bs.set h 2 x
theorem PB.other {w : World} {g : Nat} {r c : Int} {v : Value} (h : PB w g r c v) {a : Addr} (ha : g ≠ a.block) (x : Value) : PB (w.setCell a x) g r c v := by
  unfold PB Bs at *
  rw [Below.heap_setCell _ _ _ _ ha]; exact h
theorem OI.pool {w : World} {B g : Nat} {r c : Int} {u v : Value} {xs : List Int} (h : OI w B v xs) (hg : PB w g r c u) : v.ownBlock ≠ some g := by
  intro e
  rcases h.2 with ⟨rfl, _⟩ | ⟨g', cap, cur, rfl, hB, hh, _⟩
  · cases e
  · simp [Value.ownBlock] at e
    subst e
    unfold PB Bs at hg
    rw [hh] at hg
    simp at hg
theorem OI.other {w : World} {B g : Nat} {r c : Int} {u v : Value} {xs : List Int} (h : OI w B v xs) (hg : PB w g r c u) {j : Nat} (x : Value) : OI (w.setCell ⟨g, j, none⟩ x) B v xs := ownsRow_setCell_other h (h.pool hg) x

theorem OI.shape {w : World} {B : Nat} {v : Value} {xs : List Int} (h : OI w B v xs) : ∃ (R : Option Addr) (cr : Nat), v = .slice R xs.length cr := by
  obtain ⟨R, cr, e, _⟩ := h.ip
  exact ⟨R, cr, e⟩
theorem OI.lower {w : World} {B B' : Nat} {v : Value} {xs : List Int} (h : OI w B v xs) (hb : B' ≤ B) : OI w B' v xs := by
  refine ⟨h.1, ?_⟩
  rcases h.2 with h | ⟨g, cap, cur, hv, hB, hg, h1, h2, h3, h4⟩
  · exact .inl h
  · exact .inr ⟨g, cap, cur, hv, Nat.le_trans hb hB, hg, h1, h2, h3, h4⟩
theorem PB.store {w : World} {g : Nat} {r c : Int} {v : Value} (h : PB w g r c v) (r' c' : Int) (v' : Value) : PB (((w.setCell ⟨g, 0, none⟩ (.int .i64 r')).setCell ⟨g, 1, none⟩ (.int .i64 c')).setCell ⟨g, 2, none⟩ v') g r' c' v' := ((h.set0 r').set1 c').set2 v'
theorem OI.store {w : World} {B g : Nat} {r c : Int} {u v : Value} {xs : List Int} (h : OI w B v xs) (hg : PB w g r c u) (r' c' : Int) (v' : Value) : OI (((w.setCell ⟨g, 0, none⟩ (.int .i64 r')).setCell ⟨g, 1, none⟩ (.int .i64 c')).setCell ⟨g, 2, none⟩ v') B v xs := ((h.other hg _).other (hg.set0 r') _).other ((hg.set0 r').set1 c') _
theorem below_store {B g : Nat} {a w : World} (h : Below B a w) (hg : B ≤ g) (x y z : Value) : Below B a (((w.setCell ⟨g, 0, none⟩ x).setCell ⟨g, 1, none⟩ y).setCell ⟨g, 2, none⟩ z) := ((h.setCell hg x).setCell hg y).setCell hg z
theorem ret_pool {fn : Func} {p u : Tmp} (h : fn.results = #[.cell p 28, .tmp u]) {R : Ending → World → Prop} {a : Act} {w : World} {g : Nat} {r c : Int} {v x : Value} (hp : a.tmps.getD p undef = .pointer (some ⟨g, 0, none⟩)) (hu : a.tmps.getD u undef = x)
    (hg : PB w g r c v) (hd : a.defers = []) (hR : R (.returned (.tuple #[pv r c v, x])) w) : bodyPost Try.prog fn R .ret a w := by
  refine bodyPost_ret (v := .tuple #[pv r c v, x]) ?_ hd hR
  rw [results_cell_tmp h, hp, hu]
  have hl := run_loadVar_row (P := Try.prog) w g 28 28 #[.int .i64 r, .int .i64 c, v] (0, 0) _ hg Try.underlying28 rfl (by kernel_rfl)
  simp [asAddr, hl, pv]
theorem ret_pool1 {fn : Func} {p : Tmp} (h : fn.results = #[.cell p 28]) {R : Ending → World → Prop} {a : Act} {w : World} {g : Nat} {r c : Int} {v : Value} (hp : a.tmps.getD p undef = .pointer (some ⟨g, 0, none⟩))
    (hg : PB w g r c v) (hd : a.defers = []) (hR : R (.returned (pv r c v)) w) : bodyPost Try.prog fn R .ret a w :=
  bodyPost_ret (results_cell_row h a.tmps w g 28 #[.int .i64 r, .int .i64 c, v] (0, 0) _ hp hg Try.underlying28 rfl (by kernel_rfl)) hd hR
/-- A reservoir and an error as they come back. -/
def PPost (B : Nat) (w : World) (q : Res) (e : Ending) (w' : World) : Prop := ∃ v, e = .returned (.tuple #[pv q.1.1 q.1.2.1 v, .int .i64 q.2]) ∧ OI w' B v q.1.2.2 ∧ Below B w w'
theorem ppost_none {B : Nat} {w w' : World} {e : Int} (h : Below B w w') : PPost B w (pz, e) (.returned (.tuple #[pv 0 0 (.slice none 0 0), .int .i64 e])) w' := ⟨_, rfl, OI.nil _ _, h⟩

/-- May a reservoir have that room? -/
def rrB (r : Int) : Bool := decide (1 ≤ r ∧ r ≤ 400)
def prB (r c : Int) (xs : List Int) : Bool := decide (PR r c xs)
set_option maxHeartbeats 1000000 in
theorem rightRoom_any (r : Int) (w : World) : Calls Try.prog 41 #[.int .i64 r] w fun e w' => e = .returned (.bool (rrB r)) ∧ w' = w := by
  by_cases h1 : 1 ≤ r
  · by_cases h2 : r ≤ 400
    · have E : Hid (rrB r = true) := decide_eq_true ⟨h1, h2⟩
      go_enter Try.func41, Try.ntmps41
      go_wp2
      go_ret
      exact ⟨by rw [E.out]; rfl, rfl⟩
    · have E : Hid (rrB r = false) := decide_eq_false (fun h => h2 h.2)
      go_enter Try.func41, Try.ntmps41
      go_wp2
      go_ret
      exact ⟨by rw [E.out]; rfl, rfl⟩
  · have E : Hid (rrB r = false) := decide_eq_false (fun h => h1 h.1)
    go_enter Try.func41, Try.ntmps41
    go_wp2
    go_ret
    exact ⟨by rw [E.out]; rfl, rfl⟩

set_option maxHeartbeats 2000000 in
theorem poolRight_any (r c : Int) (A : Option Addr) (ca : Nat) (xs : List Int) (w : World) :
    Calls Try.prog 33 #[pv r c (.slice A xs.length ca)] w fun e w' => e = .returned (.bool (prB r c xs)) ∧ Below w.heap.size w w' := by
  have C : ∀ w1 : World, Hid (Calls Try.prog 41 #[.int .i64 r] w1 fun e w' => e = .returned (.bool (rrB r)) ∧ w' = w1) := fun w1 => rightRoom_any r w1
  have HB : Hid (Below w.heap.size w (w.alloc (.cells #[.int .i64 r, .int .i64 c, .slice A xs.length ca] 28))) := (Below.refl _ _).alloc (Nat.le_refl _) _
  unfold pv
  by_cases h : 1 ≤ r ∧ r ≤ 400
  · have e1 : rrB r = true := decide_eq_true h
    rw [e1] at C
    by_cases h0 : 0 ≤ c
    · by_cases h2 : c ≤ 1099511627776
      · have E : Hid (prB r c xs = ((xs.length : Int) == min r c)) := by
          show decide _ = _
          rw [Bool.eq_iff_iff, decide_eq_true_iff, beq_iff_eq]
          exact ⟨fun hh => hh.2.2.2, fun h3 => ⟨h, h0, h2, h3⟩⟩
        clear h e1
        go_enter Try.func33, Try.ntmps33
        go_wp2_with fail
        refine (C _).out.mono ?_
        rintro e w1 ⟨rfl, rfl⟩
        go_wp2
        all_goals
          go_ret
          refine ⟨retB ?_, HB.out⟩
          rw [E.out]
          first
            | rw [show min r c = r by omega]
            | rw [show min r c = c by omega]
      · have E : Hid (prB r c xs = false) := decide_eq_false (fun hh => h2 hh.2.2.1)
        clear h e1
        go_enter Try.func33, Try.ntmps33
        go_wp2_with fail
        refine (C _).out.mono ?_
        rintro e w1 ⟨rfl, rfl⟩
        go_wp2
        go_ret
        exact ⟨by rw [E.out]; rfl, HB.out⟩
    · have E : Hid (prB r c xs = false) := decide_eq_false (fun hh => h0 hh.2.1)
      clear h e1
      go_enter Try.func33, Try.ntmps33
      go_wp2_with fail
      refine (C _).out.mono ?_
      rintro e w1 ⟨rfl, rfl⟩
      go_wp2
      go_ret
      exact ⟨by rw [E.out]; rfl, HB.out⟩
  · have e1 : rrB r = false := decide_eq_false h
    rw [e1] at C
    have E : Hid (prB r c xs = false) := decide_eq_false (fun hh => h hh.1)
    clear h e1
    go_enter Try.func33, Try.ntmps33
    go_wp2_with fail
    refine (C _).out.mono ?_
    rintro e w1 ⟨rfl, rfl⟩
    go_wp2
    go_ret
    exact ⟨by rw [E.out]; rfl, HB.out⟩
end Go.Proofs.Ytjhcbjpbmbjgoaa
