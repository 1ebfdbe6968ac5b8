/- slices.Grow of a nil slice, slices.Concat of two slices: element type int. -/
import Derived.Test.YtclfimpcacoefaaIv
import Derived.Test.YtclfimpcacoefaaAp
import Derived.Lib.AppendZerosOnto
import Derived.Deep.AppendSrc
namespace Go.Proofs.Ytclfimpcacoefaa
open Go.RowKit Go.Deep

theorem zeros_int (n m : Nat) : (Builtin.zeroCells ((.int .i64 0) : Value).cells n ++ Builtin.zeroCells ((.int .i64 0) : Value).cells m) = (List.replicate (n + m) ((.int .i64 0) : Value)).toArray := by
  apply Array.ext'
  simp only [Array.toList_append, Builtin.zeroCells, Value.cells]
  rw [← List.replicate_append_replicate]
  congr 1
  all_goals
    apply List.ext_getElem
    · simp
    · intro i h1 h2
      simp [Nat.mod_one]

def GPost_int (n : Nat) (w : World) (e : Ending) (w' : World) : Prop :=
  (n = 0 ∧ e = .returned (.slice none 0 0) ∧ w = w') ∨ (0 < n ∧ ∃ cap, n ≤ cap ∧ cap ≤ maxLen ∧ e = .returned (.slice (some ⟨w.heap.size, 0, none⟩) 0 cap) ∧ Bs 3 w' w.heap.size (List.replicate cap (.int .i64 0)) ∧ Below w.heap.size w w')
set_option maxRecDepth 100000 in
set_option maxHeartbeats 1000000 in
theorem grow_int (n : Nat) (w : World) (hn : n * 8 ≤ 281474976710656) :
    Calls Try.prog 35 #[.slice none 0 0, .int .i64 n] w (GPost_int n w) := by
  by_cases h0 : n = 0
  · subst h0
    go_enter Try.func35, Try.ntmps35
    go_wp2
    go_ret
    exact .inl ⟨rfl, rfl, rfl⟩
  · obtain ⟨i0, hi0, hz0, hz1, hz2⟩ := info_parts info_int
    have hrz : ∀ ty, (Builtin.append_ #[22, 3] ty #[.slice none 0 0, .int .i64 (n : Int)]).run Try.prog w = _ := fun ty => Lib.run_append_nil_zeros w 22 3 ty 3 i0 (.int .i64 0) .i64 .i64 Try.underlying22 Try.underlying3 hi0 hz0 n (by omega) (by omega) (by omega) (by rw [hz2]; omega)
    have hge := grownCap_ge w n 0 3
    have hle := grownCap_le_maxLen w n 0 3 (by unfold maxLen; omega)
    have HB : Hid (∀ G, grownCap w n 0 3 = G → Bs 3 (w.drew.alloc (.cells (Builtin.zeroCells ((.int .i64 0) : Value).cells n ++ Builtin.zeroCells ((.int .i64 0) : Value).cells (G - n)) 3)) w.heap.size (List.replicate G (.int .i64 0))) := fun G hG => by
      rw [zeros_int]
      have e : n + (G - n) = G := by omega
      rw [e]
      exact heap_alloc_new w.drew _
    generalize hG : grownCap w n 0 3 = G at *
    have HB2 := Lib.hid (HB.out G rfl)
    have hle' : G ≤ 9223372036854775807 := by unfold maxLen at hle; exact hle
    have hG0 : 0 < G := by omega
    have HBl : Hid (Below w.heap.size w (w.drew.alloc (.cells (Builtin.zeroCells ((.int .i64 0) : Value).cells n ++ Builtin.zeroCells ((.int .i64 0) : Value).cells (G - n)) 3))) := (Below.refl _ _).drew.alloc (Nat.le_refl _) _
    clear hG HB hle
    go_enter Try.func35, Try.ntmps35
    have HZ := Lib.hid hrz
    clear hrz
    go_wp2_with (at_builtin; refine wpList_append_run (by rfl) _ _ _ _ (by rfl) _ _ _ (by rfl) (by rfl) HZ.out ?_)
    go_ret
    exact .inr ⟨by omega, G, hge, by unfold maxLen; omega, rfl, HB2.out, HBl.out⟩

/-- The slice that Concat fills: so much is done, of room for tot. -/
def CRel_int (w : World) (tot : Nat) (v : Value) (done : List Value) (wr : World) : Prop :=
  Below w.heap.size w wr ∧ ((tot = 0 ∧ v = .slice none 0 0 ∧ done = []) ∨
  ∃ (g : Nat) (cur : List Value), v = .slice (some ⟨g, 0, none⟩) done.length cur.length ∧ w.heap.size ≤ g ∧ Bs 3 wr g cur ∧ tot ≤ cur.length ∧ cur.length ≤ maxLen ∧ cur.take done.length = done)
theorem crel_start_int {n : Nat} {w : World} {e : Ending} {w' : World} (h : GPost_int n w e w') : ∃ v, e = .returned v ∧ CRel_int w n v [] w' := by
  rcases h with ⟨h0, rfl, rfl⟩ | ⟨h0, cap, h1, h2, rfl, hB, hb⟩
  · exact ⟨_, rfl, Below.refl _ _, .inl ⟨h0, rfl, rfl⟩⟩
  · exact ⟨_, rfl, hb, .inr ⟨w.heap.size, List.replicate cap (.int .i64 0), by simp, Nat.le_refl _, hB, by simpa using h1, by simpa using h2, rfl⟩⟩
theorem crel_app_int {w wr : World} {tot : Nat} {v : Value} {done xs : List Value} {A : Option Addr} {c : Nat} (h : CRel_int w tot v done wr) (hx : Vs wr A xs) (hl : done.length + xs.length ≤ tot) (h1 : ∀ u ∈ xs, u.oneCell' = true) (hA : A = none → xs = []) :
    ∃ v' w', (∀ ty, (Builtin.append_ #[22, 22] ty #[v, .slice A xs.length c]).run Try.prog wr = .ok v' w') ∧ CRel_int w tot v' (done ++ xs) w' := by
  obtain ⟨i0, hi0, hz0, hz1, hz2⟩ := info_parts info_int
  obtain ⟨hb, h⟩ := h
  rcases h with ⟨h0, rfl, rfl⟩ | ⟨g, cur, rfl, hg, hB, hc1, hc2, hc3⟩
  · have : xs = [] := List.eq_nil_of_length_eq_zero (by omega)
    subst this
    refine ⟨.slice none 0 0, wr, fun ty => ?_, hb, .inl ⟨h0, rfl, rfl⟩⟩
    simp [Builtin.append_, run_underlying Try.underlying22, Go.sizeOf, typeInfo, hi0, Builtin.lenOf, Builtin.firstCells, loadCells, loadCellsFrom]
    cases A <;> simp [loadCells, loadCellsFrom]
  · have src : Src Try.prog i0.size 22 (.slice A xs.length c) xs.length xs wr := by
      cases A with
      | none =>
        have := hA rfl
        subst this
        exact Src.ofNil wr Try.underlying22 c
      | some a =>
        refine Src.ofSlice wr Try.underlying22 a xs.length c xs (by rw [hz1, Nat.mul_one]) (fun j u hu => ?_) h1
        have hj : j < xs.length := (List.getElem?_eq_some_iff.1 hu).1
        obtain ⟨b, off, e, _, hcell⟩ := hx (by omega)
        simp only [Option.some.injEq] at e
        subst e
        rw [Addr.add_lit, hcell j hj, hu]
    have hr := fun ty => run_append_room_src (P := Try.prog) wr 22 22 ty 3 i0 Try.underlying22 hi0 g 0 done.length cur.length (.slice A xs.length c) xs.length xs src (by omega)
      (fun j hj => by rw [hz1, hB.cell (by omega)]; simp; omega) (fun j hj => hB.frozen _)
    refine ⟨_, _, hr, below_put hg xs _ hb, .inr ⟨g, putL cur done.length xs, by rw [putL_len, List.length_append], hg, ?_, by rw [putL_len]; exact hc1, by rw [putL_len]; exact hc2, ?_⟩⟩
    · rw [hz1, Nat.zero_add, Nat.mul_one]; exact hB.put xs _
    · rw [List.length_append, putL_take _ _ _ (by omega), hc3]
theorem crel_end_int {w wr : World} {tot : Nat} {v : Value} {done : List Value} (h : CRel_int w tot v done wr) (hl : done.length = tot) : ∃ R cr, v = .slice R done.length cr ∧ Vs wr R done ∧ done.length ≤ cr ∧ cr ≤ 9223372036854775807 ∧ (R = none → cr = 0) ∧ Below w.heap.size w wr := by
  obtain ⟨hb, h⟩ := h
  rcases h with ⟨h0, rfl, rfl⟩ | ⟨g, cur, rfl, hg, hB, hc1, hc2, hc3⟩
  · exact ⟨none, 0, rfl, Vs.nil, by simp, by omega, fun _ => rfl, hb⟩
  · refine ⟨_, _, rfl, ?_, by omega, by unfold maxLen at hc2; omega, fun h => (by cases h), hb⟩
    have := Vs.take hB.vs done.length
    rwa [hc3] at this

def CPost_int (w : World) (vs : List Value) (e : Ending) (w' : World) : Prop :=
  ∃ R cr, e = .returned (.slice R vs.length cr) ∧ Vs w' R vs ∧ vs.length ≤ cr ∧ cr ≤ 9223372036854775807 ∧ (R = none → cr = 0) ∧ Below w.heap.size w w'

def CcR_int (w : World) (vs : List Value) (e : Ending) (w' : World) : Prop := ∃ v, e = .returned v ∧ CRel_int w vs.length v vs w'

set_option maxRecDepth 100000 in
set_option maxHeartbeats 2000000 in
theorem concat_rel_int (g : Nat) (A1 A2 : Option Addr) (c1 c2 : Nat) (xs ys : List Value) (w : World) (hg : g < w.heap.size) (k1 : w.cell? ⟨g, 0, none⟩ = some (.slice A1 xs.length c1)) (k2 : w.cell? ⟨g, 1, none⟩ = some (.slice A2 ys.length c2))
    (hx : Vs w A1 xs) (hy : Vs w A2 ys) (ox : ∀ u ∈ xs, u.oneCell' = true) (oy : ∀ u ∈ ys, u.oneCell' = true) (nx : A1 = none → xs = []) (ny : A2 = none → ys = []) (hb : (xs.length + ys.length) * 8 ≤ 281474976710656) :
    Calls Try.prog 24 #[.slice (some ⟨g, 0, none⟩) 2 2] w (CcR_int w (xs ++ ys)) := by
  have C := Lib.hid (grow_int (xs.length + ys.length) w hb)
  have K := Lib.hid (And.intro k1 k2)
  have X := Lib.hid (And.intro hx (And.intro ox nx))
  have Y := Lib.hid (And.intro hy (And.intro oy ny))
  clear hx hy ox oy nx ny
  go_enter Try.func24, Try.ntmps24
  go_wp2_with fail
  go_loop [3, 11] (fun s i => (s = .int .i64 0 ∧ i = .int .i64 0) ∨ (s = .int .i64 xs.length ∧ i = .int .i64 1) ∨ (s = .int .i64 ((xs.length : Int) + ys.length) ∧ i = .int .i64 2)) (fun _ i => 2 - (intOf i).toNat)
  case atStart => exact .inl ⟨rfl, rfl⟩
  case round =>
    rcases hrel with ⟨rfl, rfl⟩ | ⟨rfl, rfl⟩ | ⟨rfl, rfl⟩
    · go_wp2
      go_round
      case rel => exact .inr (.inl ⟨by go_num, rfl⟩)
      case measure => simp [intOf]
    · go_wp2
      go_round
      case rel => exact .inr (.inr ⟨rfl, rfl⟩)
      case measure => simp [intOf]
    · have en : ((xs.length + ys.length : Nat) : Int) = (xs.length : Int) + (ys.length : Int) := by omega
      rw [en] at C
      clear en k1 k2
      go_wp2_with fail
      refine C.out.mono ?_
      intro e w1 hp
      obtain ⟨v0, rfl, hC⟩ := crel_start_int hp
      have HC := Lib.hid hC
      clear hp hC C
      go_wp2_with fail
      go_loopw [6, 27] (fun sv i wr => ∃ (v : Value) (k : Nat), v = sv ∧ i = .int .i64 k ∧ ((k = 0 ∧ CRel_int w (xs.length + ys.length) v [] wr) ∨ (k = 1 ∧ CRel_int w (xs.length + ys.length) v xs wr) ∨ (k = 2 ∧ CRel_int w (xs.length + ys.length) v (xs ++ ys) wr))) (fun _ i _ => 2 - (intOf i).toNat)
      case atStart => exact ⟨v0, 0, rfl, rfl, .inl ⟨rfl, HC.out⟩⟩
      case round =>
        clear HC
        obtain ⟨v, k, rfl, rfl, ⟨rfl, hC⟩ | ⟨rfl, hC⟩ | ⟨rfl, hC⟩⟩ := hrel
        · have hB := hC.1
          have hc := (hB.cell (p := ⟨g, 0, none⟩) hg).trans K.out.1
          obtain ⟨v', w', hr, hC'⟩ := crel_app_int (c := c1) hC (X.out.1.later hB) (by simp) X.out.2.1 X.out.2.2
          have HR := Lib.hid hr
          have HC := Lib.hid hC'
          clear hB hr hC' hC
          rw [List.nil_append] at HC
          go_wp2_with (at_builtin; refine wpList_append_run (by rfl) _ _ _ _ (by rfl) _ _ _ (by rfl) (by rfl) HR.out ?_)
          go_roundw
          case rel => exact ⟨v', 1, rfl, rfl, .inr (.inl ⟨rfl, HC.out⟩)⟩
          case measure => simp [intOf]
        · have hB := hC.1
          have hc := (hB.cell (p := ⟨g, 1, none⟩) hg).trans K.out.2
          obtain ⟨v', w', hr, hC'⟩ := crel_app_int (c := c2) hC (Y.out.1.later hB) (Nat.le_refl _) Y.out.2.1 Y.out.2.2
          have HR := Lib.hid hr
          have HC := Lib.hid hC'
          clear hB hr hC' hC
          go_wp2_with (at_builtin; refine wpList_append_run (by rfl) _ _ _ _ (by rfl) _ _ _ (by rfl) (by rfl) HR.out ?_)
          go_roundw
          case rel => exact ⟨v', 2, rfl, rfl, .inr (.inr ⟨rfl, HC.out⟩)⟩
          case measure => simp [intOf]
        · have E : Hid (CcR_int w (xs ++ ys) (.returned v) wr) := ⟨v, rfl, by rw [List.length_append]; exact hC⟩
          clear hC
          go_wp2
          go_ret
          exact E.out
theorem concat_int (g : Nat) (A1 A2 : Option Addr) (c1 c2 : Nat) (xs ys : List Value) (w : World) (hg : g < w.heap.size) (k1 : w.cell? ⟨g, 0, none⟩ = some (.slice A1 xs.length c1)) (k2 : w.cell? ⟨g, 1, none⟩ = some (.slice A2 ys.length c2))
    (hx : Vs w A1 xs) (hy : Vs w A2 ys) (ox : ∀ u ∈ xs, u.oneCell' = true) (oy : ∀ u ∈ ys, u.oneCell' = true) (nx : A1 = none → xs = []) (ny : A2 = none → ys = []) (hb : (xs.length + ys.length) * 8 ≤ 281474976710656) :
    Calls Try.prog 24 #[.slice (some ⟨g, 0, none⟩) 2 2] w (CPost_int w (xs ++ ys)) := by
  refine (concat_rel_int g A1 A2 c1 c2 xs ys w hg k1 k2 hx hy ox oy nx ny hb).mono ?_
  rintro e w' ⟨v, rfl, hC⟩
  obtain ⟨R, cr, rfl, h1, h2, h3, h4, h5⟩ := crel_end_int hC rfl
  exact ⟨R, cr, rfl, h1, h2, h3, h4, h5⟩
end Go.Proofs.Ytclfimpcacoefaa
