/- drop.Level. -/
import Derived.Test.YtkcgcojhgcfgmaaL1
import Derived.Test.YtkcgcojhgcfgmaaLm
import Derived.Test.YtkcgcojhgcfgmaaBw
import Derived.Test.YtkcgcojhgcfgmaaSq
namespace Go.Proofs.Ytkcgcojhgcfgmaa
open Go.RowKit Go.Deep Go.Shelf

attribute [local go_sem] Oper.semAt_some

/-- A level and an error. -/
def fval (r : Int × Int) : Value := .agg #[.int .i64 r.1, .int .i64 r.2]
def lvtup (r : (Int × Int) × Int) : Value := .tuple #[fval r.1, .int .i64 r.2]

/-- Block g is a variable that holds a fraction. -/
def FB (w : World) (g : Nat) (a b : Int) : Prop := Bs 24 w g [.int .i64 a, .int .i64 b]
theorem FB.store {w : World} {g : Nat} {a b : Int} (h : FB w g a b) (x y : Int) : FB ((w.setCell ⟨g, 0, none⟩ (.int .i64 x)).setCell ⟨g, 1, none⟩ (.int .i64 y)) g x y := by
  have := (h.set 0 (.int .i64 x)).set 1 (.int .i64 y)
  simpa [FB] using this
theorem FB.c0 {w : World} {g : Nat} {a b : Int} (h : FB w g a b) : w.cell? ⟨g, 0, none⟩ = some (.int .i64 a) := by have := h.cell (j := 0) (by simp); simpa using this
theorem FB.c1 {w : World} {g : Nat} {a b : Int} (h : FB w g a b) : w.cell? ⟨g, 1, none⟩ = some (.int .i64 b) := by have := h.cell (j := 1) (by simp); simpa using this
theorem results_frac {fn : Func} {p u : Tmp} (h : fn.results = #[.cell p 24, .tmp u]) (tmps : Array Value) {w : World} {g : Nat} {r c : Int} {x : Value} (hp : tmps.getD p undef = .pointer (some ⟨g, 0, none⟩)) (hu : tmps.getD u undef = x)
    (hg : FB w g r c) : (results fn tmps).run Try.prog w = .ok (.tuple #[fval (r, c), x]) w := by
  rw [results_cell_tmp h, hp, hu]
  have hl := run_loadVar_row (P := Try.prog) w g 24 24 #[.int .i64 r, .int .i64 c] (0, 0) _ hg Try.underlying24 rfl (by kernel_rfl)
  simp [asAddr, hl, fval]
theorem ret_frac {fn : Func} {p u : Tmp} (h : fn.results = #[.cell p 24, .tmp u]) {R : Ending → World → Prop} {a : Act} {w : World} {g : Nat} {r c : Int} {x : Value} (hp : a.tmps.getD p undef = .pointer (some ⟨g, 0, none⟩)) (hu : a.tmps.getD u undef = x)
    (hg : FB w g r c) (hd : a.defers = []) (hR : R (.returned (.tuple #[fval (r, c), x])) w) : bodyPost Try.prog fn R .ret a w :=
  bodyPost_ret (v := .tuple #[fval (r, c), x]) (results_frac h _ hp hu hg) hd hR
theorem fb_new (w : World) (a b : Int) : FB (w.alloc (.cells #[.int .i64 a, .int .i64 b] 24)) w.heap.size a b := heap_alloc_new w _

set_option maxRecDepth 100000 in
set_option maxHeartbeats 2000000 in
theorem level_bad (A : Option Addr) (ca : Nat) (W : List Int) (m : Int) (w : World) (hW : IP w A ca W) (hno : ¬ (WD W m ∧ m < W.length)) :
    Calls Try.prog 9 #[.slice A W.length ca, .int .i64 m] w fun e w' => e = .returned (lvtup (levC W m)) ∧ Below w.heap.size w w' := by
  have hle := hW.le
  have hcap := hW.cap
  have hB0 : Below w.heap.size w (w.alloc (.cells #[.int .i64 0, .int .i64 0] 24)) := (Below.refl _ _).alloc (Nat.le_refl _) _
  have CW := Lib.hid (dwrong_any A ca W m _ (hW.later hB0))
  have HB0 := Lib.hid hB0
  have HF := Lib.hid (fb_new w 0 0)
  clear hB0
  rcases Classical.em (WD W m) with hD | hD
  · have hl : (W.length : Int) ≤ m := by
      rcases Int.lt_or_le m W.length with h | h
      · exact absurd ⟨hD, h⟩ hno
      · exact h
    rw [wdE_ok hD] at CW
    rw [levC_ok hD, levF_few hl]
    have t1 : decide ((W.length : Int) ≤ m) = true := decide_eq_true hl
    clear hW hno hD hl
    go_enter Try.func9, Try.ntmps9
    go_wp2_with fail
    refine CW.out.mono ?_
    rintro e w1 ⟨rfl, rfl⟩
    clear CW
    go_wp2
    exact ret_frac (p := 4) (u := 5) rfl rfl rfl HF.out rfl ⟨rfl, HB0.out⟩
  · rw [wdE_no hD] at CW
    rw [levC_no hD]
    clear hW hno hD
    go_enter Try.func9, Try.ntmps9
    go_wp2_with fail
    refine CW.out.mono ?_
    rintro e w1 ⟨rfl, rfl⟩
    clear CW
    go_wp2
    exact ret_frac (p := 4) (u := 5) rfl rfl rfl HF.out rfl ⟨rfl, HB0.out⟩
end Go.Proofs.Ytkcgcojhgcfgmaa
