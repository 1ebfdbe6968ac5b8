/- stats: moments in memory. -/
import Derived.Test.YtclfimpcacoefaaIv
import Derived.Test.YtclfimpcacoefaaPz0
import Derived.Deep.OwnRows
import Derived.ChangeKeysEq
namespace Go.Proofs.Ytclfimpcacoefaa
open Go.RowKit Go.Deep

def mml (n s q : Int) : List Value := [.int .i64 n, .int .i64 s, .int .i64 q]
def mmv (n s q : Int) : Value := .agg #[.int .i64 n, .int .i64 s, .int .i64 q]
/-- Block g is a variable that holds these moments. -/
def MB (w : World) (g : Nat) (n s q : Int) : Prop := Bs 24 w g (mml n s q)
theorem MB.c0 {w : World} {g : Nat} {n s q : Int} (h : MB w g n s q) : w.cell? ⟨g, 0, none⟩ = some (.int .i64 n) := by have := Bs.cell h (j := 0) (by simp [mml]); simpa [mml] using this
theorem MB.c1 {w : World} {g : Nat} {n s q : Int} (h : MB w g n s q) : w.cell? ⟨g, 1, none⟩ = some (.int .i64 s) := by have := Bs.cell h (j := 1) (by simp [mml]); simpa [mml] using this
theorem MB.c2 {w : World} {g : Nat} {n s q : Int} (h : MB w g n s q) : w.cell? ⟨g, 2, none⟩ = some (.int .i64 q) := by have := Bs.cell h (j := 2) (by simp [mml]); simpa [mml] using this
theorem MB.frozen {w : World} {g : Nat} {n s q : Int} (h : MB w g n s q) (j : Nat) : w.frozen? ⟨g, j, none⟩ = false := Bs.frozen h j
theorem mb_new (w : World) (n s q : Int) : MB (w.alloc (.cells #[.int .i64 n, .int .i64 s, .int .i64 q] 24)) w.heap.size n s q := heap_alloc_new w _
theorem MB.later {w w' : World} {g : Nat} {n s q : Int} (h : MB w g n s q) (hb : Below w.heap.size w w') : MB w' g n s q := Bs.below h hb (Bs.lt h)
theorem MB.below {w w' : World} {g B : Nat} {n s q : Int} (h : MB w g n s q) (hb : Below B w w') (hg : g < B) : MB w' g n s q := Bs.below h hb hg
theorem MB.set1 {w : World} {g : Nat} {n s q : Int} (h : MB w g n s q) (x : Int) : MB (w.setCell ⟨g, 1, none⟩ (.int .i64 x)) g n x q := by
  have := Bs.set h 1 (.int .i64 x); simpa [MB, mml] using this
theorem MB.set2 {w : World} {g : Nat} {n s q : Int} (h : MB w g n s q) (x : Int) : MB (w.setCell ⟨g, 2, none⟩ (.int .i64 x)) g n s x := by
  have := Bs.set h 2 (.int .i64 x); simpa [MB, mml] using this
theorem MB.store {w : World} {g : Nat} {n s q : Int} (h : MB w g n s q) (x y z : Int) : MB (((w.setCell ⟨g, 0, none⟩ (.int .i64 x)).setCell ⟨g, 1, none⟩ (.int .i64 y)).setCell ⟨g, 2, none⟩ (.int .i64 z)) g x y z := by
  have := Bs.set (Bs.set (Bs.set h 0 (.int .i64 x)) 1 (.int .i64 y)) 2 (.int .i64 z); simpa [MB, mml] using this
theorem MB.other {w : World} {g : Nat} {n s q : Int} (h : MB w g n s q) {c : Addr} (hc : c.block ≠ g) (v : Value) : MB (w.setCell c v) g n s q := (heap_setCell_other w c g v (fun e => hc e.symm)).trans h
theorem load_mm {w : World} {g : Nat} {n s q : Int} (hg : MB w g n s q) : (loadVar 24 ⟨g, 0, none⟩).run Try.prog w = .ok (mmv n s q) w :=
  run_loadVar_row (P := Try.prog) w g 24 24 #[.int .i64 n, .int .i64 s, .int .i64 q] (0, 0) _ hg Try.underlying24 rfl (by kernel_rfl)
theorem results_mm {fn : Func} {p u : Tmp} (h : fn.results = #[.cell p 24, .tmp u]) (tmps : Array Value) {w : World} {g : Nat} {n s q : Int} {x : Value} (hp : tmps.getD p undef = .pointer (some ⟨g, 0, none⟩)) (hu : tmps.getD u undef = x)
    (hg : MB w g n s q) : (results fn tmps).run Try.prog w = .ok (.tuple #[mmv n s q, x]) w := by
  rw [results_cell_tmp h, hp, hu]
  simp [asAddr, load_mm hg]
theorem ret_mm {fn : Func} {p u : Tmp} (h : fn.results = #[.cell p 24, .tmp u]) {R : Ending → World → Prop} {a : Act} {w : World} {g : Nat} {n s q : Int} {x : Value} (hp : a.tmps.getD p undef = .pointer (some ⟨g, 0, none⟩)) (hu : a.tmps.getD u undef = x)
    (hg : MB w g n s q) (hd : a.defers = []) (hR : R (.returned (.tuple #[mmv n s q, x])) w) : bodyPost Try.prog fn R .ret a w :=
  bodyPost_ret (v := .tuple #[mmv n s q, x]) (results_mm h _ hp hu hg) hd hR

/-- Consistent moments. -/
def RtM (n s q : Int) : Prop := 0 ≤ n ∧ n ≤ 1024 ∧ -(n * 1048576) ≤ s ∧ s ≤ n * 1048576 ∧ 0 ≤ q ∧ q ≤ n * 1099511627776 ∧ s * s ≤ n * q ∧ (s - q) % 2 = 0
instance (n s q : Int) : Decidable (RtM n s q) := by unfold RtM; infer_instance
def rtM (n s q : Int) : Bool := decide (RtM n s q)
theorem rtM_no {n s q : Int} (h : ¬ RtM n s q) : rtM n s q = false := decide_eq_false h
theorem rtM_yes {n s q : Int} (h : RtM n s q) : rtM n s q = true := decide_eq_true h
theorem abs_mul_bd {a b A B : Int} (h1 : -A ≤ a) (h2 : a ≤ A) (h3 : -B ≤ b) (h4 : b ≤ B) : -(A * B) ≤ a * b ∧ a * b ≤ A * B := by
  have x1 : 0 ≤ (A - a) * (B + b) := Int.mul_nonneg (by omega) (by omega)
  have x2 : 0 ≤ (A + a) * (B - b) := Int.mul_nonneg (by omega) (by omega)
  have x3 : 0 ≤ (A - a) * (B - b) := Int.mul_nonneg (by omega) (by omega)
  have x4 : 0 ≤ (A + a) * (B + b) := Int.mul_nonneg (by omega) (by omega)
  have e1 : (A - a) * (B + b) = A * B + A * b - a * B - a * b := by grind
  have e2 : (A + a) * (B - b) = A * B - A * b + a * B - a * b := by grind
  have e3 : (A - a) * (B - b) = A * B - A * b - a * B + a * b := by grind
  have e4 : (A + a) * (B + b) = A * B + A * b + a * B + a * b := by grind
  omega
theorem rtM_bd {n s q : Int} (h0 : 0 ≤ n) (h1 : n ≤ 1024) (h2 : -(n * 1048576) ≤ s) (h3 : s ≤ n * 1048576) (h4 : 0 ≤ q) (h5 : q ≤ n * 1099511627776) :
    (0 ≤ s * s ∧ s * s ≤ 1152921504606846976) ∧ (0 ≤ n * q ∧ n * q ≤ 1152921504606846976) := by
  refine ⟨⟨sqn s, ?_⟩, Int.mul_nonneg h0 h4, ?_⟩
  · have := abs_mul_bd (a := s) (b := s) (A := 1073741824) (B := 1073741824) (by omega) (by omega) (by omega) (by omega)
    omega
  · have := abs_mul_bd (a := n) (b := q) (A := 1024) (B := 1125899906842624) (by omega) (by omega) (by omega) (by omega)
    omega
end Go.Proofs.Ytclfimpcacoefaa
