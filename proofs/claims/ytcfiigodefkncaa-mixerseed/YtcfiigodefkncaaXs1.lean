/- mixer: a state in memory; math/bits.RotateLeft64. -/
import Derived.Test.YtcfiigodefkncaaXs0
import Derived.Test.YtcfiigodefkncaaG1m
namespace Go.Proofs.Ytcfiigodefkncaa
open Go.RowKit Go.Deep

def mxl (m : Mx) : List Value := [.int .u64 (m.a.toNat : Int), .int .u64 (m.b.toNat : Int), .int .u64 (m.c.toNat : Int), .int .u64 (m.d.toNat : Int)]
def mxv (m : Mx) : Value := .agg #[.int .u64 (m.a.toNat : Int), .int .u64 (m.b.toNat : Int), .int .u64 (m.c.toNat : Int), .int .u64 (m.d.toNat : Int)]
/-- Block g is a variable that holds this state. -/
def XB (w : World) (g : Nat) (m : Mx) : Prop := Bs 24 w g (mxl m)
theorem XB.c0 {w : World} {g : Nat} {m : Mx} (h : XB w g m) : w.cell? ⟨g, 0, none⟩ = some (.int .u64 (m.a.toNat : Int)) := by have := Bs.cell h (j := 0) (by simp [mxl]); simpa [mxl] using this
theorem XB.c1 {w : World} {g : Nat} {m : Mx} (h : XB w g m) : w.cell? ⟨g, 1, none⟩ = some (.int .u64 (m.b.toNat : Int)) := by have := Bs.cell h (j := 1) (by simp [mxl]); simpa [mxl] using this
theorem XB.c2 {w : World} {g : Nat} {m : Mx} (h : XB w g m) : w.cell? ⟨g, 2, none⟩ = some (.int .u64 (m.c.toNat : Int)) := by have := Bs.cell h (j := 2) (by simp [mxl]); simpa [mxl] using this
theorem XB.c3 {w : World} {g : Nat} {m : Mx} (h : XB w g m) : w.cell? ⟨g, 3, none⟩ = some (.int .u64 (m.d.toNat : Int)) := by have := Bs.cell h (j := 3) (by simp [mxl]); simpa [mxl] using this
theorem xb_new (w : World) (m : Mx) : XB (w.alloc (.cells #[.int .u64 (m.a.toNat : Int), .int .u64 (m.b.toNat : Int), .int .u64 (m.c.toNat : Int), .int .u64 (m.d.toNat : Int)] 24)) w.heap.size m := heap_alloc_new w _

theorem load_mx {w : World} {g : Nat} {m : Mx} (hg : XB w g m) : (loadVar 24 ⟨g, 0, none⟩).run Try.prog w = .ok (mxv m) w :=
  run_loadVar_row (P := Try.prog) w g 24 24 #[.int .u64 (m.a.toNat : Int), .int .u64 (m.b.toNat : Int), .int .u64 (m.c.toNat : Int), .int .u64 (m.d.toNat : Int)] (0, 0) _ hg Try.underlying24 rfl (by kernel_rfl)
theorem results_tmp_mx {fn : Func} {p u : Tmp} (h : fn.results = #[.tmp u, .cell p 24]) (tmps : Array Value) {w : World} {g : Nat} {m : Mx} {x : Value} (hp : tmps.getD p undef = .pointer (some ⟨g, 0, none⟩)) (hu : tmps.getD u undef = x)
    (hg : XB w g m) : (results fn tmps).run Try.prog w = .ok (.tuple #[x, mxv m]) w := by
  have hp' : tmps[p]?.getD undef = .pointer (some ⟨g, 0, none⟩) := by simpa using hp
  have hu' : tmps[u]?.getD undef = x := by simpa using hu
  simp [results, h, hp', hu', asAddr, load_mx hg, Sem.run_bind, Result.andThen]
theorem results_tmp_mx_tmp {fn : Func} {p u t : Tmp} (h : fn.results = #[.tmp u, .cell p 24, .tmp t]) (tmps : Array Value) {w : World} {g : Nat} {m : Mx} {x y : Value} (hp : tmps.getD p undef = .pointer (some ⟨g, 0, none⟩)) (hu : tmps.getD u undef = x) (ht : tmps.getD t undef = y)
    (hg : XB w g m) : (results fn tmps).run Try.prog w = .ok (.tuple #[x, mxv m, y]) w := by
  have hp' : tmps[p]?.getD undef = .pointer (some ⟨g, 0, none⟩) := by simpa using hp
  have hu' : tmps[u]?.getD undef = x := by simpa using hu
  have ht' : tmps[t]?.getD undef = y := by simpa using ht
  simp [results, h, hp', hu', ht', asAddr, load_mx hg, Sem.run_bind, Result.andThen]
theorem ret_mx {fn : Func} {p : Tmp} (h : fn.results = #[.cell p 24]) {R : Ending → World → Prop} {a : Act} {w : World} {g : Nat} {m : Mx} (hp : a.tmps.getD p undef = .pointer (some ⟨g, 0, none⟩))
    (hg : XB w g m) (hd : a.defers = []) (hR : R (.returned (mxv m)) w) : bodyPost Try.prog fn R .ret a w :=
  bodyPost_ret (results_cell_row h a.tmps w g 24 #[.int .u64 (m.a.toNat : Int), .int .u64 (m.b.toNat : Int), .int .u64 (m.c.toNat : Int), .int .u64 (m.d.toNat : Int)] (0, 0) _ hp hg Try.underlying24 rfl (by kernel_rfl)) hd hR
theorem ret_tmx {fn : Func} {p u : Tmp} (h : fn.results = #[.tmp u, .cell p 24]) {R : Ending → World → Prop} {a : Act} {w : World} {g : Nat} {m : Mx} {x : Value} (hp : a.tmps.getD p undef = .pointer (some ⟨g, 0, none⟩)) (hu : a.tmps.getD u undef = x)
    (hg : XB w g m) (hd : a.defers = []) (hR : R (.returned (.tuple #[x, mxv m])) w) : bodyPost Try.prog fn R .ret a w :=
  bodyPost_ret (results_tmp_mx h a.tmps hp hu hg) hd hR
theorem ret_tmxt {fn : Func} {p u t : Tmp} (h : fn.results = #[.tmp u, .cell p 24, .tmp t]) {R : Ending → World → Prop} {a : Act} {w : World} {g : Nat} {m : Mx} {x y : Value} (hp : a.tmps.getD p undef = .pointer (some ⟨g, 0, none⟩)) (hu : a.tmps.getD u undef = x) (ht : a.tmps.getD t undef = y)
    (hg : XB w g m) (hd : a.defers = []) (hR : R (.returned (.tuple #[x, mxv m, y])) w) : bodyPost Try.prog fn R .ret a w :=
  bodyPost_ret (results_tmp_mx_tmp h a.tmps hp hu ht hg) hd hR

theorem shl_w (x : W64) (k : Nat) (p : Int) (hp : p = (2 ^ k : Nat)) : IntKind.u64.wrap ((x.toNat : Int) * p) = ((x <<< k).toNat : Int) := by
  subst hp
  rw [IntKind.wrap_u64, BitVec.toNat_shiftLeft, Nat.shiftLeft_eq]
  omega
theorem or_w (x y : W64) : bits .or .u64 (x.toNat : Int) (y.toNat : Int) = ((x ||| y).toNat : Int) := by
  rw [bits_or_u64_nat _ _ x.isLt y.isLt, BitVec.toNat_or]
theorem rot_w (x : W64) (k : Nat) (p q : Int) (hp : p = (2 ^ k : Nat)) (hq : q = (2 ^ (64 - k) : Nat)) : bits .or .u64 (IntKind.u64.wrap ((x.toNat : Int) * p)) ((x.toNat : Int) / q) = ((rot k x).toNat : Int) := by
  rw [shl_w x k p hp, shr_w x (64 - k) q hq, or_w]; rfl

set_option maxRecDepth 100000 in
set_option maxHeartbeats 1000000 in
theorem rotl7_any (x : W64) (w : World) : Calls Try.prog 19 #[.int .u64 (x.toNat : Int), .int .i64 7] w fun e w' => e = .returned (.int .u64 ((rot 7 x).toNat : Int)) ∧ w' = w := by
  have e0 : bits .and .u64 7 63 = 7 := by decide +kernel
  have e1 := rot_w x 7 128 144115188075855872 rfl rfl
  go_enter Try.func19, Try.ntmps19
  go_wp2
  go_ret
  exact ⟨rfl, rfl⟩
set_option maxRecDepth 100000 in
set_option maxHeartbeats 1000000 in
theorem rotl45_any (x : W64) (w : World) : Calls Try.prog 19 #[.int .u64 (x.toNat : Int), .int .i64 45] w fun e w' => e = .returned (.int .u64 ((rot 45 x).toNat : Int)) ∧ w' = w := by
  have e0 : bits .and .u64 45 63 = 45 := by decide +kernel
  have e1 := rot_w x 45 35184372088832 524288 rfl rfl
  go_enter Try.func19, Try.ntmps19
  go_wp2
  go_ret
  exact ⟨rfl, rfl⟩
set_option maxRecDepth 100000 in
set_option maxHeartbeats 1000000 in
theorem rotl19_any (x : W64) (w : World) : Calls Try.prog 19 #[.int .u64 (x.toNat : Int), .int .i64 (-45)] w fun e w' => e = .returned (.int .u64 ((rot 19 x).toNat : Int)) ∧ w' = w := by
  have ew : IntKind.u64.wrap (-45) = 18446744073709551571 := by decide +kernel
  have e0 : bits .and .u64 18446744073709551571 63 = 19 := by decide +kernel
  have e1 := rot_w x 19 524288 35184372088832 rfl rfl
  go_enter Try.func19, Try.ntmps19
  go_wp2
  go_ret
  exact ⟨rfl, rfl⟩
end Go.Proofs.Ytcfiigodefkncaa
