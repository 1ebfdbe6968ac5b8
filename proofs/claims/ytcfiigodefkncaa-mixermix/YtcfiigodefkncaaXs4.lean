/- mixer.Words. -/
import Derived.Test.YtcfiigodefkncaaXs3
namespace Go.Proofs.Ytcfiigodefkncaa
open Go.RowKit Go.Deep

theorem Bs.oth {T : Nat} {w : World} {g : Nat} {vs : List Value} (h : Bs T w g vs) {a : Addr} (hg : g ≠ a.block) (v : Value) : Bs T (w.setCell a v) g vs := (heap_setCell_other w a g v hg).trans h
theorem XB.frz {w : World} {g : Nat} {m : Mx} (h : XB w g m) (j : Nat) : w.frozen? ⟨g, j, none⟩ = false := Bs.frozen h j
theorem XB.heap {w : World} {g : Nat} {m : Mx} (h : XB w g m) : w.heap[g]? = some (.cells #[.int .u64 (m.a.toNat : Int), .int .u64 (m.b.toNat : Int), .int .u64 (m.c.toNat : Int), .int .u64 (m.d.toNat : Int)] 24 (0, 0)) := h
theorem XB.lt {w : World} {g : Nat} {m : Mx} (h : XB w g m) : g < w.heap.size := Bs.lt h
theorem XB.below {w w' : World} {g B : Nat} {m : Mx} (h : XB w g m) (hb : Below B w w') (hg : g < B) : XB w' g m := Bs.below h hb hg
theorem XB.otherCell {w : World} {g : Nat} {m : Mx} (h : XB w g m) {c : Addr} (hc : g ≠ c.block) (v : Value) : XB (w.setCell c v) g m := Bs.oth h hc v
theorem XB.store {w : World} {g : Nat} {m : Mx} (h : XB w g m) (o : Mx) : XB ((((w.setCell ⟨g, 0, none⟩ (.int .u64 (o.a.toNat : Int))).setCell ⟨g, 1, none⟩ (.int .u64 (o.b.toNat : Int))).setCell ⟨g, 2, none⟩ (.int .u64 (o.c.toNat : Int))).setCell ⟨g, 3, none⟩ (.int .u64 (o.d.toNat : Int))) g o := by
  have := (((Bs.set h 0 (.int .u64 (o.a.toNat : Int))).set 1 (.int .u64 (o.b.toNat : Int))).set 2 (.int .u64 (o.c.toNat : Int))).set 3 (.int .u64 (o.d.toNat : Int))
  simpa [XB, mxl] using this
theorem bs_st4 {T : Nat} {w : World} {k g : Nat} {vs : List Value} (h : Bs T w k vs) (hk : k ≠ g) (a b c d : Value) : Bs T ((((w.setCell ⟨g, 0, none⟩ a).setCell ⟨g, 1, none⟩ b).setCell ⟨g, 2, none⟩ c).setCell ⟨g, 3, none⟩ d) k vs :=
  (((h.oth (a := ⟨g, 0, none⟩) hk a).oth (a := ⟨g, 1, none⟩) hk b).oth (a := ⟨g, 2, none⟩) hk c).oth (a := ⟨g, 3, none⟩) hk d
theorem below_st4 {B : Nat} {v w : World} {g : Nat} (h : Below B v w) (hg : B ≤ g) (a b c d : Value) : Below B v ((((w.setCell ⟨g, 0, none⟩ a).setCell ⟨g, 1, none⟩ b).setCell ⟨g, 2, none⟩ c).setCell ⟨g, 3, none⟩ d) :=
  (((h.setCell (p := ⟨g, 0, none⟩) hg a).setCell (p := ⟨g, 1, none⟩) hg b).setCell (p := ⟨g, 2, none⟩) hg c).setCell (p := ⟨g, 3, none⟩) hg d

/-- The first k outputs, and room for the others. -/
def wl (n : Nat) (m : Mx) (k : Nat) : List W64 := outs k m ++ List.replicate (n - k) 0
theorem wl_len {n k : Nat} (h : k ≤ n) (m : Mx) : (wl n m k).length = n := by unfold wl; rw [List.length_append, outs_len, List.length_replicate]; omega
theorem wl_zero (n : Nat) (m : Mx) : wl n m 0 = List.replicate n 0 := by unfold wl outs; simp
theorem wl_all (n : Nat) (m : Mx) : wl n m n = outs n m := by unfold wl; simp
theorem wl_step {n k : Nat} (h : k < n) (m : Mx) : (wl n m k).set k (stO (itN k m)) = wl n m (k + 1) := by
  unfold wl
  have e : n - k = (n - (k + 1)) + 1 := by omega
  rw [e, List.replicate_succ]
  have hl := outs_len k m
  rw [show outs (k + 1) m = outs k m ++ [stO (itN k m)] from rfl, List.append_assoc]
  rw [List.set_append, if_neg (by omega), hl, Nat.sub_self]
  rfl
theorem us_zeros (w : World) (n : Nat) : Bs 22 (w.alloc (.cells (madeCells #[.int .u64 0] n) 22)) w.heap.size (uvs (List.replicate n 0)) := by
  have := Bs.made 22 w (.int .u64 0) n
  simpa [uvs, uv] using this
set_option maxRecDepth 100000 in
set_option maxHeartbeats 1000000 in
theorem words_bad (m : Mx) (n : Int) (h : ¬ (0 ≤ n ∧ n ≤ 10000)) (w : World) : Calls Try.prog 13 #[mxv m, .int .i64 n] w fun e w' => e = .returned (.tuple #[.slice none 0 0, mxv Mx.zero, .int .i64 2]) ∧ Below w.heap.size w w' := by
  have C := Lib.hid (minRange_any n)
  rw [decide_eq_false h] at C
  obtain ⟨a, b, c, d⟩ := m
  unfold mxv
  dsimp only
  clear h
  go_enter Try.func13, Try.ntmps13
  go_wp2_with fail
  refine (C.out _).mono ?_
  rintro e w1 ⟨rfl, rfl⟩
  go_wp2
  exact ret_tmxt (p := 5) (u := 4) (t := 6) (m := Mx.zero) rfl rfl rfl rfl (heap_alloc2_new w _ _) rfl ⟨rfl, ((Below.refl _ w).alloc (Nat.le_refl _) _).alloc (by simp) _⟩
end Go.Proofs.Ytcfiigodefkncaa
