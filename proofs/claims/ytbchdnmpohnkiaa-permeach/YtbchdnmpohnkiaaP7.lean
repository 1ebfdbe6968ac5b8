/- slices.Backward. -/
import Derived.RangeFuncNested
import Derived.RangeFuncBound
import Derived.RangeFuncCalls
import Derived.RangeFuncLeaves
import Derived.RangeFuncBox
import Derived.Shelf.Abstract
import Derived.Shelf.RegionOpen
import Derived.WalkKit
import Derived.OwnWalkIn
import Derived.TacticsInMore
import Derived.LoopNIn
import Derived.LoopIn
import Derived.Test.YtbchdnmpohnkiaaP1
import Derived.Test.YtbchdnmpohnkiaaPe
namespace Go.Proofs.Ytbchdnmpohnkiaa
open Go.RowKit Go.Deep Go.Shelf

attribute [local go_sem] Oper.semAt_some

def encB (ds : List Int) (j : Nat) : Array Value := #[.int .i64 ((cl ds.length j : Nat) : Int), .int .i64 (ds.getD (cl ds.length j) 0)]
theorem encB_lt {ds : List Int} {j : Nat} (h : j < ds.length) : encB ds j = #[.int .i64 (j : Int), .int .i64 (ds.getD j 0)] := by
  unfold encB; rw [cl_lt h]
/-- What a round must keep. -/
def KB (n₀ B : Nat) (W W' : World) : Prop := Below n₀ W W' ∧ W'.heap[B]? = W.heap[B]?
theorem KB_t {n₀ B : Nat} {X Y Z : World} (h : KB n₀ B X Y) (k : KB n₀ B Y Z) : KB n₀ B X Z := ⟨h.1.trans k.1, k.2.trans h.2⟩
theorem KB_refl (n₀ B : Nat) (W : World) : KB n₀ B W W := ⟨Below.refl _ _, rfl⟩
theorem KB_b {n₀ B : Nat} {w : World} (hn : n₀ ≤ w.heap.size) (hB : B < w.heap.size) (W : World) (l : Nat) (o o' : Obj) (hl : w.heap.size ≤ l) (h : W.heap[l]? = some o) (h1 : o.isCells = false) (h2 : o.isWalk = false) : KB n₀ B W (W.putObj l o') :=
  ⟨belowK_b hn W l o o' hl h h1 h2, World.putObj_heap_other (by omega)⟩

set_option maxRecDepth 100000 in
set_option maxHeartbeats 2000000 in
theorem backward1_in (F : Fence) (n : Nat) (hf : F.fn 31) (hro : F.round = none) (hn : 1 ≤ n) (l B n₀ : Nat) (A : Option Addr) (ca : Nat) (ds : List Int) (hs : ds.length ≤ 20) (J Jx : List Nat → World → Prop)
    (hY : ∀ pre x W, J pre W → pre.length < ds.length → YieldAt F (n - 1) Try.prog l (encB ds x) W fun e W' =>
      (e = .returned (.bool true) ∧ J (pre ++ [x]) W' ∧ KB n₀ B W W') ∨ (e = .returned (.bool false) ∧ Jx (pre ++ [x]) W'))
    (W : World) (hB : Boxed W B 22 (.slice A ds.length ca)) (hI : Il W A ds) (hA : 0 < ds.length → ∀ b off, A = some ⟨b, off, none⟩ → b < n₀) (h0 : J [] W) :
    CallsIn F n Try.prog 31 #[.func (.yield l) #[] #[], .pointer (some ⟨B, 0, none⟩)] W fun e W' => (∃ v, e = .returned v) ∧
      ((∃ ys, ys = downTo ds.length ds.length ∧ J ys W') ∨ (∃ pre, True ∧ Jx pre W')) := by
  have hbc := hB.cell
  have HB := Lib.hid hB
  have HI := Lib.hid hI
  have HA := Lib.hid hA
  clear hB hI hA
  refine callsIn_of_wp Try.func31 rfl hf ?_ hro
  simp only [Try.ntmps31, List.size_toArray, List.length_cons, List.length_nil, Nat.reduceAdd, Nat.reduceSub, Array.replicate_succ, Array.replicate_zero, List.push_toArray, List.append_toArray, List.nil_append, List.cons_append]
  gi_wp2
  gi_loopw [3] (fun i wr => ∃ (m : Nat) (k : Int), k + 1 + (m : Int) = (ds.length : Int) ∧ -1 ≤ k ∧ i = .int .i64 k ∧ J (downTo ds.length m) wr ∧ KB n₀ B W wr)
    (fun i _ => (intOf i + 1).toNat)
  case atStart => exact ⟨0, (ds.length : Int) - 1, by omega, by omega, by go_num, h0, KB_refl _ _ _⟩
  case round =>
    obtain ⟨m, k, hm, hk, rfl, hJs, hnx⟩ := hrel
    have HN := Lib.hid hnx
    have hbc : wr.cell? ⟨B, 0, none⟩ = some (.slice A ds.length ca) := by
      have : Boxed wr B 22 (.slice A ds.length ca) := HN.out.2.trans HB.out
      exact this.cell
    clear hnx
    by_cases hlt : 0 ≤ k
    · obtain ⟨i, rfl⟩ : ∃ i : Nat, k = (i : Int) := ⟨k.toNat, by omega⟩
      have hil : i < ds.length := by omega
      obtain ⟨b, off, rfl, _, hc⟩ := HI.out.at (by omega)
      have hcx := (HN.out.1.cell (p := ⟨b, off + i, none⟩) (HA.out (by omega) _ _ rfl)).trans (hc i hil)
      have hY1 := hY _ i wr hJs (by rw [downTo_len]; omega)
      rw [encB_lt hil] at hY1
      obtain ⟨fn, tmps, assign, body, hy, hR⟩ := hY1
      have HE : Hid (downTo ds.length (m + 1) = downTo ds.length m ++ [i]) := by
        show _ = _
        rw [downTo_succ]; congr 2; omega
      clear hc hY
      generalize ds.getD i 0 = d at *
      gi_wp2
      refine hR.mono ?_
      rintro e W3 (⟨rfl, hJ3, hk3⟩ | ⟨rfl, hJx3⟩)
      · gi_wp2
        go_roundw
        case rel => exact ⟨m + 1, (i : Int) - 1, by omega, by omega, by go_num, by rw [HE.out]; exact hJ3, KB_t HN.out hk3⟩
        case measure => simp [intOf]
      · gi_wp2
        refine bodyPost_ret (results_none rfl _ _ _) rfl ?_
        exact ⟨⟨_, rfl⟩, .inr ⟨_, trivial, hJx3⟩⟩
    · obtain rfl : k = -1 := by omega
      have HM : Hid (m = ds.length) := by show m = ds.length; omega
      clear hm
      gi_wp2
      go_end0
      exact ⟨⟨_, rfl⟩, .inl (by rw [HM.out] at hJs; exact hJs)⟩

set_option maxHeartbeats 1000000 in
theorem backward_in (F : Fence) (n : Nat) (hf : F.fn 26) (hro : F.round = none) (a : Option Addr) (len cap : Nat) (w : World) :
    CallsIn F n Try.prog 26 #[.slice a len cap] w fun e w' => e = .returned (.func (.func 31) #[] #[.pointer (some ⟨w.heap.size, 0, none⟩)]) ∧ w' = w.alloc (.cells #[.slice a len cap] 22) := by
  refine callsIn_of_wp Try.func26 rfl hf ?_ hro
  simp only [Try.ntmps26, List.size_toArray, List.length_cons, List.length_nil, Nat.reduceAdd, Nat.reduceSub, Array.replicate_succ, Array.replicate_zero, List.push_toArray, List.append_toArray, List.nil_append, List.cons_append]
  gi_wp2
  go_ret
  exact ⟨rfl, rfl⟩
end Go.Proofs.Ytbchdnmpohnkiaa
