/- slices.Backward, where a round keeps the list and its box. -/
import Derived.RangeFuncNested
import Derived.RangeFuncBound
import Derived.RangeFuncCalls
import Derived.RangeFuncLeaves
import Derived.RangeFuncBox
import Derived.Shelf.Abstract
import Derived.Shelf.RegionOpen
import Derived.WalkKit
import Derived.OwnWalkIn
import Derived.TacticsInMore
import Derived.LoopNIn
import Derived.LoopIn
import Derived.Test.YtkcgcojhgcfgmaaIv
import Derived.Test.YtkcgcojhgcfgmaaPe
namespace Go.Proofs.Ytkcgcojhgcfgmaa
open Go.RowKit Go.Deep Go.Shelf

attribute [local go_sem] Oper.semAt_some

def encK (ds : List Int) (j : Nat) : Array Value := #[.int .i64 ((cl ds.length j : Nat) : Int), .int .i64 (ds.getD (cl ds.length j) 0)]
theorem encK_lt {ds : List Int} {j : Nat} (h : j < ds.length) : encK ds j = #[.int .i64 (j : Int), .int .i64 (ds.getD j 0)] := by
  unfold encK; rw [cl_lt h]
def BoxL (W : World) (B : Nat) (A : Option Addr) (ca : Nat) (ds : List Int) : Prop := Boxed W B 22 (.slice A ds.length ca) ∧ Il W A ds

set_option maxRecDepth 100000 in
set_option maxHeartbeats 2000000 in
theorem backK1_in (F : Fence) (n : Nat) (hf : F.fn 26) (hro : F.round = none) (hn : 1 ≤ n) (l B : Nat) (Kp : World → World → Prop) (A : Option Addr) (ca : Nat) (ds : List Int) (hs : ds.length ≤ 4398046511104) (J Jx : List Nat → World → Prop)
    (hK : ∀ X Y, Kp X Y → BoxL X B A ca ds → BoxL Y B A ca ds)
    (hY : ∀ pre x W, J pre W → pre.length < ds.length → YieldAt F (n - 1) Try.prog l (encK ds x) W fun e W' =>
      (e = .returned (.bool true) ∧ J (pre ++ [x]) W' ∧ Kp W W') ∨ (e = .returned (.bool false) ∧ Jx (pre ++ [x]) W'))
    (W : World) (hB : BoxL W B A ca ds) (h0 : J [] W) :
    CallsIn F n Try.prog 26 #[.func (.yield l) #[] #[], .pointer (some ⟨B, 0, none⟩)] W fun e W' => (∃ v, e = .returned v) ∧
      ((∃ ys, ys = downTo ds.length ds.length ∧ J ys W') ∨ (∃ pre, (∃ m, m ≤ ds.length ∧ pre = downTo ds.length m) ∧ Jx pre W')) := by
  have hbc := hB.1.cell
  have HB := Lib.hid hB
  have HK := Lib.hid hK
  clear hB hK
  refine callsIn_of_wp Try.func26 rfl hf ?_ hro
  simp only [Try.ntmps26, List.size_toArray, List.length_cons, List.length_nil, Nat.reduceAdd, Nat.reduceSub, Array.replicate_succ, Array.replicate_zero, List.push_toArray, List.append_toArray, List.nil_append, List.cons_append]
  gi_wp2
  gi_loopw [3] (fun i wr => ∃ (m : Nat) (k : Int), k + 1 + (m : Int) = (ds.length : Int) ∧ -1 ≤ k ∧ i = .int .i64 k ∧ J (downTo ds.length m) wr ∧ BoxL wr B A ca ds)
    (fun i _ => (intOf i + 1).toNat)
  case atStart => exact ⟨0, (ds.length : Int) - 1, by omega, by omega, by go_num, h0, HB.out⟩
  case round =>
    obtain ⟨m, k, hm, hk, rfl, hJs, hnx⟩ := hrel
    have HN := Lib.hid hnx
    have hbc : wr.cell? ⟨B, 0, none⟩ = some (.slice A ds.length ca) := HN.out.1.cell
    clear hnx
    by_cases hlt : 0 ≤ k
    · obtain ⟨i, rfl⟩ : ∃ i : Nat, k = (i : Int) := ⟨k.toNat, by omega⟩
      have hil : i < ds.length := by omega
      obtain ⟨b, off, rfl, _, hc⟩ := HN.out.2.at (by omega)
      have hcx := hc i hil
      have hY1 := hY _ i wr hJs (by rw [downTo_len]; omega)
      rw [encK_lt hil] at hY1
      obtain ⟨fn, tmps, assign, body, hy, hR⟩ := hY1
      have HE : Hid (downTo ds.length (m + 1) = downTo ds.length m ++ [i]) := by
        show _ = _
        rw [downTo_succ]; congr 2; omega
      clear hc hY
      generalize ds.getD i 0 = d at *
      gi_wp2
      refine hR.mono ?_
      rintro e W3 (⟨rfl, hJ3, hk3⟩ | ⟨rfl, hJx3⟩)
      · have HN3 := Lib.hid (HK.out _ _ hk3 HN.out)
        gi_wp2
        go_roundw
        case rel => exact ⟨m + 1, (i : Int) - 1, by omega, by omega, by go_num, by rw [HE.out]; exact hJ3, HN3.out⟩
        case measure => simp [intOf]
      · have HM : Hid (m + 1 ≤ ds.length) := by show m + 1 ≤ ds.length; omega
        gi_wp2
        refine bodyPost_ret (results_none rfl _ _ _) rfl ?_
        exact ⟨⟨_, rfl⟩, .inr ⟨_, ⟨m + 1, HM.out, HE.out.symm⟩, hJx3⟩⟩
    · obtain rfl : k = -1 := by omega
      have HM : Hid (m = ds.length) := by show m = ds.length; omega
      clear hm
      gi_wp2
      go_end0
      exact ⟨⟨_, rfl⟩, .inl (by rw [HM.out] at hJs; exact hJs)⟩

set_option maxHeartbeats 1000000 in
theorem backK_in (F : Fence) (n : Nat) (hf : F.fn 21) (hro : F.round = none) (a : Option Addr) (len cap : Nat) (w : World) :
    CallsIn F n Try.prog 21 #[.slice a len cap] w fun e w' => e = .returned (.func (.func 26) #[] #[.pointer (some ⟨w.heap.size, 0, none⟩)]) ∧ w' = w.alloc (.cells #[.slice a len cap] 22) := by
  refine callsIn_of_wp Try.func21 rfl hf ?_ hro
  simp only [Try.ntmps21, List.size_toArray, List.length_cons, List.length_nil, Nat.reduceAdd, Nat.reduceSub, Array.replicate_succ, Array.replicate_zero, List.push_toArray, List.append_toArray, List.nil_append, List.cons_append]
  gi_wp2
  go_ret
  exact ⟨rfl, rfl⟩
end Go.Proofs.Ytkcgcojhgcfgmaa
