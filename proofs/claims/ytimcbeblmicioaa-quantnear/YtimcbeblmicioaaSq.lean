/- slices.Values, slices.AppendSeq, slices.Collect, slices.Sorted, at integers. -/
import Derived.RangeFuncNested
import Derived.RangeFuncBound
import Derived.RangeFuncCalls
import Derived.RangeFuncLeaves
import Derived.RangeFuncBox
import Derived.Shelf.Abstract
import Derived.Shelf.RegionOpen
import Derived.WalkKit
import Derived.OwnWalkIn
import Derived.TacticsInMore
import Derived.LoopNIn
import Derived.LoopIn
import Derived.Maps.AppendAt
import Derived.Sort.OwnSortedInts
import Derived.Test.YtimcbeblmicioaaOl
import Derived.Test.YtimcbeblmicioaaShS
namespace Go.Proofs.Ytimcbeblmicioaa
open Go.RowKit Go.Deep Go.Shelf

attribute [local go_sem] Oper.semAt_some

def encV (x : Int) : Array Value := #[.int .i64 x]

set_option maxRecDepth 100000 in
set_option maxHeartbeats 2000000 in
theorem values1_in (F : Fence) (n : Nat) (hf : F.fn 36) (hro : F.round = none) (hn : 1 ≤ n) (l B n₀ : Nat) (A : Option Addr) (ca : Nat) (ds : List Int) (hs : ds.length ≤ 4611686018427387904) (J Jx : List Int → World → Prop)
    (hY : ∀ pre x W, J pre W → pre.length < ds.length → YieldAt F (n - 1) Try.prog l (encV x) W fun e W' =>
      (e = .returned (.bool true) ∧ J (pre ++ [x]) W' ∧ Below n₀ W W') ∨ (e = .returned (.bool false) ∧ Jx (pre ++ [x]) W'))
    (W : World) (hB : Boxed W B 23 (.slice A ds.length ca)) (hI : Il W A ds) (hA : 0 < ds.length → ∀ b off, A = some ⟨b, off, none⟩ → b < n₀) (h0 : J [] W) :
    CallsIn F n Try.prog 36 #[.func (.yield l) #[] #[], .pointer (some ⟨B, 0, none⟩)] W fun e W' => (∃ v, e = .returned v) ∧
      ((∃ ys, ys = ds ∧ J ys W') ∨ (∃ pre, True ∧ Jx pre W')) := by
  have hbc := hB.cell
  have HI := Lib.hid hI
  have HA := Lib.hid hA
  clear hB hI hA
  refine callsIn_of_wp Try.func36 rfl hf ?_ hro
  simp only [Try.ntmps36, List.size_toArray, List.length_cons, List.length_nil, Nat.reduceAdd, Nat.reduceSub, Array.replicate_succ, Array.replicate_zero, List.push_toArray, List.append_toArray, List.nil_append, List.cons_append]
  gi_wp2
  gi_loopw [7] (fun i wr => ∃ k : Nat, k ≤ ds.length ∧ i = .int .i64 k ∧ J (ds.take k) wr ∧ Below n₀ W wr) (fun i _ => ds.length - (intOf i).toNat)
  case atStart => exact ⟨0, by omega, rfl, h0, Below.refl _ _⟩
  case round =>
    obtain ⟨k, hk, rfl, hJs, hnx⟩ := hrel
    have HN := Lib.hid hnx
    clear hnx hbc
    by_cases hlt : k < ds.length
    · obtain ⟨b, off, rfl, _, hc⟩ := HI.out.at (by omega)
      have hcx := (HN.out.cell (p := ⟨b, off + k, none⟩) (HA.out (by omega) _ _ rfl)).trans (hc k hlt)
      have hY1 := hY _ (ds.getD k 0) wr hJs (by rw [List.length_take]; omega)
      unfold encV at hY1
      obtain ⟨fn, tmps, assign, body, hy, hR⟩ := hY1
      have HE : Hid (ds.take (k + 1) = ds.take k ++ [ds.getD k 0]) := by
        show _ = _
        rw [List.take_add_one]; simp [List.getD_eq_getElem?_getD, hlt]
      clear hc hY
      generalize ds.getD k 0 = d at *
      gi_wp2
      refine hR.mono ?_
      rintro e W3 (⟨rfl, hJ3, hk3⟩ | ⟨rfl, hJx3⟩)
      · gi_wp2
        go_roundw
        case rel => exact ⟨k + 1, by omega, by go_num, by rw [HE.out]; exact hJ3, HN.out.trans hk3⟩
        case measure => simp [intOf]; omega
      · gi_wp2
        refine bodyPost_ret (results_none rfl _ _ _) rfl ?_
        exact ⟨⟨_, rfl⟩, .inr ⟨_, trivial, hJx3⟩⟩
    · obtain rfl : k = ds.length := by omega
      gi_wp2
      go_end0
      exact ⟨⟨_, rfl⟩, .inl ⟨_, List.take_length, hJs⟩⟩

set_option maxHeartbeats 1000000 in
theorem values_in (F : Fence) (n : Nat) (hf : F.fn 20) (hro : F.round = none) (a : Option Addr) (len cap : Nat) (w : World) :
    CallsIn F n Try.prog 20 #[.slice a len cap] w fun e w' => e = .returned (.func (.func 36) #[] #[.pointer (some ⟨w.heap.size, 0, none⟩)]) ∧ w' = w.alloc (.cells #[.slice a len cap] 23) := by
  refine callsIn_of_wp Try.func20 rfl hf ?_ hro
  simp only [Try.ntmps20, List.size_toArray, List.length_cons, List.length_nil, Nat.reduceAdd, Nat.reduceSub, Array.replicate_succ, Array.replicate_zero, List.push_toArray, List.append_toArray, List.nil_append, List.cons_append]
  gi_wp2
  go_ret
  exact ⟨rfl, rfl⟩

theorem appInfo : (Try.prog.info? 3).map (fun i => (i.zero, i.size, i.bytes)) = some (some (.int .i64 0), 1, 8) := by kernel_rfl

set_option maxRecDepth 100000 in
set_option maxHeartbeats 2000000 in
theorem appendSeq_in (F : Fence) (n : Nat) (hf : F.fn 41) (hfv : F.fn 36) (hro : F.round = none) (hn : 3 ≤ n) (g : Nat) (A : Option Addr) (ca : Nat) (ds : List Int) (hs : ds.length ≤ 4398046511104) (w : World) (hB : Boxed w g 23 (.slice A ds.length ca)) (hI : Il w A ds) :
    CallsIn F n Try.prog 41 #[.slice none 0 0, .func (.func 36) #[] #[.pointer (some ⟨g, 0, none⟩)]] w fun e w' => ∃ v, e = .returned v ∧ OI w' w.heap.size v ds ∧ Below w.heap.size w w' := by
  have h1 : 1 ≤ n := by omega
  obtain ⟨i0, hi, hz0, hz1, hz2⟩ := info_parts appInfo
  refine callsIn_of_wp_marks Try.func41 rfl hf ?_ hro
  simp only [Try.ntmps41, List.size_toArray, List.length_cons, List.length_nil, Nat.reduceAdd, Nat.reduceSub, Array.replicate_succ, Array.replicate_zero, List.push_toArray, List.append_toArray, List.nil_append, List.cons_append]
  gi_wp2
  have bO := Boxed.new w 23 (.slice none 0 0)
  have hB0 : Below w.heap.size w (w.alloc (.cells #[.slice none 0 0] 23)) := (Below.refl _ w).alloc (Nat.le_refl _) _
  have hgl := hB.lt
  refine wpIn_rangeFunc_ownG hro h1 (gf := 36) (lb := #[.pointer (some ⟨g, 0, none⟩)]) rfl hfv (enters_of Try.func36 (by kernel_rfl) rfl)
    (encs := encV) (Kp := Below w.heap.size) (S := fun ys => ys = ds) (Sp := fun _ => True) (N := ds.length) (w0 := w.alloc (.cells #[.slice none 0 0] 23))
    (fun l J Jx W hW _ _ hY h0 => values1_in F _ hfv hro (by omega) l g w.heap.size A ca ds (by omega) J Jx hY W ((hW.block _ (by simp; omega)).trans ((hB0.block _ hgl).trans hB)) ((hI.later hB0).later hW)
      (fun h0 b off e => by
        obtain ⟨b2, o2, e2, hl2, _⟩ := hI.at h0
        rw [e] at e2; cases e2; exact hl2) h0)
    belowK_t (belowK_b (by simp)) (Below.refl _ _) (fun _ => rfl)
    (fun pre W => (∃ v, Boxed W w.heap.size 23 v ∧ W.ownsRow w.heap.size 3 1 v pre.length (ivs pre) ∧ True) ∧ Below w.heap.size w W)
    (fun _ _ _ => False)
    (OwnFrom.and (Own.from (holdsRow_own w.heap.size w.heap.size 23 3 1 (fun pre : List Int => pre.length) (fun pre => ivs pre) (fun _ _ => True)) _) (ownFrom_below (Nat.le_refl _) (by simp)))
    (fun _ _ _ _ _ hs _ _ => hs)
    ⟨⟨_, bO, World.ownsRow_nil _ _ _ _, trivial⟩, hB0⟩
    (fun x => { tmps := #[.slice none 0 0, .func (.func 36) #[] #[.pointer (some ⟨g, 0, none⟩)], .pointer (some ⟨w.heap.size, 0, none⟩), undef, .slice none 0 0, .int .i64 x, .func (.func 36) #[] #[.pointer (some ⟨g, 0, none⟩)], .int .i64 x, undef, undef, undef, undef, undef], defers := [] }) ?assign ?body ?done ?stop
  case assign =>
    intro l x W K hK
    unfold encV
    gi_wp2
    exact hK
  case body =>
    rintro l pre x W ⟨⟨v, hv, hrow, _⟩, hB1⟩ hlt
    have hc := hv.cell
    gi_wp2_with (gi_at_builtin; refine wpListIn_append_own _ rfl _ _ 23 rfl w.heap.size 3 i0 (.int .i64 0) 1 8 Try.underlying23 hi hz0 hz1 hz2 rfl (by decide) _ _ _ rfl (hrow.alloc _) ⟨W.heap.size, 0, none⟩ 1 1 [.int .i64 x] rfl rfl (cell_one_new _ _ _) (by simp [Value.oneCell']) (by simp only [maxLen]; omega) (by omega) (by have := hB1.size; simp; omega) ?_; intro v' w1 hown' hgrow _; obtain ⟨g', cap', rfl⟩ := ownsRow_succ hown'; obtain ⟨hv1, hv2, hr2, hk2, hb2⟩ := hv.appended (by decide) hrow hB1.size (Nat.le_refl _) hown' hgrow; have hc1 := hv1.cell; have hf1 := hv1.frozen)
    exact ⟨hk2.from _, hb2, ⟨_, hv2, by rw [ivs_append, List.length_append]; exact hr2, trivial⟩, hB1.trans hb2⟩
  case done =>
    rintro D ys W hD rfl ⟨⟨v, hv, hrow, _⟩, hB1⟩ hK
    have hc := hv.cell
    gi_wp2
    refine ⟨by simp, .inl ⟨_, _, rfl, run_takeDeferred hK, ?_⟩⟩
    exact ⟨_, results_tmp rfl _ _ _, v, rfl, ownsRow_putObj hrow _ hK rfl, hB1.trans (belowK_b (w := w) (Nat.le_refl _) W D _ _ (by simp at hD; omega) hK rfl rfl)⟩
  case stop =>
    rintro D c pre W _ _ h _
    exact h.elim

set_option maxHeartbeats 1000000 in
theorem collect_any (g : Nat) (A : Option Addr) (ca : Nat) (ds : List Int) (hs : ds.length ≤ 4398046511104) (w : World) (hB : Boxed w g 23 (.slice A ds.length ca)) (hI : Il w A ds) :
    Calls Try.prog 34 #[.func (.func 36) #[] #[.pointer (some ⟨g, 0, none⟩)]] w fun e w' => ∃ v, e = .returned v ∧ OI w' w.heap.size v ds ∧ Below w.heap.size w w' := by
  have C : Calls Try.prog 41 #[.slice none 0 0, .func (.func 36) #[] #[.pointer (some ⟨g, 0, none⟩)]] w _ := (callsIn_wide (n := 4)).1 (appendSeq_in Fence.wide 4 trivial trivial rfl (by omega) g A ca ds hs w hB hI)
  have HC := Lib.hid C
  clear C hB hI hs
  go_enter Try.func34, Try.ntmps34
  go_wp2_with fail
  refine HC.out.mono ?_
  rintro e w1 ⟨v, rfl, hO, hb⟩
  go_wp2
  go_ret
  exact ⟨_, rfl, hO, hb⟩

set_option maxHeartbeats 1000000 in
theorem sortO_any (B n : Nat) (R : Option Addr) (cr : Nat) (ds : List Int) (hs : ds.length ≤ 4398046511104) (w : World) (hn : ds.length = n) (hO : OI w B (.slice R n cr) ds) (hB : B ≤ w.heap.size) :
    Calls Try.prog 35 #[.slice R n cr] w fun e w' => e = .returned (.tuple #[]) ∧ OI w' B (.slice R n cr) (ds.mergeSort fun x y => decide (x ≤ y)) ∧ Below B w w' := by
  subst hn
  rcases hO.2 with ⟨h, h1⟩ | ⟨g, cap, cur, h, hg, hb, hc, hcm, hcs, ht⟩
  · have : ds = [] := List.eq_nil_of_length_eq_zero (by omega)
    subst this
    cases h
    refine (sh_slices_Sort_int_none none 0 w).mono ?_
    rintro e w' ⟨rfl, rfl⟩
    exact ⟨rfl, by rw [List.mergeSort_nil]; exact hO, Below.refl _ _⟩
  · cases h
    refine (sh_slices_Sort_int g 0 cr ds w (holds_of_blockI hb (by simpa [ivs] using ht)) (lt_of_block hb) (by omega)).mono ?_
    rintro e w' ⟨rfl, q, os, rfl⟩
    refine ⟨rfl, ?_, ?_⟩
    · have := ownsRow_sortedI (w := w) (base := B) (g := g) (cap := cr) (n := q) (e := 3) (os := os) (cur := cur) (ss := ds) (ts := ds.mergeSort fun x y => decide (x ≤ y)) (List.length_mergeSort _) hg hb hc hcm hcs
      unfold OI
      rw [List.length_mergeSort]
      exact this
    · exact (Below.refl B w).grown (grownBy_sortedI _) hB (fun k e => by cases e; exact hg)

set_option maxHeartbeats 1000000 in
/-- slices.Sorted(slices.Values(ds)). -/
theorem sorted_any (g : Nat) (A : Option Addr) (ca : Nat) (ds : List Int) (hs : ds.length ≤ 4398046511104) (w : World) (hB : Boxed w g 23 (.slice A ds.length ca)) (hI : Il w A ds) :
    Calls Try.prog 19 #[.func (.func 36) #[] #[.pointer (some ⟨g, 0, none⟩)]] w fun e w' => ∃ v, e = .returned v ∧ OI w' w.heap.size v (ds.mergeSort fun x y => decide (x ≤ y)) ∧ Below w.heap.size w w' := by
  have HC := Lib.hid (collect_any g A ca ds hs w hB hI)
  clear hB hI
  go_enter Try.func19, Try.ntmps19
  go_wp2_with fail
  refine HC.out.mono ?_
  rintro e w1 ⟨v, rfl, hO, hb⟩
  obtain ⟨R, cr, rfl, _⟩ := hO.ip
  have HS := Lib.hid (sortO_any w.heap.size ds.length R cr ds hs w1 rfl hO hb.size)
  have HB := Lib.hid hb
  clear HC hO hb
  go_wp2_with fail
  refine HS.out.mono ?_
  rintro e w2 ⟨rfl, hO, hb⟩
  have HB2 := Lib.hid (HB.out.trans hb)
  clear hb HB
  go_wp2
  go_ret
  exact ⟨_, rfl, hO, HB2.out⟩
end Go.Proofs.Ytimcbeblmicioaa
