/- slices.Compact of integers of the call's own. -/
import Derived.Test.YtclfimpcacoefaaOl
import Derived.Test.YtclfimpcacoefaaShCi
import Derived.Sort.OwnSortedInts
namespace Go.Proofs.Ytclfimpcacoefaa
open Go.RowKit Go.Deep Go.Sort Go.Shelf Go.Lib

theorem oneIv : OneCell (Value.int .i64) := fun _ => rfl
theorem eqlIv (T : TypeId) : EqlAt Try.prog T (Value.int .i64) (fun x y => decide (x = y)) := EqlAt.int Try.prog T .i64
theorem neqIv (T : TypeId) : NeqAt Try.prog T (Value.int .i64) (fun x y => decide (x = y)) := NeqAt.int Try.prog T .i64

theorem holds_of_blockIv {w : World} {g : Nat} {cur : Array Value} {e : TypeId} {ss : List Int} (hb : w.heap[g]? = some (.cells cur e (0, 0))) (ht : cur.toList.take ss.length = ivs ss) : Holds (Value.int .i64) w g 0 ss.toArray := by
  intro j hj
  have hj' : j < ss.length := by simpa using hj
  refine ⟨?_, by simp [World.frozen?, hb]⟩
  have h1 : (cur.toList.take ss.length)[j]? = (ivs ss)[j]? := by rw [ht]
  rw [List.getElem?_take_of_lt hj'] at h1
  simp only [World.cell?, hb, Nat.zero_add]
  simp only [Option.isSome_none, Bool.false_eq_true, if_false]
  rw [← Array.getElem?_toList, h1]
  simp [hj', ivs]
theorem heap_sortedIv {w : World} {g n : Nat} {os : Array Obj} {cur : Array Value} {e : TypeId} {fr : Nat × Nat} (d : Array Int) (hb : w.heap[g]? = some (.cells cur e fr)) :
    (grow (putRow (Value.int .i64) (Sort.ahead w n) g 0 d) os).heap[g]? = some (.cells (putCells (Value.int .i64) 0 d cur) e fr) := by
  have hg : g < w.heap.size := (Array.getElem?_eq_some_iff.1 hb).1
  rw [heap_grow_old _ _ (by simpa using hg)]
  simp [putRow, mapBlock, Sort.ahead, Array.getElem?_modify, hb, onCells]
theorem grownBy_sortedIv {w : World} {g n : Nat} {os : Array Obj} (d : Array Int) : w.grownBy (grow (putRow (Value.int .i64) (Sort.ahead w n) g 0 d) os) (some g) := by
  refine ⟨rfl, rfl, rfl, by simp, fun k hk hne => ?_⟩
  rw [heap_grow_old _ _ (by simpa using hk)]
  have : g ≠ k := fun e => hne (by rw [e])
  simp [putRow, mapBlock, Sort.ahead, Array.getElem?_modify, this]
theorem take_putCellsIv (cur : Array Value) (ts : List Int) (h : ts.length ≤ cur.size) : (putCells (Value.int .i64) 0 ts.toArray cur).toList.take ts.length = ivs ts := by
  unfold ivs
  apply List.ext_getElem?
  intro j
  by_cases hj : j < ts.length
  · rw [List.getElem?_take_of_lt hj, Array.getElem?_toList]
    simp [putCells, hj, show j < cur.size by omega]
  · rw [List.getElem?_take_eq_none (by omega), List.getElem?_eq_none (by simp; omega)]
/-- The same slice, or its first part, owns what has been laid over the whole. -/
theorem oi_laid {w : World} {base g cap n k : Nat} {os : Array Obj} {cur : Array Value} {ss ts : List Int} (hl : ts.length = ss.length) (hbase : base ≤ g) (hb : w.heap[g]? = some (.cells cur 3 (0, 0)))
    (h1 : ss.length ≤ cap) (h2 : cap ≤ maxLen) (h3 : cur.size = cap * 1) (hk : k ≤ ts.length) :
    OI (grow (putRow (Value.int .i64) (Sort.ahead w n) g 0 ts.toArray) os) base (.slice (some ⟨g, 0, none⟩) k cap) (ts.take k) := by
  have e : (ts.take k).length = k := by rw [List.length_take]; omega
  refine ⟨by rw [ivs_len, e]; omega, .inr ⟨g, cap, _, by rw [e], hbase, heap_sortedIv _ hb, by omega, h2, by simp [putCells, h3], ?_⟩⟩
  rw [e, Nat.mul_one, ivs_take, ← take_putCellsIv cur ts (by omega), List.take_take, Nat.min_eq_left hk]

theorem zeroIv : ∀ w, (zeroValue 3).run Try.prog w = .ok (Value.int .i64 0) w := fun w => Try.zeroValue3 w

set_option maxHeartbeats 1000000 in
theorem compactI_any (B n : Nat) (R : Option Addr) (cr : Nat) (ds : List Int) (w : World) (hn : ds.length = n) (hO : OI w B (.slice R n cr) ds) (hB : B ≤ w.heap.size) :
    Calls Try.prog 22 #[.slice R n cr] w fun e w' => e = .returned (.slice R (compact ds).length cr) ∧ OI w' B (.slice R (compact ds).length cr) (compact ds) ∧ Below B w w' := by
  subst hn
  rcases hO.2 with ⟨h, h1⟩ | ⟨g, cap, cur, h, hg, hb, hc, hcm, hcs, ht⟩
  · have : ds = [] := List.eq_nil_of_length_eq_zero (by omega)
    subst this
    cases h
    have e : compact ([] : List Int) = [] := rfl
    rw [e]
    have HO := Lib.hid hO
    clear hO h1 e
    go_enter Try.func22, Try.ntmps22
    go_wp2
    go_ret
    exact ⟨rfl, HO.out, Below.refl _ _⟩
  · cases h
    have hcon := AnyE.slices_Compact shCompactI (Value.int .i64) oneIv (eqlIv _) (neqIv _) 0 zeroIv g 0 cr ds.toArray w (holds_of_blockIv hb (by simpa using ht)) (by simp; unfold maxLen at hcm; omega) (by simpa using hc)
    refine hcon.mono ?_
    rintro e w' ⟨rfl, q, rfl⟩
    have hl : (compactUpTo ds.toArray ds.toArray.size).length ≤ ds.length := by
      unfold compactUpTo
      rw [List.length_map]
      have := List.length_filter_le (keeps ds.toArray) (List.range ds.toArray.size)
      simpa using this
    have ec : compactUpTo ds.toArray ds.toArray.size = compact ds := rfl
    rw [ec] at hl ⊢
    obtain ⟨ts, hts⟩ : ∃ ts, compact ds ++ List.replicate (ds.toArray.size - (compact ds).length) (0 : Int) = ts := ⟨_, rfl⟩
    have hlt : ts.length = ds.length := by rw [← hts]; simp; omega
    have htk : compact ds = ts.take (compact ds).length := by rw [← hts]; simp
    rw [hts]
    have hw := grow_empty (putRow (Value.int .i64) (Sort.ahead w q) g 0 ts.toArray)
    rw [← hw]
    refine ⟨rfl, ?_, (Below.refl B w).grown (grownBy_sortedIv _) hB (fun k e => by cases e; exact hg)⟩
    have := oi_laid (w := w) (n := q) (os := #[]) hlt hg hb hc hcm hcs (k := (compact ds).length) (by omega)
    rwa [← htk] at this

end Go.Proofs.Ytclfimpcacoefaa
