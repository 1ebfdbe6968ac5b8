/- slices.Compact, Contains, Reverse, Clone of words. -/
import Derived.Test.YtnihcpaakbhpcaaU0
import Derived.Test.YtnihcpaakbhpcaaShE
import Derived.Sort.OwnSortedInts
namespace Go.Proofs.Ytnihcpaakbhpcaa
open Go.RowKit Go.Deep Go.Sort Go.Shelf Go.Lib

theorem oneU : OneCell uv := fun _ => rfl
theorem intEq (x y : W64) : ((x.toNat : Int) == (y.toNat : Int)) = decide (x = y) := by
  by_cases h : x = y
  · subst h; simp
  · rw [decide_eq_false h, beq_eq_false_iff_ne]
    intro e
    exact h (BitVec.eq_of_toNat_eq (by omega))
theorem eqlU (T : TypeId) : EqlAt Try.prog T uv (fun x y => decide (x = y)) :=
  ⟨fun x y w => by rw [show uv x = Value.int .u64 (x.toNat : Int) from rfl, show uv y = Value.int .u64 (y.toNat : Int) from rfl, (EqlAt.int Try.prog T .u64).1 _ _ w]; simp only [intEq], fun op a b x y w => (GuardAt.int Try.prog T .u64) op a b _ _ w⟩
theorem neqU (T : TypeId) : NeqAt Try.prog T uv (fun x y => decide (x = y)) :=
  ⟨fun x y w => by rw [show uv x = Value.int .u64 (x.toNat : Int) from rfl, show uv y = Value.int .u64 (y.toNat : Int) from rfl, (NeqAt.int Try.prog T .u64).1 _ _ w]; simp only [intEq], fun op a b x y w => (GuardAt.int Try.prog T .u64) op a b _ _ w⟩

theorem holds_of_blockU {w : World} {g : Nat} {cur : Array Value} {e : TypeId} {ss : List W64} (hb : w.heap[g]? = some (.cells cur e (0, 0))) (ht : cur.toList.take ss.length = uvs ss) : Holds uv w g 0 ss.toArray := by
  intro j hj
  have hj' : j < ss.length := by simpa using hj
  refine ⟨?_, by simp [World.frozen?, hb]⟩
  have h1 : (cur.toList.take ss.length)[j]? = (uvs ss)[j]? := by rw [ht]
  rw [List.getElem?_take_of_lt hj'] at h1
  simp only [World.cell?, hb, Nat.zero_add]
  simp only [Option.isSome_none, Bool.false_eq_true, if_false]
  rw [← Array.getElem?_toList, h1]
  simp [hj', uvs]
theorem heap_sortedU {w : World} {g n : Nat} {os : Array Obj} {cur : Array Value} {e : TypeId} {fr : Nat × Nat} (d : Array W64) (hb : w.heap[g]? = some (.cells cur e fr)) :
    (grow (putRow uv (Sort.ahead w n) g 0 d) os).heap[g]? = some (.cells (putCells uv 0 d cur) e fr) := by
  have hg : g < w.heap.size := (Array.getElem?_eq_some_iff.1 hb).1
  rw [heap_grow_old _ _ (by simpa using hg)]
  simp [putRow, mapBlock, Sort.ahead, Array.getElem?_modify, hb, onCells]
theorem grownBy_sortedU {w : World} {g n : Nat} {os : Array Obj} (d : Array W64) : w.grownBy (grow (putRow uv (Sort.ahead w n) g 0 d) os) (some g) := by
  refine ⟨rfl, rfl, rfl, by simp, fun k hk hne => ?_⟩
  rw [heap_grow_old _ _ (by simpa using hk)]
  have : g ≠ k := fun e => hne (by rw [e])
  simp [putRow, mapBlock, Sort.ahead, Array.getElem?_modify, this]
theorem take_putCellsU (cur : Array Value) (ts : List W64) (h : ts.length ≤ cur.size) : (putCells uv 0 ts.toArray cur).toList.take ts.length = uvs ts := by
  unfold uvs
  apply List.ext_getElem?
  intro j
  by_cases hj : j < ts.length
  · rw [List.getElem?_take_of_lt hj, Array.getElem?_toList]
    simp [putCells, hj, show j < cur.size by omega]
  · rw [List.getElem?_take_eq_none (by omega), List.getElem?_eq_none (by simp; omega)]
/-- The same slice, or its first part, owns what has been laid over the whole. -/
theorem ou_laid {w : World} {base g cap n k : Nat} {os : Array Obj} {cur : Array Value} {ss ts : List W64} (hl : ts.length = ss.length) (hbase : base ≤ g) (hb : w.heap[g]? = some (.cells cur 22 (0, 0)))
    (h1 : ss.length ≤ cap) (h2 : cap ≤ maxLen) (h3 : cur.size = cap * 1) (hk : k ≤ ts.length) :
    OU (grow (putRow uv (Sort.ahead w n) g 0 ts.toArray) os) base (.slice (some ⟨g, 0, none⟩) k cap) (ts.take k) := by
  have e : (ts.take k).length = k := by rw [List.length_take]; omega
  refine ⟨by rw [uvs_len, e]; omega, .inr ⟨g, cap, _, by rw [e], hbase, heap_sortedU _ hb, by omega, h2, by simp [putCells, h3], ?_⟩⟩
  rw [e, Nat.mul_one, uvs_take, ← take_putCellsU cur ts (by omega), List.take_take, Nat.min_eq_left hk]

theorem zeroU : ∀ w, (zeroValue 22).run Try.prog w = .ok (uv 0) w := fun w => Try.zeroValue22 w

set_option maxHeartbeats 1000000 in
theorem compactU_any (B n : Nat) (R : Option Addr) (cr : Nat) (ds : List W64) (w : World) (hn : ds.length = n) (hO : OU w B (.slice R n cr) ds) (hB : B ≤ w.heap.size) :
    Calls Try.prog 26 #[.slice R n cr] w fun e w' => e = .returned (.slice R (compact ds).length cr) ∧ OU w' B (.slice R (compact ds).length cr) (compact ds) ∧ Below B w w' := by
  subst hn
  rcases hO.2 with ⟨h, h1⟩ | ⟨g, cap, cur, h, hg, hb, hc, hcm, hcs, ht⟩
  · have : ds = [] := List.eq_nil_of_length_eq_zero (by omega)
    subst this
    cases h
    have e : compact ([] : List W64) = [] := rfl
    rw [e]
    have HO := Lib.hid hO
    clear hO h1 e
    go_enter Try.func26, Try.ntmps26
    go_wp2
    go_ret
    exact ⟨rfl, HO.out, Below.refl _ _⟩
  · cases h
    have hcon := AnyE.slices_Compact shCompact uv oneU (eqlU _) (neqU _) 0 zeroU g 0 cr ds.toArray w (holds_of_blockU hb (by simpa using ht)) (by simp; unfold maxLen at hcm; omega) (by simpa using hc)
    refine hcon.mono ?_
    rintro e w' ⟨rfl, q, rfl⟩
    have hl : (compactUpTo ds.toArray ds.toArray.size).length ≤ ds.length := by
      unfold compactUpTo
      rw [List.length_map]
      have := List.length_filter_le (keeps ds.toArray) (List.range ds.toArray.size)
      simpa using this
    have ec : compactUpTo ds.toArray ds.toArray.size = compact ds := rfl
    rw [ec] at hl ⊢
    obtain ⟨ts, hts⟩ : ∃ ts, compact ds ++ List.replicate (ds.toArray.size - (compact ds).length) (0 : W64) = ts := ⟨_, rfl⟩
    have hlt : ts.length = ds.length := by rw [← hts]; simp; omega
    have htk : compact ds = ts.take (compact ds).length := by rw [← hts]; simp
    rw [hts]
    have hw := grow_empty (putRow uv (Sort.ahead w q) g 0 ts.toArray)
    rw [← hw]
    refine ⟨rfl, ?_, (Below.refl B w).grown (grownBy_sortedU _) hB (fun k e => by cases e; exact hg)⟩
    have := ou_laid (w := w) (n := q) (os := #[]) hlt hg hb hc hcm hcs (k := (compact ds).length) (by omega)
    rwa [← htk] at this

set_option maxHeartbeats 1000000 in
theorem reverseU_any (B n : Nat) (R : Option Addr) (cr : Nat) (ds : List W64) (w : World) (hn : ds.length = n) (hO : OU w B (.slice R n cr) ds) (hB : B ≤ w.heap.size) :
    Calls Try.prog 24 #[.slice R n cr] w fun e w' => e = .returned (.tuple #[]) ∧ OU w' B (.slice R n cr) ds.reverse ∧ Below B w w' := by
  subst hn
  rcases hO.2 with ⟨h, h1⟩ | ⟨g, cap, cur, h, hg, hb, hc, hcm, hcs, ht⟩
  · have : ds = [] := List.eq_nil_of_length_eq_zero (by omega)
    subst this
    cases h
    refine (AnyE.slices_Reverse_empty shReverse none 0 w).mono ?_
    rintro e w' ⟨rfl, rfl⟩
    exact ⟨rfl, by rw [List.reverse_nil]; exact hO, Below.refl _ _⟩
  · cases h
    refine (AnyE.slices_Reverse shReverse uv oneU g 0 cr ds w (holds_of_blockU hb (by simpa using ht)) (by unfold maxLen at hcm; omega)).mono ?_
    rintro e w' ⟨rfl, q, rfl⟩
    have hw := grow_empty (putRow uv (Sort.ahead w q) g 0 ds.reverse.toArray)
    rw [← hw]
    refine ⟨rfl, ?_, (Below.refl B w).grown (grownBy_sortedU _) hB (fun k e => by cases e; exact hg)⟩
    have := ou_laid (w := w) (n := q) (os := #[]) (ts := ds.reverse) List.length_reverse hg hb hc hcm hcs (k := ds.length) (by simp)
    rwa [List.take_of_length_le (by simp)] at this

theorem containsU_any (A : Option Addr) (ca : Nat) (c : List W64) (x : W64) (w : World) (hc : UP w A ca c) :
    Calls Try.prog 20 #[.slice A c.length ca, .int .u64 (x.toNat : Int)] w fun e w' => e = .returned (.bool (decide (x ∈ c))) ∧ w' = w := by
  by_cases h0 : 0 < c.length
  · obtain ⟨b, off, rfl, hlt, hcell⟩ := hc.ul.at h0
    have hle := hc.le
    have hcap := hc.cap
    refine (AnyE.slices_Contains shContains uv _ (eqlU _) b off c.length ca c x w (Nat.le_refl _) (by omega) (fun j hj => ?_)).mono ?_
    · rw [hcell j hj, List.getD_eq_getElem?_getD, List.getElem!_eq_getElem?_getD]
      rfl
    · rintro e w' ⟨rfl, rfl⟩
      refine ⟨?_, rfl⟩
      rw [List.take_length]
      refine retB ?_
      rw [Bool.eq_iff_iff]
      simp
  · have : c = [] := List.eq_nil_of_length_eq_zero (by omega)
    subst this
    refine (AnyE.slices_Contains_empty shContains A ca _ w).mono ?_
    rintro e w' ⟨rfl, rfl⟩
    exact ⟨by simp, rfl⟩

set_option maxHeartbeats 1000000 in
theorem cloneU_any (A : Option Addr) (ca : Nat) (l : List W64) (w : World) (hl : UP w A ca l) (hb : l.length ≤ 17592186044416) :
    Calls Try.prog 23 #[.slice A l.length ca] w fun e w' => ∃ v, e = .returned v ∧ OU w' w.heap.size v l ∧ Below w.heap.size w w' := by
  obtain ⟨i0, hi0, hz0, hz1, hz2⟩ := info_parts info_u64
  cases A with
  | none =>
    have := hl.none rfl
    have := hl.le
    obtain rfl : l = [] := List.eq_nil_of_length_eq_zero (by omega)
    refine (AnyE.slices_Clone_nil shClone 0 ca w).mono ?_
    rintro e w' ⟨rfl, rfl⟩
    exact ⟨_, rfl, OU.nil _ _, Below.refl _ _⟩
  | some a =>
    rcases Nat.eq_zero_or_pos l.length with h0 | h0
    · obtain rfl : l = [] := List.eq_nil_of_length_eq_zero h0
      have q22 : ∀ (w : World) (a : Option Addr) (n c n' c' : Nat), (binOp .eql 25 (.slice a n c) (.slice none n' c')).run Try.prog w = .ok (.bool a.isNone) w := fun w a n c n' c' => Lib.run_eql_slice_nil w _ _ a n c n' c' Try.underlying25
      clear hl hb h0
      go_enter Try.func23, Try.ntmps23
      go_wp2_with (at_builtin; refine wpList_append_own _ rfl _ _ 25 rfl w.heap.size 22 i0 (.int .u64 0) 1 8 Try.underlying25 hi0 hz0 hz1 hz2 rfl (by decide) _ _ _ rfl (World.ownsRow_made w #[] 0 (Nat.le_refl _) (Nat.zero_le _) rfl) a 0 ca [] rfl ?qc1 ?qc2 ?qc3 ?qc4 ?qc5 ?qc6 ?_)
      case qc1 => simp
      case qc2 => intro j u hj; simp at hj
      case qc3 => intro u hu; simp at hu
      case qc4 => unfold maxLen; omega
      case qc5 => omega
      case qc6 => simp
      intro v' w1 hown hgrow hnil
      go_wp2
      go_ret
      have hB : Below w.heap.size w w1 := ((Below.refl _ w).alloc (Nat.le_refl _) _).grown hgrow (by simp) (by intro k hk; simp [Value.ownBlock] at hk; omega)
      refine ⟨_, rfl, ?_, hB⟩
      unfold OU
      simpa [uvs] using hown
    · obtain ⟨b, off, e, hlt, hcell⟩ := hl.ul.at h0
      cases e
      refine (AnyE.slices_Clone shClone i0 (.int .u64 0) 1 8 hi0 hz0 hz1 hz2 rfl (by decide) Try.sizeOf22 b off l.length ca (uvs l) w (by rw [uvs_len, Nat.mul_one]) (by unfold maxLen; omega) (by omega) (fun j u hj => ?_) (fun u hu => ?_)).mono ?_
      · have hj2 : j < l.length := by have := (List.getElem?_eq_some_iff.1 hj).1; rwa [uvs_len] at this
        rw [hcell j hj2, ← hj, uvs_at hj2]
      · obtain ⟨y, _, rfl⟩ := List.mem_map.1 hu; rfl
      · rintro e w' ⟨v, rfl, h1, _, h2⟩
        exact ⟨v, rfl, h1, h2⟩
end Go.Proofs.Ytnihcpaakbhpcaa
