import Derived.Test.YtnihcpaakbhpcaaGa
import Derived.Lib.SlicesCompact
import Derived.Test.YtnihcpaakbhpcaaU3
/- What slices.Compact leaves of a row in order: each one once. -/
namespace Go.Proofs.Ytnihcpaakbhpcaa
open Go.Lib

theorem getB {α : Type} [Inhabited α] (l : List α) {i : Nat} (hi : i < l.length) : l.toArray[i]! = l[i] := by simp [hi]
/-- Those that stay of the first m. -/
theorem compact_upto {r : W64 → Nat} (hr : ∀ x y, r x = r y → x = y) {l : List W64} (hl : l.Pairwise fun x y => r x ≤ r y) : ∀ m, m ≤ l.length →
    Ra r (compactUpTo l.toArray m) ∧ (∀ x, x ∈ compactUpTo l.toArray m ↔ x ∈ l.take m) ∧ ∀ x ∈ compactUpTo l.toArray m, ∀ h : m - 1 < l.length, r x ≤ r l[m - 1]
  | 0, _ => by
    have e : compactUpTo l.toArray 0 = [] := rfl
    rw [e]
    exact ⟨List.Pairwise.nil, by simp, by simp⟩
  | m + 1, hm => by
    obtain ⟨h1, h2, h3⟩ := compact_upto hr hl m (by omega)
    have hml : m < l.length := by omega
    rw [compactUpTo_succ, getB l hml]
    have htk : l.take (m + 1) = l.take m ++ [l[m]] := by rw [List.take_add_one]; simp [hml]
    have hle : ∀ i (h : i < m), r l[i] ≤ r l[m] := fun i h => List.pairwise_iff_getElem.1 hl i m (by omega) hml h
    have hall : ∀ x ∈ compactUpTo l.toArray m, r x ≤ r l[m] := fun x hx => by
      rw [h2] at hx
      obtain ⟨i, hi, e⟩ := List.getElem_of_mem hx
      rw [List.getElem_take] at e
      rw [← e]
      exact hle i (by rw [List.length_take] at hi; omega)
    cases hk : keeps l.toArray m
    · rw [if_neg (by simp), List.append_nil, htk]
      have hm0 : 0 < m := by
        rcases Nat.eq_zero_or_pos m with h | h
        · subst h; simp [keeps] at hk
        · exact h
      have he : l[m] = l[m - 1] := by
        simp [keeps, getB l hml, getB l (show m - 1 < l.length by omega)] at hk
        have := hk.2
        simpa [hml, show m - 1 < l.length by omega] using this
      refine ⟨h1, fun x => ?_, fun x hx h => hall x hx⟩
      rw [h2, List.mem_append, List.mem_singleton]
      constructor
      · exact Or.inl
      · rintro (h | h)
        · exact h
        · rw [h, he, List.mem_take_iff_getElem]
          exact ⟨m - 1, by omega, rfl⟩
    · rw [if_pos rfl, htk]
      have hlt : ∀ x ∈ compactUpTo l.toArray m, r x < r l[m] := fun x hx => by
        rcases Nat.eq_zero_or_pos m with h | h
        · subst h
          have e : compactUpTo l.toArray 0 = [] := rfl
          rw [e] at hx; simp at hx
        · have h4 := h3 x hx (by omega)
          have h5 := hle (m - 1) (by omega)
          have h6 : l[m] ≠ l[m - 1] := by
            simp [keeps, getB l hml, getB l (show m - 1 < l.length by omega)] at hk
            rcases hk with hk | hk
            · omega
            · simpa [hml, show m - 1 < l.length by omega] using hk
          have h7 : r l[m - 1] ≠ r l[m] := fun e => h6 (hr _ _ e).symm
          omega
      refine ⟨?_, fun x => ?_, fun x hx h => ?_⟩
      · refine List.pairwise_append.2 ⟨h1, List.pairwise_singleton _ _, fun x hx y hy => ?_⟩
        rw [List.mem_singleton] at hy
        subst hy
        exact hlt x hx
      · rw [List.mem_append, List.mem_append, h2]
      · rcases List.mem_append.1 hx with h | h
        · exact hall x h
        · rw [List.mem_singleton] at h
          subst h
          exact Nat.le_refl _
theorem compact_ful {r : W64 → Nat} (hr : ∀ x y, r x = r y → x = y) {l ds : List W64} (hl : l.Pairwise fun x y => r x ≤ r y) (hp : ∀ x, x ∈ l ↔ x ∈ ds) : compact l = ful r ds := by
  obtain ⟨h1, h2, _⟩ := compact_upto hr hl l.length (Nat.le_refl _)
  refine ful_of r hr h1 fun x => ?_
  rw [compact, h2, List.take_length, hp]
end Go.Proofs.Ytnihcpaakbhpcaa

/- bottom.byRank, bottom.lowest, bottom.All. -/
namespace Go.Proofs.Ytnihcpaakbhpcaa
open Go.RowKit Go.Deep Go.Sort Go.Shelf Go.Lib

theorem uvalues_any (a : Option Addr) (len cap : Nat) (w : World) :
    Calls Try.prog 28 #[.slice a len cap] w fun e w' => e = .returned (.func (.func 46) #[] #[.pointer (some ⟨w.heap.size, 0, none⟩)]) ∧ w' = w.alloc (.cells #[.slice a len cap] 25) :=
  (callsIn_wide (n := 4)).1 (uvalues_in Fence.wide 4 trivial rfl a len cap w)

set_option maxHeartbeats 1000000 in
theorem byRank_any (s : W64) (w : World) :
    Calls Try.prog 39 #[.int .u64 (s.toNat : Int)] w fun e w' => e = .returned (rkF w.heap.size) ∧ w' = w.alloc (.cells #[.int .u64 (s.toNat : Int)] 22) := by
  go_enter Try.func39, Try.ntmps39
  go_wp2
  go_ret
  exact ⟨rfl, rfl⟩

/-- The sketch of a list. -/
def skL (s : W64) (r : Int) (l : List W64) : List W64 := ske (rk s) r.toNat l
def UPost (w : World) (l : List W64) (e : Ending) (w' : World) : Prop := ∃ v, e = .returned v ∧ OU w' w.heap.size v l ∧ Below w.heap.size w w'
theorem low_eq (s : W64) (r : Int) (ds : List W64) : (compact (srtR s ds)).take r.toNat = skL s r ds := by
  unfold skL ske
  rw [compact_ful (fun x y => rk_inj) (srtR_sorted s ds) (srtR_mem s ds)]

set_option maxRecDepth 100000 in
set_option maxHeartbeats 2000000 in
theorem lowest_any (s : W64) (r : Int) (A : Option Addr) (ca : Nat) (ds : List W64) (w : World) (hr : 1 ≤ r) (hr2 : r ≤ 400) (hl : UP w A ca ds) (hs : ds.length ≤ 17592186044416) :
    Calls Try.prog 38 #[.int .u64 (s.toNat : Int), .int .i64 r, .slice A ds.length ca] w (UPost w (skL s r ds)) := by
  have hb0 : Below w.heap.size w (w.alloc (.cells #[.slice A ds.length ca] 25)) := (Below.refl _ _).alloc (Nat.le_refl _) _
  obtain ⟨w1, hw1⟩ : ∃ w1, w.alloc (.cells #[.slice A ds.length ca] 25) = w1 := ⟨_, rfl⟩
  have hX0 : Boxed w1 w.heap.size 25 (.slice A ds.length ca) := by rw [← hw1]; exact Boxed.new _ _ _
  have h11 : w1.heap.size = w.heap.size + 1 := by rw [← hw1]; simp
  have hb1 : Below w1.heap.size w1 (w1.alloc (.cells #[.int .u64 (s.toNat : Int)] 22)) := (Below.refl _ _).alloc (Nat.le_refl _) _
  have C := Lib.hid (sortedFuncU_any s w1.heap.size w.heap.size A ca ds hs (w1.alloc (.cells #[.int .u64 (s.toNat : Int)] 22)) ((hb1.block _ (by omega)).trans hX0) ((hl.ul.later (by rw [← hw1] ; exact hb0)).later hb1) (Boxed.new _ _ _))
  have V := Lib.hid (uvalues_any A ds.length ca w)
  rw [hw1] at V hb0
  have R := Lib.hid (byRank_any s w1)
  have HB : Hid (Below w.heap.size w (w1.alloc (.cells #[.int .u64 (s.toNat : Int)] 22))) := hb0.trans (hb1.mono (by omega))
  have HS : Hid (w.heap.size ≤ (w1.alloc (.cells #[.int .u64 (s.toNat : Int)] 22)).heap.size) := HB.out.size
  have HLE := Lib.hid (low_eq s r ds)
  have HL4 : Hid (ds.length ≤ 17592186044416) := hs
  have HSL : Hid ((srtR s ds).length = ds.length) := List.length_mergeSort _
  clear hX0 h11 hb0 hb1 hl hw1 hs
  go_enter Try.func38, Try.ntmps38
  go_wp2_with fail
  refine V.out.mono ?_
  rintro e w2 ⟨rfl, rfl⟩
  go_wp2_with fail
  refine R.out.mono ?_
  rintro e w2 ⟨rfl, rfl⟩
  go_wp2_with fail
  refine C.out.mono ?_
  rintro e w2 ⟨v, rfl, hO, hb⟩
  obtain ⟨R1, cr, rfl, _⟩ := hO.up
  have HB2 := Lib.hid (HB.out.trans (hb.mono HS.out))
  have HK := Lib.hid (compactU_any _ _ R1 cr _ w2 rfl hO hb.size)
  clear C V R hb hO
  obtain ⟨n1, hn1⟩ : ∃ n1, (srtR s ds).length = n1 := ⟨_, rfl⟩
  rw [hn1] at HK ⊢
  have HN1 : Hid (n1 = ds.length) := by rw [← hn1]; exact HSL.out
  clear hn1 HSL
  go_wp2_with fail
  refine HK.out.mono ?_
  rintro e w3 ⟨rfl, hO, hb⟩
  have HB3 := Lib.hid (HB2.out.trans (hb.mono HS.out))
  obtain ⟨cs, hcs⟩ : ∃ cs, compact (srtR s ds) = cs := ⟨_, rfl⟩
  rw [hcs] at hO HLE ⊢
  have hup := hO.upv rfl
  have hle := hup.le
  have hcap := hup.cap
  obtain ⟨k, hk⟩ : ∃ k : Nat, min r (cs.length : Int) = k := ⟨(min r (cs.length : Int)).toNat, by omega⟩
  have hkl : k ≤ cs.length := by omega
  have hk4 : k ≤ 400 := by omega
  have hkr : cs.take k = skL s r ds := by
    rw [← HLE.out]
    rcases Nat.le_total r.toNat cs.length with h | h
    · have : k = r.toNat := by omega
      rw [this]
    · rw [List.take_of_length_le h, List.take_of_length_le (by omega)]
  have hup2 : UP w3 R1 cr (cs.take k) := ⟨hup.ul.take k, by rw [List.length_take]; omega, hup.cap, hup.none⟩
  have CL := Lib.hid (cloneU_any R1 cr (cs.take k) w3 hup2 (by rw [List.length_take]; omega))
  have hkk : (cs.take k).length = k := by rw [List.length_take]; omega
  rw [hkk] at CL
  rw [hkr] at CL
  have HB3s := Lib.hid HB3.out.size
  clear hO hb HK HB2 hup hup2 hkr hkk HLE hcs
  go_wp2_with fail
  refine CL.out.mono ?_
  rintro e w4 ⟨v, rfl, hO, hb⟩
  have HO : Hid (UPost w (skL s r ds) (.returned v) w4) := ⟨v, rfl, hO.base HB3s.out, HB3.out.trans (hb.mono HB3s.out)⟩
  clear hO hb CL
  go_wp2
  go_ret
  exact HO.out
end Go.Proofs.Ytnihcpaakbhpcaa
