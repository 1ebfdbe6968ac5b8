/- bottom.byRank, bottom.lowest, bottom.All. -/
import Derived.Test.YtnihcpaakbhpcaaU3
import Derived.Test.YtnihcpaakbhpcaaG3
namespace Go.Proofs.Ytnihcpaakbhpcaa
open Go.RowKit Go.Deep Go.Sort Go.Shelf Go.Lib

theorem uvalues_any (a : Option Addr) (len cap : Nat) (w : World) :
    Calls Try.prog 28 #[.slice a len cap] w fun e w' => e = .returned (.func (.func 46) #[] #[.pointer (some ⟨w.heap.size, 0, none⟩)]) ∧ w' = w.alloc (.cells #[.slice a len cap] 25) :=
  (callsIn_wide (n := 4)).1 (uvalues_in Fence.wide 4 trivial rfl a len cap w)

set_option maxHeartbeats 1000000 in
theorem byRank_any (s : W64) (w : World) :
    Calls Try.prog 39 #[.int .u64 (s.toNat : Int)] w fun e w' => e = .returned (rkF w.heap.size) ∧ w' = w.alloc (.cells #[.int .u64 (s.toNat : Int)] 22) := by
  go_enter Try.func39, Try.ntmps39
  go_wp2
  go_ret
  exact ⟨rfl, rfl⟩

/-- The sketch of a list. -/
def skL (s : W64) (r : Int) (l : List W64) : List W64 := ske (rk s) r.toNat l
def UPost (w : World) (l : List W64) (e : Ending) (w' : World) : Prop := ∃ v, e = .returned v ∧ OU w' w.heap.size v l ∧ Below w.heap.size w w'
theorem low_eq (s : W64) (r : Int) (ds : List W64) : (compact (srtR s ds)).take r.toNat = skL s r ds := by
  unfold skL ske
  rw [compact_ful (fun x y => rk_inj) (srtR_sorted s ds) (srtR_mem s ds)]

set_option maxRecDepth 100000 in
set_option maxHeartbeats 2000000 in
theorem lowest_any (s : W64) (r : Int) (A : Option Addr) (ca : Nat) (ds : List W64) (w : World) (hr : 1 ≤ r) (hr2 : r ≤ 400) (hl : UP w A ca ds) (hs : ds.length ≤ 17592186044416) :
    Calls Try.prog 38 #[.int .u64 (s.toNat : Int), .int .i64 r, .slice A ds.length ca] w (UPost w (skL s r ds)) := by
  have hb0 : Below w.heap.size w (w.alloc (.cells #[.slice A ds.length ca] 25)) := (Below.refl _ _).alloc (Nat.le_refl _) _
  obtain ⟨w1, hw1⟩ : ∃ w1, w.alloc (.cells #[.slice A ds.length ca] 25) = w1 := ⟨_, rfl⟩
  have hX0 : Boxed w1 w.heap.size 25 (.slice A ds.length ca) := by rw [← hw1]; exact Boxed.new _ _ _
  have h11 : w1.heap.size = w.heap.size + 1 := by rw [← hw1]; simp
  have hb1 : Below w1.heap.size w1 (w1.alloc (.cells #[.int .u64 (s.toNat : Int)] 22)) := (Below.refl _ _).alloc (Nat.le_refl _) _
  have C := Lib.hid (sortedFuncU_any s w1.heap.size w.heap.size A ca ds hs (w1.alloc (.cells #[.int .u64 (s.toNat : Int)] 22)) ((hb1.block _ (by omega)).trans hX0) ((hl.ul.later (by rw [← hw1] ; exact hb0)).later hb1) (Boxed.new _ _ _))
  have V := Lib.hid (uvalues_any A ds.length ca w)
  rw [hw1] at V hb0
  have R := Lib.hid (byRank_any s w1)
  have HB : Hid (Below w.heap.size w (w1.alloc (.cells #[.int .u64 (s.toNat : Int)] 22))) := hb0.trans (hb1.mono (by omega))
  have HS : Hid (w.heap.size ≤ (w1.alloc (.cells #[.int .u64 (s.toNat : Int)] 22)).heap.size) := HB.out.size
  have HLE := Lib.hid (low_eq s r ds)
  have HL4 : Hid (ds.length ≤ 17592186044416) := hs
  have HSL : Hid ((srtR s ds).length = ds.length) := List.length_mergeSort _
  clear hX0 h11 hb0 hb1 hl hw1 hs
  go_enter Try.func38, Try.ntmps38
  go_wp2_with fail
  refine V.out.mono ?_
  rintro e w2 ⟨rfl, rfl⟩
  go_wp2_with fail
  refine R.out.mono ?_
  rintro e w2 ⟨rfl, rfl⟩
  go_wp2_with fail
  refine C.out.mono ?_
  rintro e w2 ⟨v, rfl, hO, hb⟩
  obtain ⟨R1, cr, rfl, _⟩ := hO.up
  have HB2 := Lib.hid (HB.out.trans (hb.mono HS.out))
  have HK := Lib.hid (compactU_any _ _ R1 cr _ w2 rfl hO hb.size)
  clear C V R hb hO
  obtain ⟨n1, hn1⟩ : ∃ n1, (srtR s ds).length = n1 := ⟨_, rfl⟩
  rw [hn1] at HK ⊢
  have HN1 : Hid (n1 = ds.length) := by rw [← hn1]; exact HSL.out
  clear hn1 HSL
  go_wp2_with fail
  refine HK.out.mono ?_
  rintro e w3 ⟨rfl, hO, hb⟩
  have HB3 := Lib.hid (HB2.out.trans (hb.mono HS.out))
  obtain ⟨cs, hcs⟩ : ∃ cs, compact (srtR s ds) = cs := ⟨_, rfl⟩
  rw [hcs] at hO HLE ⊢
  have hup := hO.upv rfl
  have hle := hup.le
  have hcap := hup.cap
  obtain ⟨k, hk⟩ : ∃ k : Nat, min r (cs.length : Int) = k := ⟨(min r (cs.length : Int)).toNat, by omega⟩
  have hkl : k ≤ cs.length := by omega
  have hk4 : k ≤ 400 := by omega
  have hkr : cs.take k = skL s r ds := by
    rw [← HLE.out]
    rcases Nat.le_total r.toNat cs.length with h | h
    · have : k = r.toNat := by omega
      rw [this]
    · rw [List.take_of_length_le h, List.take_of_length_le (by omega)]
  have hup2 : UP w3 R1 cr (cs.take k) := ⟨hup.ul.take k, by rw [List.length_take]; omega, hup.cap, hup.none⟩
  have CL := Lib.hid (cloneU_any R1 cr (cs.take k) w3 hup2 (by rw [List.length_take]; omega))
  have hkk : (cs.take k).length = k := by rw [List.length_take]; omega
  rw [hkk] at CL
  rw [hkr] at CL
  have HB3s := Lib.hid HB3.out.size
  clear hO hb HK HB2 hup hup2 hkr hkk HLE hcs
  go_wp2_with fail
  refine CL.out.mono ?_
  rintro e w4 ⟨v, rfl, hO, hb⟩
  have HO : Hid (UPost w (skL s r ds) (.returned v) w4) := ⟨v, rfl, hO.base HB3s.out, HB3.out.trans (hb.mono HB3s.out)⟩
  clear hO hb CL
  go_wp2
  go_ret
  exact HO.out
end Go.Proofs.Ytnihcpaakbhpcaa
