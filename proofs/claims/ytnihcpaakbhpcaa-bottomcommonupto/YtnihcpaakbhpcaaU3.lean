/- slices.SortFunc and slices.SortedFunc by bottom.byRank's closure. -/
import Derived.Shelf.SlSortCmp.NoneTotal
import Derived.Test.YtnihcpaakbhpcaaU1
import Derived.Test.YtnihcpaakbhpcaaU2
import Derived.Test.YtnihcpaakbhpcaaG2
import Derived.Test.YtnihcpaakbhpcaaShF
namespace Go.Proofs.Ytnihcpaakbhpcaa
open Go.RowKit Go.Deep Go.Sort Go.Shelf Go.Lib

def cfR (s x y : W64) : Int := ord (rk s x) (rk s y)
theorem ord_neg {x y : Nat} : ord x y < 0 ↔ x < y := by
  unfold ord
  split
  · simp_all
  · split <;> simp_all
theorem ltR (s x y : W64) : ltOf (cfR s) x y = decide (rk s x < rk s y) := by
  unfold ltOf cfR
  rw [decide_eq_decide, ord_neg]
theorem swoR (s : W64) : SWO (ltOf (cfR s)) where
  irrefl x := by rw [ltR]; simp
  trans x y z h1 h2 := by rw [ltR] at *; simp at *; omega
  ntrans x y z h1 h2 := by rw [ltR] at *; simp at *; omega
theorem totR (s x y : W64) (h1 : ltOf (cfR s) x y = false) (h2 : ltOf (cfR s) y x = false) : x = y := by
  rw [ltR] at h1 h2
  simp at h1 h2
  exact rk_inj (s := s) (by omega)
def srtR (s : W64) (l : List W64) : List W64 := l.mergeSort fun x y => !(ltOf (cfR s) y x)
theorem srtR_mem (s : W64) (l : List W64) (x : W64) : x ∈ srtR s l ↔ x ∈ l := (List.mergeSort_perm l _).mem_iff
theorem srtR_sorted (s : W64) (l : List W64) : (srtR s l).Pairwise fun x y => rk s x ≤ rk s y := by
  have h := List.pairwise_mergeSort (le := fun x y => !(ltOf (cfR s) y x)) (fun a b c h1 h2 => by rw [ltR] at *; simp at *; omega) (fun a b => by rw [ltR, ltR]; simp; omega) l
  refine h.imp fun {a b} hab => ?_
  rw [ltR] at hab
  simpa using hab

/-- The closure, its seed in the box Bx. -/
def rkF (Bx : Nat) : Value := .func (.func 55) #[] #[.pointer (some ⟨Bx, 0, none⟩)]
theorem rkEnters : ∀ args w, (callFunc 55 args).run Try.prog w = .ok (.enter 55 args) w := enters_of Try.func55 (by kernel_rfl) rfl

theorem boxed_grown {w w' : World} {g B t : Nat} {v : Value} (h : Boxed w B t v) (hg : w.grownBy w' (some g)) (hne : B ≠ g) : Boxed w' B t v :=
  (hg.block B h.lt (fun e => hne (by cases e; rfl))).trans h

set_option maxHeartbeats 1000000 in
theorem sortFuncU_any (s : W64) (Bx B n : Nat) (R : Option Addr) (cr : Nat) (ds : List W64) (w : World) (hn : ds.length = n) (hO : OU w B (.slice R n cr) ds) (hB : B ≤ w.heap.size) (hX : Boxed w Bx 22 (.int .u64 (s.toNat : Int))) (hBx : Bx < B) (hs : ds.length ≤ 17592186044416) :
    Calls Try.prog 66 #[.slice R n cr, rkF Bx] w fun e w' => e = .returned (.tuple #[]) ∧ OU w' B (.slice R n cr) (srtR s ds) ∧ Below B w w' := by
  subst hn
  rcases hO.2 with ⟨h, h1⟩ | ⟨g, cap, cur, h, hg, hb, hc, hcm, hcs, ht⟩
  · have : ds = [] := List.eq_nil_of_length_eq_zero (by omega)
    subst this
    cases h
    refine (AnyF.slices_SortFunc_none { shSortFunc with } none 0 _ w).mono ?_
    rintro e w' ⟨rfl, rfl⟩
    exact ⟨rfl, by unfold srtR; rw [List.mergeSort_nil]; exact hO, Below.refl _ _⟩
  · cases h
    have hcmp : CmpLays1 Try.prog 55 #[.pointer (some ⟨Bx, 0, none⟩)] uv (cfR s) g 0 ds.toArray.size w := CmpReads.lays fun m os dk _ x y =>
      rank_any s x y Bx _ (boxed_grown hX (grownBy_sortedU dk) (by omega))
    refine (Any.slices_SortFunc_total shSortFunc uv oneU (cfR s) (swoR s) 55 #[.pointer (some ⟨Bx, 0, none⟩)] g 0 cr ds.toArray w rkEnters hcmp (holds_of_blockU hb (by simpa using ht)) (lt_of_block hb) (by simp; omega) (totR s)).mono ?_
    rintro e w' ⟨rfl, q, os, rfl⟩
    refine ⟨rfl, ?_, (Below.refl B w).grown (grownBy_sortedU _) hB (fun k e => by cases e; exact hg)⟩
    have hl : (srtR s ds).length = ds.length := List.length_mergeSort _
    have := ou_laid (w := w) (n := q) (os := os) hl hg hb hc hcm hcs (k := ds.length) (by omega)
    rwa [List.take_of_length_le (by omega)] at this

set_option maxHeartbeats 1000000 in
/-- slices.SortedFunc(slices.Values(ds), byRank(s)). -/
theorem sortedFuncU_any (s : W64) (Bx g : Nat) (A : Option Addr) (ca : Nat) (ds : List W64) (hs : ds.length ≤ 17592186044416) (w : World) (hB : Boxed w g 25 (.slice A ds.length ca)) (hI : Ul w A ds) (hX : Boxed w Bx 22 (.int .u64 (s.toNat : Int))) :
    Calls Try.prog 54 #[.func (.func 46) #[] #[.pointer (some ⟨g, 0, none⟩)], rkF Bx] w fun e w' => ∃ v, e = .returned v ∧ OU w' w.heap.size v (srtR s ds) ∧ Below w.heap.size w w' := by
  have HC := Lib.hid (ucollect_any g A ca ds hs w hB hI)
  have HX := Lib.hid hX
  have HS := Lib.hid hs
  clear hB hI hX hs
  go_enter Try.func54, Try.ntmps54
  go_wp2_with fail
  refine HC.out.mono ?_
  rintro e w1 ⟨v, rfl, hO, hb⟩
  obtain ⟨R, cr, rfl, _⟩ := hO.up
  have HS := Lib.hid (sortFuncU_any s Bx w.heap.size ds.length R cr ds w1 rfl hO hb.size ((hb.block _ (Boxed.lt HX.out)).trans HX.out) (Boxed.lt HX.out) HS.out)
  have HB := Lib.hid hb
  clear HC hO hb HX
  go_wp2_with fail
  refine HS.out.mono ?_
  rintro e w2 ⟨rfl, hO, hb⟩
  have HB2 := Lib.hid (HB.out.trans hb)
  have HO := Lib.hid hO
  clear hb HB hO
  go_wp2
  go_ret
  exact ⟨_, rfl, HO.out, HB2.out⟩
end Go.Proofs.Ytnihcpaakbhpcaa
