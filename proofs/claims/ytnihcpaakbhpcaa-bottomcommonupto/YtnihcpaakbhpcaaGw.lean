/- BottomCommon: what both have, counted; slices.Sorted(slices.Values(l)) and its compact. -/
import Derived.Test.YtnihcpaakbhpcaaGc
import Derived.Test.YtnihcpaakbhpcaaGv
import Derived.Test.YtnihcpaakbhpcaaGp
import Derived.Test.YtnihcpaakbhpcaaSpg
namespace Go.Proofs.Ytnihcpaakbhpcaa
open Go.RowKit Go.Deep Go.Sort Go.Lib

/-- All of them, by number, each once. -/
def fuN (l : List W64) : List W64 := ful (fun z : W64 => z.toNat) l
/-- How many of the first are among the second, each once. -/
def botN (x y : List W64) : Nat := (fuN x).countP fun z => decide (z ∈ y)
theorem mem_fuN {x : List W64} {z : W64} : z ∈ fuN x ↔ z ∈ x := mem_ful _ toNat_inj'
theorem fuN_nodup (x : List W64) : (fuN x).Nodup := ra_nodup _ (ful_ra _ toNat_inj' x)
theorem skL_nodup (s : W64) (r : Int) (x : List W64) : (skL s r x).Nodup := ra_nodup (rk s) (ske_ra (rk s) (fun x y => rk_inj) _ _)
theorem mem_skL {s : W64} {r : Int} {x : List W64} {z : W64} (h : z ∈ skL s r x) : z ∈ x := (mem_ful (rk s) (fun _ _ => rk_inj)).1 (List.mem_of_mem_take h)
theorem cmn_le (s : W64) (r : Int) (x y : List W64) (u : List W64) (hu : u.Nodup) : cmnL (skL s r x) (skL s r y) u ≤ botN x y := by
  unfold cmnL botN
  rw [List.countP_eq_length_filter, List.countP_eq_length_filter]
  refine nodup_le (hu.filter _) ((fuN_nodup x).filter _) fun z hz => ?_
  rw [List.mem_filter, Bool.and_eq_true, decide_eq_true_iff, decide_eq_true_iff] at hz
  rw [List.mem_filter, decide_eq_true_iff]
  exact ⟨mem_fuN.2 (mem_skL hz.2.1), mem_skL hz.2.2⟩
theorem skL_ful {s : W64} {r : Int} {x a : List W64} (hx : ∀ z, z ∈ x → z ∈ a) (h : ((fuN a).length : Int) ≤ r) : skL s r x = ful (rk s) x := by
  unfold skL ske
  refine List.take_of_length_le ?_
  have := nodup_le (ra_nodup (rk s) (ful_ra (rk s) (fun _ _ => rk_inj) x)) (fuN_nodup a) (fun z hz => mem_fuN.2 (hx z ((mem_ful (rk s) (fun _ _ => rk_inj)).1 hz)))
  omega
theorem cmn_all {s : W64} {r : Int} {x y : List W64} (h : ((fuN (x ++ y)).length : Int) ≤ r) : cmnL (skL s r x) (skL s r y) (skL s r (x ++ y)) = botN x y ∧ (skL s r (x ++ y)).length = (fuN (x ++ y)).length := by
  have e1 := skL_ful (s := s) (x := x) (fun z hz => List.mem_append_left y hz) h
  have e2 := skL_ful (s := s) (x := y) (fun z hz => List.mem_append_right x hz) h
  have e3 := skL_ful (s := s) (x := x ++ y) (fun z hz => hz) h
  have m1 : ∀ (l : List W64) z, z ∈ ful (rk s) l ↔ z ∈ l := fun l z => mem_ful (rk s) (fun _ _ => rk_inj)
  have n1 : ∀ (l : List W64), (ful (rk s) l).Nodup := fun l => ra_nodup (rk s) (ful_ra (rk s) (fun _ _ => rk_inj) l)
  rw [e1, e2, e3]
  refine ⟨?_, nodup_len (n1 _) (fuN_nodup _) fun z => by rw [m1, mem_fuN]⟩
  unfold cmnL botN
  rw [List.countP_eq_length_filter, List.countP_eq_length_filter]
  refine nodup_len ((n1 _).filter _) ((fuN_nodup x).filter _) fun z => ?_
  rw [List.mem_filter, Bool.and_eq_true, decide_eq_true_iff, decide_eq_true_iff, List.mem_filter, decide_eq_true_iff, m1, m1, m1, mem_fuN, List.mem_append]
  exact ⟨fun h => h.2, fun h => ⟨.inl h.1, h⟩⟩
theorem cmn_self (a : List W64) : cmnL a a a = a.length := by
  unfold cmnL
  rw [List.countP_eq_length]
  intro z hz
  simp [hz]
theorem ins_len (r : W64 → Nat) (x : W64) : ∀ l : List W64, (ins r x l).length ≤ l.length + 1
  | [] => by simp [ins]
  | y :: l => by
    have h := ins_len r x l
    unfold ins
    split
    · simp
    · split
      · simp
      · simp only [List.length_cons]; omega
theorem ful_len (r : W64 → Nat) : ∀ l : List W64, (ful r l).length ≤ l.length
  | [] => by simp [ful]
  | x :: l => by
    have h1 := ful_len r l
    have h2 := ins_len r x (ful r l)
    show (ins r x (ful r l)).length ≤ _
    simp only [List.length_cons]
    omega
theorem botN_snoc (l y : List W64) (z : W64) : (l ++ [z]).countP (fun z => decide (z ∈ y)) = l.countP (fun z => decide (z ∈ y)) + if decide (z ∈ y) = true then 1 else 0 := by
  rw [List.countP_append, List.countP_singleton]

set_option maxHeartbeats 1000000 in
/-- slices.Sorted(slices.Values(ds)), and what its compact is. -/
theorem sortedV_any (A : Option Addr) (ca : Nat) (ds : List W64) (w : World) (hl : UP w A ca ds) (hs : ds.length ≤ 17592186044416) :
    Calls Try.prog 27 #[.func (.func 46) #[] #[.pointer (some ⟨w.heap.size, 0, none⟩)]] (w.alloc (.cells #[.slice A ds.length ca] 25)) fun e w' => ∃ (R : Option Addr) (cr : Nat) (l' : List W64), e = .returned (.slice R ds.length cr) ∧ l'.length = ds.length ∧ compact l' = fuN ds ∧ OU w' w.heap.size (.slice R ds.length cr) l' ∧ Below w.heap.size w w' := by
  have hb0 : Below w.heap.size w (w.alloc (.cells #[.slice A ds.length ca] 25)) := (Below.refl _ _).alloc (Nat.le_refl _) _
  have hsz : w.heap.size ≤ (w.alloc (.cells #[.slice A ds.length ca] 25)).heap.size := hb0.size
  refine (sortedU_any w.heap.size A ca ds hs _ (Boxed.new _ _ _) (hl.ul.later hb0)).mono ?_
  rintro e w1 ⟨v, l', rfl, hS, hT, hO, hb⟩
  obtain ⟨R, cr, rfl, _⟩ := hO.up
  have hlen := hS.len
  refine ⟨R, cr, l', by rw [hlen], hlen, srt_compact hS hT, ?_, hb0.trans (hb.mono hsz)⟩
  have := hO.base hsz
  rwa [hlen] at this
end Go.Proofs.Ytnihcpaakbhpcaa
