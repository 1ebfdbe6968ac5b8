/- lfsr.Row. -/
import Derived.Test.YtcadpgpenjpdiaaXl6
namespace Go.Proofs.Ytcadpgpenjpdiaa
open Go.RowKit Go.Deep

theorem Bs.setRow {T : Nat} {w : World} {g : Nat} {l : List Bool} (h : Bs T w g (bvs l)) (i : Nat) (x : Bool) : Bs T (w.setCell ⟨g, i, none⟩ (.bool x)) g (bvs (l.set i x)) := by
  have := h.set i (.bool x)
  rwa [show (bvs l).set i (.bool x) = bvs (l.set i x) by unfold bvs; rw [List.map_set]] at this
theorem bs_offs (w : World) (n : Nat) : Bs 4 (w.alloc (.cells (madeCells #[.bool false] n) 4)) w.heap.size (bvs (List.replicate n false)) := by
  have := Bs.made 4 w (.bool false) n
  simpa [bvs] using this
/-- The highest bit of the state behind so many steps. -/
def hib (n t x i : Nat) : Bool := decide (nit n t i x / 2 ^ (n - 1) = 1)
/-- The highest bits of so many states. -/
def rowN (n t x m : Nat) : List Bool := (List.range m).map (hib n t x)
theorem rowN_len (n t x m : Nat) : (rowN n t x m).length = m := by simp [rowN]
theorem rowN_succ (n t x m : Nat) : rowN n t x (m + 1) = rowN n t x m ++ [hib n t x m] := by simp [rowN, List.range_succ]
theorem rowN_at {n t x m i : Nat} (h : i < m) : (rowN n t x m).getD i false = hib n t x i := by
  simp [rowN, h]
/-- The first k, and room for the others. -/
def rwl (n t x m k : Nat) : List Bool := rowN n t x k ++ List.replicate (m - k) false
theorem rwl_len {m k : Nat} (h : k ≤ m) (n t x : Nat) : (rwl n t x m k).length = m := by unfold rwl; rw [List.length_append, rowN_len, List.length_replicate]; omega
theorem rwl_zero (n t x m : Nat) : rwl n t x m 0 = List.replicate m false := by simp [rwl, rowN]
theorem rwl_all (n t x m : Nat) : rwl n t x m m = rowN n t x m := by simp [rwl]
theorem rwl_step {m k : Nat} (h : k < m) (n t x : Nat) : (rwl n t x m k).set k (hib n t x k) = rwl n t x m (k + 1) := by
  unfold rwl
  have e : m - k = (m - (k + 1)) + 1 := by omega
  rw [e, List.replicate_succ, rowN_succ, List.append_assoc]
  have hl := rowN_len n t x k
  rw [List.set_append, if_neg (by omega), hl, Nat.sub_self]
  rfl
theorem SF.otherCell {w : World} {a b n t g : Nat} (h : SF w a b n t) (ha : a ≠ g) (hb : b ≠ g) (i : Nat) (v : Value) : SF (w.setCell ⟨g, i, none⟩ v) a b n t := by
  obtain ⟨h1, h2, h3, h4⟩ := h
  refine ⟨?_, ?_, by simpa using h3, by simpa using h4⟩
  · rw [World.cell?_setCell_other _ _ _ _ (by intro e; exact ha (by cases e; rfl))]; exact h1
  · rw [World.cell?_setCell_other _ _ _ _ (by intro e; exact hb (by cases e; rfl))]; exact h2

set_option maxRecDepth 100000 in
set_option maxHeartbeats 1000000 in
theorem row_bad {n : Int} {t x : Nat} (ht : t < 4294967296) (hx : x < 4294967296) (h : ¬ OKh n t x) (B : Int) (w : World) : Calls Try.prog 11 #[.int .i64 n, .int .u32 (t : Int), .int .u32 (x : Int), .int .i64 B] w fun e w' => e = .returned (.tuple #[.slice none 0 0, .int .i64 1]) ∧ w' = w := by
  have C := Lib.hid (holds_any n t x ht hx w)
  rw [decide_eq_false h] at C
  clear h
  go_enter Try.func11, Try.ntmps11
  go_wp2_with fail
  refine C.out.mono ?_
  rintro e w1 ⟨rfl, rfl⟩
  go_wp2
  go_ret2
  exact ⟨rfl, rfl⟩
set_option maxRecDepth 100000 in
set_option maxHeartbeats 1000000 in
theorem row_far {n t x : Nat} (h : NR n t) (hx : x < 2 ^ n) (B : Int) (hB : ¬ (0 ≤ B ∧ B ≤ 400)) (w : World) : Calls Try.prog 11 #[.int .i64 (n : Int), .int .u32 (t : Int), .int .u32 (x : Int), .int .i64 B] w fun e w' => e = .returned (.tuple #[.slice none 0 0, .int .i64 2]) ∧ w' = w := by
  have C := Lib.hid (holds_any n t x h.taps (by have := h.state hx; omega) w)
  rw [decide_eq_true (h.okh hx)] at C
  clear h hx
  by_cases h0 : B < 0
  · clear hB
    go_enter Try.func11, Try.ntmps11
    go_wp2_with fail
    refine C.out.mono ?_
    rintro e w1 ⟨rfl, rfl⟩
    go_wp2
    go_ret2
    exact ⟨rfl, rfl⟩
  · have h1 : 400 < B := by omega
    clear hB
    go_enter Try.func11, Try.ntmps11
    go_wp2_with fail
    refine C.out.mono ?_
    rintro e w1 ⟨rfl, rfl⟩
    go_wp2
    go_ret2
    exact ⟨rfl, rfl⟩

set_option maxRecDepth 100000 in
set_option maxHeartbeats 2000000 in
theorem row_ok {n t x : Nat} (h : NR n t) (hx : x < 2 ^ n) (m : Nat) (hm : m ≤ 400) (w0 : World) : Calls Try.prog 11 #[.int .i64 (n : Int), .int .u32 (t : Int), .int .u32 (x : Int), .int .i64 (m : Int)] w0 fun e w' => ∃ (R : Option Addr) (cr : Nat), e = .returned (.tuple #[.slice R m cr, .int .i64 0]) ∧ TP w' R cr (rowN n t x m) ∧ Below w0.heap.size w0 w' := by
  have hen := enters_step
  have C := Lib.hid (holds_any n t x h.taps (by have := h.state hx; omega) w0)
  rw [decide_eq_true (h.okh hx)] at C
  have CS := Lib.hid (stepper_any h)
  unfold sfv at CS
  have HL := Lib.hid (fun k => nit_lt (t := t) (k := k) h.lo hx)
  have CN0 := Lib.hid (fun a b y hy w hs => next_any (a := a) (b := b) (w := w) (x := y) h hy hs)
  have hmk := run_make_row' (P := Try.prog) 26 4 (.bool false) 1 Try.underlying26 info_bool rfl .i64 .i64 m (by omega) (by omega)
  obtain ⟨v, hv⟩ : ∃ v, n = v + 1 := ⟨n - 1, by have := h.lo; omega⟩
  have hvi : (n : Int) - 1 = (v : Int) := by omega
  have hv19 : v ≤ 19 := by have := h.hi; omega
  obtain ⟨q, hq, hq1, hq2, hqi⟩ := pow20 (n := v) (by omega)
  have HH : Hid (∀ k, hib n t x k = decide (nit n t k x / q = 1)) := fun k => by unfold hib; rw [show n - 1 = v by omega, hq]
  clear h hx hv hq
  go_enter Try.func11, Try.ntmps11
  go_wp2_with fail
  refine C.out.mono ?_
  rintro e w0 ⟨rfl, rfl⟩
  go_wp2_with fail
  refine (CS.out _).mono ?_
  rintro e w1 ⟨a, b, rfl, hs, hb⟩
  have hb1 : Below w1.heap.size w1 (w1.alloc (.cells (madeCells #[.bool false] m) 4)) := (Below.refl _ _).alloc (Nat.le_refl _) _
  have HZ : Hid (Bs 4 (w1.alloc (.cells (madeCells #[.bool false] m) 4)) w1.heap.size (bvs (rwl n t x m 0))) := by
    show Bs _ _ _ _
    rw [rwl_zero]; exact bs_offs w1 m
  have HS1 := Lib.hid (hs.later hb1)
  have HB1 := Lib.hid (hb.trans (hb1.mono hb.size))
  have hsz := hb.size
  have hag := hs.2.2.1
  have hbg := hs.2.2.2
  have CN := Lib.hid (CN0.out a b)
  obtain ⟨g, hg⟩ : ∃ g, w1.heap.size = g := ⟨_, rfl⟩
  rw [hg] at HZ hsz hag hbg
  clear hs hb hb1 CN0 CS
  go_wp2_with fail
  clear hmk
  go_loopw [2, 31] (fun xv iv wr => ∃ k : Nat, k ≤ m ∧ iv = .int .i64 k ∧ xv = .int .u32 (nit n t k x : Int) ∧ Bs 4 wr g (bvs (rwl n t x m k)) ∧ SF wr a b n t ∧ Below w0.heap.size w0 wr) (fun _ iv _ => m - (intOf iv).toNat)
  case atStart => exact ⟨0, by omega, rfl, rfl, HZ.out, HS1.out, HB1.out⟩
  case round =>
    clear HZ HS1 HB1
    obtain ⟨k, hk, rfl, rfl, hZ, hS, hB⟩ := hrel
    have HZ := Lib.hid hZ
    have HS := Lib.hid hS
    have HB := Lib.hid hB
    clear hS hB hZ
    by_cases hlt : k < m
    · have hki : (k : Int) < (m : Int) := by omega
      have cz := HZ.out.cell (j := k) (by rw [bvs_len, rwl_len hk]; exact hlt)
      rw [bvs_at (by rw [rwl_len hk]; exact hlt)] at cz
      have fz := HZ.out.frozen k
      have HZ2 := Lib.hid (HZ.out.setRow k (hib n t x k))
      rw [rwl_step hlt] at HZ2
      have HS2 := Lib.hid (HS.out.otherCell (g := g) (by omega) (by omega) k (.bool (hib n t x k)))
      have HB2 := Lib.hid (HB.out.setCell (p := ⟨g, k, none⟩) hsz (.bool (hib n t x k)))
      have CK := Lib.hid (CN.out _ (HL.out k) _ HS2.out)
      have E : Hid (nst n t (nit n t k x) = nit n t (k + 1) x) := rfl
      have hbt : (((nit n t k x / q : Nat) : Int) == 1) = hib n t x k := by
        rw [HH.out k, Bool.eq_iff_iff, beq_iff_eq, decide_eq_true_iff]
        omega
      have hd : ((nit n t k x : Nat) : Int) / (q : Int) = ((nit n t k x / q : Nat) : Int) := by norm_cast
      clear HZ HS HB
      generalize nit n t k x / q = z at *
      generalize hib n t x k = u at *
      generalize nit n t k x = y at *
      generalize nst n t y = y' at *
      generalize (rwl n t x m k).getD k false = old at *
      go_wp2_with fail
      refine CK.out.mono ?_
      rintro e w2 ⟨rfl, m2, rfl⟩
      have HZ3 := Lib.hid (HZ2.out.below (below_drewN (Below.refl (g + 1) _) m2) (by omega))
      have HS3 := Lib.hid (HS2.out.drewN m2)
      have HB3 := Lib.hid (below_drewN HB2.out m2)
      go_wp2
      go_roundw
      case rel => exact ⟨k + 1, by omega, by go_num, by rw [E.out], HZ3.out, HS3.out, HB3.out⟩
      case measure => simp [intOf]; omega
    · obtain rfl : k = m := by omega
      have hF := HZ.out
      rw [rwl_all] at hF
      have HT : Hid (TP wr (some ⟨g, 0, none⟩) k (rowN n t x k)) := ⟨hF.vs, by rw [rowN_len]; exact Nat.le_refl _, by omega, by rw [rowN_len]; omega, fun h => by cases h⟩
      clear hF HZ
      go_wp2
      go_ret2
      exact ⟨some ⟨g, 0, none⟩, k, rfl, HT.out, HB.out⟩
end Go.Proofs.Ytcadpgpenjpdiaa
