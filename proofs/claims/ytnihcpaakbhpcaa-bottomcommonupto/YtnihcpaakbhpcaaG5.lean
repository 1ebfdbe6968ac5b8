/- bottom.All, bottom.Right. -/
import Derived.Test.YtnihcpaakbhpcaaG4
namespace Go.Proofs.Ytnihcpaakbhpcaa
open Go.RowKit Go.Deep Go.Sort Go.Shelf Go.Lib

/-- What All answers. -/
def allF (s : W64) (r : Int) (l : List W64) : List W64 × Int := if 1 ≤ r ∧ r ≤ 400 then (skL s r l, 0) else ([], 2)

set_option maxHeartbeats 1000000 in
theorem all_any (s : W64) (r : Int) (A : Option Addr) (ca : Nat) (l : List W64) (w : World) (hl : UP w A ca l) (hs : l.length ≤ 17592186044416) :
    Calls Try.prog 16 #[.int .u64 (s.toNat : Int), .int .i64 r, .slice A l.length ca] w (UOPost w (allF s r l)) := by
  have C := Lib.hid (inRange_any r w)
  by_cases h : 1 ≤ r ∧ r ≤ 400
  · have hd : decide (1 ≤ r ∧ r ≤ 400) = true := decide_eq_true h
    rw [hd] at C
    have K := Lib.hid (lowest_any s r A ca l w h.1 h.2 hl hs)
    have HE : Hid (allF s r l = (skL s r l, 0)) := if_pos h
    rw [HE.out]
    clear h hd hl hs HE
    go_enter Try.func16, Try.ntmps16
    go_wp2_with fail
    refine C.out.mono ?_
    rintro e w1 ⟨rfl, rfl⟩
    go_wp2_with fail
    refine K.out.mono ?_
    rintro e w2 ⟨v, rfl, hO, hb⟩
    have HO := Lib.hid (uopost_ou (e := 0) hO hb)
    clear hO hb C K
    go_wp2
    go_ret2
    exact HO.out
  · have hd : decide (1 ≤ r ∧ r ≤ 400) = false := decide_eq_false h
    rw [hd] at C
    have HE : Hid (allF s r l = ([], 2)) := if_neg h
    rw [HE.out]
    clear h hd hl hs HE
    go_enter Try.func16, Try.ntmps16
    go_wp2_with fail
    refine C.out.mono ?_
    rintro e w1 ⟨rfl, rfl⟩
    go_wp2
    go_ret2
    exact uopost_none (Below.refl _ _)

/-- A valid sketch. -/
def RtP (s : W64) (r : Int) (l : List W64) : Prop := ((1 ≤ r ∧ r ≤ 400) ∧ (l.length : Int) ≤ r) ∧ Ra (rk s) l
instance (s : W64) (r : Int) (l : List W64) : Decidable (RtP s r l) := by unfold RtP Ra; infer_instance
theorem ra_step {r : W64 → Nat} {l : List W64} (h : ∀ i, i + 1 < l.length → r (l.getD i 0) < r (l.getD (i + 1) 0)) : Ra r l := by
  have key : ∀ d i, i + (d + 1) < l.length → r (l.getD i 0) < r (l.getD (i + (d + 1)) 0) := by
    intro d
    induction d with
    | zero => intro i hi; exact h i hi
    | succ d ih =>
      intro i hi
      have h1 := ih i (by omega)
      have h2 := h (i + (d + 1)) (by omega)
      rw [show i + (d + 1 + 1) = i + (d + 1) + 1 by omega]
      omega
  refine List.pairwise_iff_getElem.2 fun i j hi hj hij => ?_
  have := key (j - i - 1) i (by omega)
  rw [show i + (j - i - 1 + 1) = j by omega] at this
  simpa [List.getD_eq_getElem?_getD, hi, hj] using this
theorem ra_at {r : W64 → Nat} {l : List W64} (h : Ra r l) {i j : Nat} (hij : i < j) (hj : j < l.length) : r (l.getD i 0) < r (l.getD j 0) := by
  have := List.pairwise_iff_getElem.1 h i j (by omega) hj hij
  simpa [List.getD_eq_getElem?_getD, hj, show i < l.length by omega] using this

theorem ord_ge {x y : Nat} : decide (0 ≤ ord x y) = !decide (x < y) := by
  have := @ord_neg x y
  by_cases h : x < y
  · have h2 := this.2 h
    rw [decide_eq_true h, decide_eq_false (by omega)]; rfl
  · have h2 : ¬ ord x y < 0 := fun e => h (this.1 e)
    rw [decide_eq_false h, decide_eq_true (by omega)]; rfl

set_option maxRecDepth 100000 in
set_option maxHeartbeats 2000000 in
theorem right_any (s : W64) (r : Int) (A : Option Addr) (ca : Nat) (l : List W64) (w : World) (hl : UP w A ca l) :
    Calls Try.prog 17 #[.int .u64 (s.toNat : Int), .int .i64 r, .slice A l.length ca] w fun e w' => e = .returned (.bool (decide (RtP s r l))) ∧ Below w.heap.size w w' := by
  have C := Lib.hid (inRange_any r w)
  have hle := hl.le
  have hcap := hl.cap
  by_cases h : 1 ≤ r ∧ r ≤ 400
  · have hd : decide (1 ≤ r ∧ r ≤ 400) = true := decide_eq_true h
    rw [hd] at C
    by_cases h2 : (l.length : Int) ≤ r
    · have t1 : decide (r < (l.length : Int)) = false := decide_eq_false (by omega)
      obtain ⟨w1, hw1⟩ : ∃ w1, w.alloc (.cells #[.int .u64 (s.toNat : Int)] 22) = w1 := ⟨_, rfl⟩
      have R := Lib.hid (byRank_any s w)
      rw [hw1] at R
      unfold rkF at R
      have HX : Hid (Boxed w1 w.heap.size 22 (.int .u64 (s.toNat : Int))) := by rw [← hw1]; exact Boxed.new _ _ _
      have HB : Hid (Below w.heap.size w w1) := by rw [← hw1]; exact (Below.refl _ _).alloc (Nat.le_refl _) _
      have HL := Lib.hid hl
      have HS1 : Hid (w.heap.size < w1.heap.size) := by show _ < _; rw [← hw1]; simp
      obtain ⟨bb, hbb⟩ : ∃ bb, decide (RtP s r l) = bb := ⟨_, rfl⟩
      have HY : Hid (∀ i, (∀ j, j + 1 < i → rk s (l.getD j 0) < rk s (l.getD (j + 1) 0)) → l.length ≤ i → true = bb) := fun i hi hil => by
        rw [← hbb]; exact (decide_eq_true ⟨⟨h, h2⟩, ra_step fun j hj => hi j (by omega)⟩).symm
      have HN : Hid (∀ i, i + 1 < l.length → ¬ rk s (l.getD i 0) < rk s (l.getD (i + 1) 0) → false = bb) := fun i hi hn => by
        rw [← hbb]; exact (decide_eq_false fun hR => hn (ra_at hR.2 (by omega) hi)).symm
      rw [hbb]
      have rkE := rkEnters
      clear h h2 hd hl hw1 hbb
      go_enter Try.func17, Try.ntmps17
      go_wp2_with fail
      refine C.out.mono ?_
      rintro e w ⟨rfl, rfl⟩
      go_wp2_with fail
      refine R.out.mono ?_
      rintro e w1 ⟨rfl, rfl⟩
      go_wp2_with fail
      go_loopw [8] (fun iv wr => ∃ i : Nat, 1 ≤ i ∧ iv = .int .i64 i ∧ (i ≤ l.length ∨ i = 1) ∧ (∀ j, j + 1 < i → rk s (l.getD j 0) < rk s (l.getD (j + 1) 0)) ∧ Below w1.heap.size w1 wr) (fun iv _ => l.length - (intOf iv).toNat)
      case atStart => exact ⟨1, by omega, rfl, .inr rfl, fun j hj => by omega, Below.refl _ _⟩
      case round =>
        obtain ⟨i, hi1, rfl, hi2, hj, hb⟩ := hrel
        have HJ := Lib.hid hj
        have HB2 := Lib.hid hb
        clear hj hb C R
        by_cases hlt : i < l.length
        · obtain ⟨m, hm⟩ : ∃ m, i = m + 1 := ⟨i - 1, by omega⟩
          have HM := Lib.hid hm
          have hw : IntKind.i64.wrap ((i : Int) - 1) = (m : Int) := by rw [IntWalk.i64_in _ (by omega), hm]; push_cast; omega
          have m1 : (0 : Int) ≤ (m : Int) := by omega
          have m2 : (m : Int) < (l.length : Int) := by omega
          have m3 : (i : Int) < (l.length : Int) := by omega
          obtain ⟨b, off, rfl, _, hcell⟩ := ((HL.out.later HB.out).later HB2.out).ul.at (by omega)
          have c1 := hcell m (by omega)
          have c2 := hcell i hlt
          have hx2 : Boxed wr w.heap.size 22 (.int .u64 (s.toNat : Int)) := (HB2.out.block _ HS1.out).trans HX.out
          have HX2 := Lib.hid hx2
          have hml : m + 1 < l.length := by omega
          have hn2 := HN.out m hml
          rw [← hm] at hn2
          have HN2 := Lib.hid hn2
          have HJ2 : Hid (rk s (l.getD m 0) < rk s (l.getD i 0) → ∀ j, j + 1 < i + 1 → rk s (l.getD j 0) < rk s (l.getD (j + 1) 0)) := fun hlt j hj => by
            by_cases e : j + 1 = i
            · have : j = m := by omega
              rw [e, this]; exact hlt
            · exact HJ.out j (by omega)
          clear hcell hx2 hm hml hn2
          generalize l.getD m 0 = x at *
          generalize l.getD i 0 = y at *
          by_cases hxy : rk s x < rk s y
          · have t2 : decide (0 ≤ ord (rk s x) (rk s y)) = false := by rw [ord_ge, decide_eq_true hxy]; rfl
            have HJ3 := Lib.hid (HJ2.out hxy)
            clear HJ2 HN2 hxy
            go_wp2
            go_quiet ((exact Calls.quiet_of (rank_any s x y w.heap.size _ HX2.out)))
            go_wp2
            go_roundw
            case rel => exact ⟨i + 1, by omega, by go_num, .inl (by omega), HJ3.out, below_drewN HB2.out _⟩
            case measure => simp [intOf]; omega
          · have t2 : decide (0 ≤ ord (rk s x) (rk s y)) = true := by rw [ord_ge, decide_eq_false hxy]; rfl
            have E := Lib.hid (HN2.out hxy)
            have HF := Lib.hid (HB.out.trans (HB2.out.mono (Nat.le_of_lt HS1.out)))
            clear HJ2 HN2 hxy HJ HY HN
            go_wp2
            go_quiet ((exact Calls.quiet_of (rank_any s x y w.heap.size _ HX2.out)))
            go_wp2
            go_ret
            exact ⟨retB E.out, below_drewN HF.out _⟩
        · have E := Lib.hid (HY.out i HJ.out (by omega))
          have HF := Lib.hid (HB.out.trans (HB2.out.mono (Nat.le_of_lt HS1.out)))
          clear HJ HY HN
          go_wp2
          go_ret
          exact ⟨retB E.out, HF.out⟩
    · have t1 : decide (r < (l.length : Int)) = true := decide_eq_true (by omega)
      have HE : Hid (decide (RtP s r l) = false) := decide_eq_false fun hR => h2 hR.1.2
      rw [HE.out]
      clear h h2 hd hl HE
      go_enter Try.func17, Try.ntmps17
      go_wp2_with fail
      refine C.out.mono ?_
      rintro e w2 ⟨rfl, rfl⟩
      go_wp2
      go_ret
      exact ⟨rfl, Below.refl _ _⟩
  · have hd : decide (1 ≤ r ∧ r ≤ 400) = false := decide_eq_false h
    rw [hd] at C
    have HE : Hid (decide (RtP s r l) = false) := decide_eq_false fun hR => h hR.1.1
    rw [HE.out]
    clear h hd hl HE
    go_enter Try.func17, Try.ntmps17
    go_wp2_with fail
    refine C.out.mono ?_
    rintro e w2 ⟨rfl, rfl⟩
    go_wp2
    go_ret
    exact ⟨rfl, Below.refl _ _⟩
end Go.Proofs.Ytnihcpaakbhpcaa
