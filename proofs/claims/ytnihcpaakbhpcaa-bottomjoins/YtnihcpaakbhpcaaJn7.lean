import Derived.Test.YtnihcpaakbhpcaaU1
import Derived.Deep.QuietTactic
import Derived.BigQuiet
import Derived.WalkSmall
import Derived.Test.YtnihcpaakbhpcaaG5
/- slices.Equal on words. -/
namespace Go.Proofs.Ytnihcpaakbhpcaa
open Go.RowKit

theorem neqw_no {x y : W64} (h : x = y) : ((x.toNat : Int) != (y.toNat : Int)) = false := by subst h; simp
theorem neqw_yes {x y : W64} (h : x ≠ y) : ((x.toNat : Int) != (y.toNat : Int)) = true := by
  rw [bne_iff_ne]
  intro e
  exact h (BitVec.eq_of_toNat_eq (by omega))
theorem ulist_of_getD {xs ys : List W64} (hl : xs.length = ys.length) (h : ∀ j, j < xs.length → xs.getD j 0 = ys.getD j 0) : xs = ys := by
  apply List.ext_getElem hl
  intro i h1 h2
  have e := h i h1
  simpa [List.getD_eq_getElem?_getD, h1, h2] using e
set_option maxHeartbeats 1000000 in
theorem uequal_any (A B : Option Addr) (ca cb : Nat) (xs ys : List W64) (w : World) (ha : Ul w A xs) (hb : Ul w B ys) (hla : xs.length ≤ 9223372036854775807) (hlb : ys.length ≤ 9223372036854775807) :
    Calls Try.prog 19 #[.slice A xs.length ca, .slice B ys.length cb] w fun e w' => e = .returned (.bool (decide (xs = ys))) ∧ Below w.heap.size w w' := by
  by_cases hl : xs.length = ys.length
  · have h1 := neq_no hl
    have HL := Lib.hid hl
    have HA := Lib.hid ha
    have HB := Lib.hid hb
    clear hl ha hb
    go_enter Try.func19, Try.ntmps19
    go_wp2
    go_loopw [13] (fun i wr => ∃ k : Nat, k ≤ xs.length ∧ i = .int .i64 k ∧ (∀ j, j < k → xs.getD j 0 = ys.getD j 0) ∧ Below w.heap.size w wr) (fun i _ => xs.length - (intOf i).toNat)
    case atStart => exact ⟨0, Nat.zero_le _, rfl, fun j hj => absurd hj (by omega), Below.refl _ _⟩
    case round =>
      obtain ⟨k, hk, rfl, hE, hW⟩ := hrel
      have HE := Lib.hid hE
      have HW := Lib.hid hW
      clear hE hW h1
      by_cases hlt : k < xs.length
      · have hlt2 : k < ys.length := by have := HL.out; omega
        obtain ⟨b1, o1, rfl, _, hc1⟩ := (HA.out.later HW.out).at (by omega)
        obtain ⟨b2, o2, rfl, _, hc2⟩ := (HB.out.later HW.out).at (by omega)
        have e1 := hc1 k hlt
        have e2 := hc2 k hlt2
        clear hc1 hc2
        have i1 : (k : Int) < (xs.length : Int) := by omega
        have i2 : (k : Int) < (ys.length : Int) := by omega
        by_cases he : xs.getD k 0 = ys.getD k 0
        · have H2 : Hid (∀ j, j < k + 1 → xs.getD j 0 = ys.getD j 0) := fun j hj => by
            by_cases e : j = k
            · rw [e]; exact he
            · exact HE.out j (by omega)
          have hne := neqw_no he
          clear he
          generalize xs.getD k 0 = x at *
          generalize ys.getD k 0 = y at *
          go_wp2
          go_quiet (fail)
          go_wp2
          go_roundw
          case rel => exact ⟨k + 1, by omega, by go_num, H2.out, below_drewN HW.out _⟩
          case measure => simp [intOf]; omega
        · have hne := neqw_yes he
          have H2 : Hid (xs ≠ ys) := fun e => he (by rw [e])
          clear he
          generalize xs.getD k 0 = x at *
          generalize ys.getD k 0 = y at *
          go_wp2
          go_quiet (fail)
          go_wp2
          go_ret
          exact ⟨retB (by simp [H2.out]), below_drewN HW.out _⟩
      · obtain rfl : xs.length = k := by omega
        have H2 : Hid (xs = ys) := ulist_of_getD HL.out HE.out
        go_wp2
        go_ret
        exact ⟨retB (by simp [H2.out]), HW.out⟩
  · have h1 := neq_yes hl
    have H2 : Hid (xs ≠ ys) := fun e => hl (by rw [e])
    clear hl ha hb
    go_enter Try.func19, Try.ntmps19
    go_wp2
    go_ret
    exact ⟨retB (by simp [H2.out]), Below.refl _ _⟩
end Go.Proofs.Ytnihcpaakbhpcaa

/- lotdrawerkeep.alive12. -/
namespace Go.Proofs.Ytnihcpaakbhpcaa
open Go.RowKit Go.Deep

def al12 : List W64 := [5, 5, 9, 1, 4, 9]
theorem al12_a : allF 7 3 al12 = (skL 7 3 al12, 0) := if_pos (by decide)
theorem al12_b : allF 7 9 al12 = (skL 7 9 al12, 0) := if_pos (by decide)
theorem al12_3 : (skL 7 3 al12).length = 3 := by decide +kernel
theorem al12_4 : (skL 7 9 al12).length = 4 := by decide +kernel
theorem al12_t : (skL 7 9 al12).take 3 = skL 7 3 al12 := (ske_less (rk 7) (k := 9) (j := 3) (by decide) al12).symm
theorem mix_0 : mix 0 = 0 := by decide
theorem mix_1 : mix 1 = 6238072747940578789#64 := by decide

set_option maxRecDepth 100000 in
set_option maxHeartbeats 2000000 in
theorem alive12_any (w : World) : Calls Try.prog 22 #[] w fun e w' => e = .returned (.bool true) ∧ Below w.heap.size w w' := by
  have h1 : Below w.heap.size w (w.alloc (.cells #[.int .u64 5, .int .u64 5, .int .u64 9, .int .u64 1, .int .u64 4, .int .u64 9] 22)) := (Below.refl _ _).alloc (Nat.le_refl _) _
  have HC : ∀ (w1 : World) (r : Int), Calls Try.prog 16 #[.int .u64 7, .int .i64 r, .slice (some ⟨w1.heap.size, 0, none⟩) 6 6] (w1.alloc (.cells #[.int .u64 5, .int .u64 5, .int .u64 9, .int .u64 1, .int .u64 4, .int .u64 9] 22)) (UOPost (w1.alloc (.cells #[.int .u64 5, .int .u64 5, .int .u64 9, .int .u64 1, .int .u64 4, .int .u64 9] 22)) (allF 7 r al12)) :=
    fun w1 r => all_any 7 r (some ⟨w1.heap.size, 0, none⟩) 6 al12 _ (up_lit w1 al12 (by decide)) (by decide)
  have C1 := HC w 3
  rw [al12_a] at C1
  have C1 := Lib.hid C1
  have HB1 := Lib.hid h1
  have HC2 : Hid (∀ w1 : World, Calls Try.prog 16 #[.int .u64 7, .int .i64 9, .slice (some ⟨w1.heap.size, 0, none⟩) 6 6] (w1.alloc (.cells #[.int .u64 5, .int .u64 5, .int .u64 9, .int .u64 1, .int .u64 4, .int .u64 9] 22)) (UOPost (w1.alloc (.cells #[.int .u64 5, .int .u64 5, .int .u64 9, .int .u64 1, .int .u64 4, .int .u64 9] 22)) (skL 7 9 al12, 0))) := fun w1 => by
    have := HC w1 9
    rwa [al12_b] at this
  clear HC
  have M0 : Hid (∀ w : World, Calls Try.prog 10 #[.int .u64 0] w fun e w' => e = .returned (.int .u64 0) ∧ w' = w) := fun w => by
    have := mix_any 0 w
    rw [mix_0] at this
    exact this
  have M1 : Hid (∀ w : World, Calls Try.prog 10 #[.int .u64 1] w fun e w' => e = .returned (.int .u64 6238072747940578789) ∧ w' = w) := fun w => by
    have := mix_any 1 w
    rw [mix_1] at this
    exact this
  have h3 := al12_3
  have h4 := al12_4
  have ht := Lib.hid al12_t
  clear h1
  generalize skL 7 3 al12 = l3 at *
  generalize skL 7 9 al12 = l4 at *
  go_enter Try.func22, Try.ntmps22
  go_wp2_with fail
  refine C1.out.mono ?_
  rintro e w1 ⟨v, rfl, hO, hb⟩
  obtain ⟨R, cr, rfl, hU⟩ := hO.up
  dsimp only at hU ⊢
  rw [h3]
  have HB : Hid (Below w.heap.size w w1) := HB1.out.trans (hb.mono HB1.out.size)
  have HU := Lib.hid hU
  clear hO hU hb C1 HB1
  go_wp2_with fail
  refine (HC2.out w1).mono ?_
  rintro e w2 ⟨v, rfl, hO, hb⟩
  obtain ⟨R2, cr2, rfl, hU2⟩ := hO.up
  dsimp only at hU2 ⊢
  rw [h4]
  have hb2 : Below w1.heap.size w1 w2 := ((Below.refl _ w1).alloc (Nat.le_refl _) _).trans (hb.mono (by simp))
  have HB2 : Hid (Below w.heap.size w w2) := HB.out.trans (hb2.mono HB.out.size)
  have HU3 := Lib.hid (HU.out.later hb2)
  have HT3 := Lib.hid (hU2.ul.take 3)
  have hc3 := HU3.out.cap
  have hc4 := hU2.cap
  have hl4 := hU2.le
  have C := Lib.hid (uequal_any R R2 cr cr2 l3 (l4.take 3) w2 HU3.out.ul HT3.out (by omega) (by rw [List.length_take]; omega))
  rw [ht.out, h3] at C
  simp only [decide_true] at C
  clear hO hU2 hb hb2 HB HU HC2
  go_wp2_with fail
  refine C.out.mono ?_
  rintro e w3 ⟨rfl, hb⟩
  have HB3 := Lib.hid (HB2.out.trans (hb.mono HB2.out.size))
  clear hb C HB2 HU3 HT3
  go_wp2_with fail
  refine (M0.out _).mono ?_
  rintro e w4 ⟨rfl, rfl⟩
  go_wp2_with fail
  refine (M1.out _).mono ?_
  rintro e w4 ⟨rfl, rfl⟩
  go_wp2
  go_ret
  exact ⟨rfl, HB3.out⟩
end Go.Proofs.Ytnihcpaakbhpcaa

/- lotdrawerkeep.BottomLess: the walk. -/
namespace Go.Proofs.Ytnihcpaakbhpcaa
open Go.RowKit Go.Deep

theorem allF_ok {s : W64} {r : Int} {l : List W64} (h : 1 ≤ r ∧ r ≤ 400) : allF s r l = (skL s r l, 0) := if_pos h
theorem allF_bad {s : W64} {r : Int} {l : List W64} (h : ¬ (1 ≤ r ∧ r ≤ 400)) : allF s r l = ([], 2) := if_neg h
theorem skL_len (s : W64) (r : Int) (l : List W64) (h : 0 ≤ r) : ((skL s r l).length : Int) ≤ r := by
  have := ske_len (rk s) r.toNat l
  unfold skL
  omega
theorem allF_cases (s : W64) (r m : Int) (l : List W64) : (allF s r l).2 = 2 ∨ ((allF s r l).2 = 0 ∧ (allF s m l).2 = 2) ∨ ((allF s r l).2 = 0 ∧ (allF s m l).2 = 0 ∧ r < m) ∨
    ((allF s r l).2 = 0 ∧ (allF s m l).2 = 0 ∧ m ≤ r ∧ ((allF s m l).1.length : Int) = min m ((allF s r l).1.length : Int) ∧ (allF s r l).1.take (allF s m l).1.length = (allF s m l).1) := by
  by_cases h1 : 1 ≤ r ∧ r ≤ 400
  · by_cases h2 : 1 ≤ m ∧ m ≤ 400
    · rw [allF_ok h1, allF_ok h2]
      rcases Int.lt_or_le r m with h3 | h3
      · exact .inr (.inr (.inl ⟨rfl, rfl, h3⟩))
      · have e : skL s m l = (skL s r l).take m.toNat := ske_less (rk s) (by omega) l
        refine .inr (.inr (.inr ⟨rfl, rfl, h3, ?_, ?_⟩))
        · show ((skL s m l).length : Int) = min m ((skL s r l).length : Int)
          rw [e, List.length_take]; omega
        · show (skL s r l).take (skL s m l).length = skL s m l
          rw [e, List.length_take]
          rcases Nat.le_total m.toNat (skL s r l).length with h | h
          · rw [Nat.min_eq_left h]
          · rw [Nat.min_eq_right h, List.take_of_length_le h, List.take_of_length_le (Nat.le_refl _)]
    · rw [allF_ok h1, allF_bad h2]; exact .inr (.inl ⟨rfl, rfl⟩)
  · rw [allF_bad h1]; exact .inl rfl

set_option maxRecDepth 100000 in
set_option maxHeartbeats 2000000 in
theorem bottomLess_walk (s : W64) (r m : Int) (A : Option Addr) (ca : Nat) (l : List W64) (w : World) (hl : UP w A ca l) (hs : l.length ≤ 17592186044416) :
    Calls Try.prog 8 #[.int .u64 (s.toNat : Int), .int .i64 r, .int .i64 m, .slice A l.length ca] w fun e w' => e = .returned (.bool true) ∧ Below w.heap.size w w' := by
  have CA := Lib.hid (alive12_any w)
  have C1 : Hid (∀ w1, Below w.heap.size w w1 → Calls Try.prog 16 #[.int .u64 (s.toNat : Int), .int .i64 r, .slice A l.length ca] w1 (UOPost w1 (allF s r l))) := fun w1 h => all_any s r A ca l w1 (hl.later h) hs
  have C2 : Hid (∀ w1, Below w.heap.size w w1 → Calls Try.prog 16 #[.int .u64 (s.toNat : Int), .int .i64 m, .slice A l.length ca] w1 (UOPost w1 (allF s m l))) := fun w1 h => all_any s m A ca l w1 (hl.later h) hs
  have hc := allF_cases s r m l
  generalize allF s r l = p1 at *
  generalize allF s m l = p2 at *
  obtain ⟨a, e1⟩ := p1
  obtain ⟨b, e2⟩ := p2
  dsimp only at hc
  obtain ⟨n, hn⟩ : ∃ n, l.length = n := ⟨_, rfl⟩
  rw [hn] at C1 C2 ⊢
  clear hl hs hn
  rcases hc with rfl | ⟨rfl, rfl⟩ | ⟨rfl, rfl, hrm⟩ | ⟨rfl, rfl, hrm, hlen, htk⟩
  all_goals
    go_enter Try.func8, Try.ntmps8
    go_wp2_with fail
    refine CA.out.mono ?_
    rintro e w1 ⟨rfl, hb⟩
    have HB := Lib.hid hb
    clear hb CA
    go_wp2_with fail
    refine (C1.out _ HB.out).mono ?_
    rintro e w2 ⟨v, rfl, hO, hb⟩
    obtain ⟨R, cr, rfl, hU⟩ := hO.up
    dsimp only at hU ⊢
    have HB2 := Lib.hid (HB.out.trans (hb.mono HB.out.size))
    have HU := Lib.hid hU
    clear hb hO hU
    go_wp2_with fail
    refine (C2.out _ HB2.out).mono ?_
    rintro e w3 ⟨v, rfl, hO, hb⟩
    obtain ⟨R2, cr2, rfl, hU⟩ := hO.up
    dsimp only at hU ⊢
    have HB3 := Lib.hid (HB2.out.trans (hb.mono HB2.out.size))
    have HU1 := Lib.hid (HU.out.later hb)
    have HU2 := Lib.hid hU
    clear hb hO hU HB2 HU C1 C2
  · go_wp2
    go_ret
    exact ⟨rfl, HB3.out⟩
  · go_wp2
    go_ret
    exact ⟨rfl, HB3.out⟩
  · have d1 : decide (r < m) = true := decide_eq_true hrm
    go_wp2
    go_ret
    exact ⟨rfl, HB3.out⟩
  · have HTK := Lib.hid htk
    have HLE : Hid ((b.length : Int) = min m (a.length : Int)) := hlen
    obtain ⟨k, hk⟩ : ∃ k : Nat, min m (a.length : Int) = k := ⟨b.length, by omega⟩
    have hbk : b.length = k := by omega
    have hka : k ≤ a.length := by omega
    clear htk hlen
    have d1 : decide (r < m) = false := decide_eq_false (by omega)
    have hc1 := HU1.out.cap
    have hl1 := HU1.out.le
    have hc2 := HU2.out.cap
    have hl2 := HU2.out.le
    have C := Lib.hid (uequal_any R R2 cr cr2 (a.take b.length) b w3 (HU1.out.ul.take _) HU2.out.ul (by rw [List.length_take]; omega) (by omega))
    rw [HTK.out, hbk] at C
    simp only [decide_true] at C
    rw [hbk]
    clear HLE HTK HU1 HU2 hrm
    go_wp2_with fail
    refine C.out.mono ?_
    rintro e w4 ⟨rfl, hb⟩
    have HB4 := Lib.hid (HB3.out.trans (hb.mono HB3.out.size))
    clear hb C
    go_wp2
    go_ret
    exact ⟨rfl, HB4.out⟩
end Go.Proofs.Ytnihcpaakbhpcaa
