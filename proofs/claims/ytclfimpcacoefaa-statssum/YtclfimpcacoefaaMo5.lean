/- stats.Both. -/
import Derived.Test.YtclfimpcacoefaaMo2
import Derived.Deep.QuietTactic
import Derived.BigQuiet
import Derived.WalkSmall
namespace Go.Proofs.Ytclfimpcacoefaa
open Go.RowKit Go.Deep

/-- What Both answers. -/
def bothT (x y : List Int) : Value := if okl x ∧ okl y then (if x.length = y.length then .tuple #[.int .i64 (cov x y), .int .i64 0] else .tuple #[.int .i64 0, .int .i64 1]) else .tuple #[.int .i64 0, .int .i64 2]
theorem bothT_no {x y : List Int} (h : ¬ (okl x ∧ okl y)) : bothT x y = .tuple #[.int .i64 0, .int .i64 2] := if_neg h
theorem bothT_form {x y : List Int} (h : okl x) (h' : okl y) (h0 : x.length ≠ y.length) : bothT x y = .tuple #[.int .i64 0, .int .i64 1] := by unfold bothT; rw [if_pos ⟨h, h'⟩, if_neg h0]
theorem bothT_ok {x y : List Int} (h : okl x) (h' : okl y) (h0 : x.length = y.length) : bothT x y = .tuple #[.int .i64 (cov x y), .int .i64 0] := by unfold bothT; rw [if_pos ⟨h, h'⟩, if_pos h0]
theorem take_snoc {l : List Int} {k : Nat} (h : k < l.length) : l.take (k + 1) = l.take k ++ [l.getD k 0] := by
  rw [List.take_succ_eq_append_getElem h]
  simp [List.getD_eq_getElem?_getD, h]
theorem sxy_succ {x y : List Int} {k : Nat} (hl : x.length = y.length) (h : k < x.length) : sxy (x.take (k + 1)) (y.take (k + 1)) = sxy (x.take k) (y.take k) + x.getD k 0 * y.getD k 0 := by
  rw [take_snoc h, take_snoc (l := y) (by omega), sxy_app _ _ _ _ (by rw [List.length_take, List.length_take]; omega)]
  simp [sxy]
theorem mul_bd2 {a b : Int} (h1 : -1048576 ≤ a ∧ a ≤ 1048576) (h2 : -1048576 ≤ b ∧ b ≤ 1048576) : -1099511627776 ≤ a * b ∧ a * b ≤ 1099511627776 := by
  have := abs_mul_bd (A := 1048576) (B := 1048576) h1.1 h1.2 h2.1 h2.2
  omega
theorem sxy_bd : ∀ {x y : List Int}, sin x → sin y → -((x.length : Int) * 1099511627776) ≤ sxy x y ∧ sxy x y ≤ (x.length : Int) * 1099511627776
  | [], y, _, _ => by simp [sxy]
  | a :: x, [], _, _ => by simp only [sxy]; constructor <;> (simp only [List.length_cons]; omega)
  | a :: x, b :: y, h, h' => by
    have ih := sxy_bd (x := x) (y := y) (fun z hz => h z (List.mem_cons_of_mem _ hz)) (fun z hz => h' z (List.mem_cons_of_mem _ hz))
    have hx := mul_bd2 (h a (List.mem_cons_self ..)) (h' b (List.mem_cons_self ..))
    simp only [sxy, List.length_cons, Int.natCast_add, Int.natCast_one]
    omega
theorem sin_take {l : List Int} (h : sin l) (k : Nat) : sin (l.take k) := fun x hx => h x (List.mem_of_mem_take hx)
theorem okl_bd {l : List Int} (h : okl l) : (-419430400 ≤ ssum l ∧ ssum l ≤ 419430400) ∧ (0 ≤ ssq l ∧ ssq l ≤ 439804651110400) := by
  have h1 := ssum_bd h.2
  have h2 := ssq_bd h.2
  have h3 := h.1
  omega
theorem nmul_bd {n : Nat} {a B : Int} (hn : n ≤ 400) (h1 : -B ≤ a) (h2 : a ≤ B) : -(400 * B) ≤ (n : Int) * a ∧ (n : Int) * a ≤ 400 * B :=
  abs_mul_bd (A := 400) (by omega) (by omega) h1 h2

set_option maxRecDepth 100000 in
set_option maxHeartbeats 1500000 in
theorem both_any (A B : Option Addr) (ca cb : Nat) (x y : List Int) (w : World) (hx : IP w A ca x) (hy : IP w B cb y) :
    Calls Try.prog 17 #[.slice A x.length ca, .slice B y.length cb] w fun e w' => e = .returned (bothT x y) ∧ Below w.heap.size w w' := by
  have hle := hx.le
  have hcap := hx.cap
  have hle2 := hy.le
  have hcap2 := hy.cap
  have CX := Lib.hid (of_any A ca x w hx)
  have HX := Lib.hid hx
  have HY := Lib.hid hy
  clear hx hy
  by_cases h : okl x
  · rw [ofT_ok h] at CX
    by_cases h' : okl y
    · have bx := okl_bd h
      have by' := okl_bd h'
      by_cases h0 : x.length = y.length
      · have R := Lib.hid (bothT_ok h h' h0)
        have H0 := Lib.hid h0
        have OX := Lib.hid h
        have OY := Lib.hid h'
        have t0 : ((x.length : Int) != (y.length : Int)) = false := neq_no h0
        have hx4 := h.1
        have hy4 := h'.1
        clear h h' h0
        go_enter Try.func17, Try.ntmps17
        go_wp2_with fail
        refine CX.out.mono ?_
        rintro e w1 ⟨rfl, h1⟩
        obtain ⟨w2, hw2⟩ : ∃ w2, w2 = w1.alloc (.cells #[.int .i64 (x.length : Int), .int .i64 (ssum x), .int .i64 (ssq x)] 24) := ⟨_, rfl⟩
        have hM1 : Hid (MB w2 w1.heap.size x.length (ssum x) (ssq x)) := by rw [hw2]; exact mb_new _ _ _ _
        have HB2 : Hid (Below w.heap.size w w2) := by rw [hw2]; exact h1.alloc h1.size _
        have CY := Lib.hid (of_any B cb y w2 (HY.out.later HB2.out))
        rw [ofT_ok OY.out] at CY
        have hs1 : w2.heap.size = w1.heap.size + 1 := by rw [hw2]; simp
        have hs0 := h1.size
        subst hw2
        clear h1 CX
        go_wp2_with fail
        refine CY.out.mono ?_
        rintro e w3 ⟨rfl, h3⟩
        have hs3 := h3.size
        obtain ⟨w4, hw4⟩ : ∃ w4, w4 = w3.alloc (.cells #[.int .i64 (y.length : Int), .int .i64 (ssum y), .int .i64 (ssq y)] 24) := ⟨_, rfl⟩
        have hb4 : Below w3.heap.size w3 w4 := by rw [hw4]; exact (Below.refl _ _).alloc (Nat.le_refl _) _
        have HM1 : Hid (MB w4 w1.heap.size x.length (ssum x) (ssq x)) := (hM1.out.below h3 (by omega)).below hb4 (by omega)
        have HM2 : Hid (MB w4 w3.heap.size y.length (ssum y) (ssq y)) := by rw [hw4]; exact mb_new _ _ _ _
        have HB4 : Hid (Below w.heap.size w w4) := HB2.out.trans ((h3.mono (by omega)).trans (hb4.mono (by omega)))
        subst hw4
        clear h3 hb4 CY HB2 hM1
        go_wp2
        go_loopw [9, 34] (fun i b wr => ∃ k : Nat, k ≤ x.length ∧ i = .int .i64 (sxy (x.take k) (y.take k)) ∧ b = .int .i64 k ∧ MB wr w1.heap.size x.length (ssum x) (ssq x) ∧ MB wr w3.heap.size y.length (ssum y) (ssq y) ∧ Below w.heap.size w wr) (fun _ i _ => x.length - (intOf i).toNat)
        case atStart => exact ⟨0, by omega, by simp [sxy], rfl, HM1.out, HM2.out, HB4.out⟩
        case round =>
          clear HM1 HM2 HB4
          obtain ⟨k, hk, rfl, rfl, hM1, hM2, hB⟩ := hrel
          have HM1 := Lib.hid hM1
          have HM2 := Lib.hid hM2
          have HB := Lib.hid hB
          have c1 := hM1.c1
          have c2 := hM2.c1
          clear hM1 hM2 hB
          by_cases hlt : k < x.length
          · have hlt2 : k < y.length := by have := H0.out; omega
            obtain ⟨b1, o1, rfl, _, hcx⟩ := (HX.out.later HB.out).il.at (by omega)
            obtain ⟨b2, o2, rfl, _, hcy⟩ := (HY.out.later HB.out).il.at (by omega)
            have d1 := hcx k hlt
            have d2 := hcy k hlt2
            have i1 : (k : Int) < (x.length : Int) := by omega
            have i2 : (k : Int) < (y.length : Int) := by omega
            have HS := Lib.hid (sxy_succ H0.out hlt)
            have ba := sin_at OX.out.2 hlt
            have bb := sin_at OY.out.2 hlt2
            have bm := mul_bd2 ba bb
            have bs := sxy_bd (sin_take OX.out.2 k) (sin_take OY.out.2 k)
            rw [List.length_take] at bs
            have bs2 : -439804651110400 ≤ sxy (x.take k) (y.take k) ∧ sxy (x.take k) (y.take k) ≤ 439804651110400 := by omega
            clear hcx hcy bs
            generalize sxy (x.take k) (y.take k) = P at *
            generalize x.getD k 0 = a at *
            generalize y.getD k 0 = b at *
            have e1 : IntKind.i64.wrap (a * b) = a * b := IntWalk.i64_in _ (by omega)
            have e2 : IntKind.i64.wrap (P + a * b) = P + a * b := IntWalk.i64_in _ (by omega)
            go_wp2
            go_quiet (fail)
            go_wp2
            go_roundw
            case rel => exact ⟨k + 1, by omega, by rw [HS.out], by go_num, HM1.out, HM2.out, below_drewN HB.out _⟩
            case measure => simp [intOf]; omega
          · obtain rfl : k = x.length := by omega
            have e0 : sxy (x.take x.length) (y.take x.length) = sxy x y := by rw [List.take_length, H0.out, List.take_length]
            have bs := sxy_bd OX.out.2 OY.out.2
            rw [e0]
            have bn := nmul_bd (n := x.length) (a := sxy x y) (B := 439804651110400) hx4 (by omega) (by omega)
            have bp := abs_mul_bd (a := ssum x) (b := ssum y) (A := 419430400) (B := 419430400) (by omega) (by omega) (by omega) (by omega)
            have RC : Hid (cov x y = (x.length : Int) * sxy x y - ssum x * ssum y) := rfl
            rw [RC.out] at R
            generalize sxy x y = P at *
            generalize ssum x = S at *
            generalize ssum y = S' at *
            have e1 : IntKind.i64.wrap ((x.length : Int) * P) = (x.length : Int) * P := IntWalk.i64_in _ (by omega)
            have e2 : IntKind.i64.wrap (S * S') = S * S' := IntWalk.i64_in _ (by omega)
            have e3 : IntKind.i64.wrap ((x.length : Int) * P - S * S') = (x.length : Int) * P - S * S' := IntWalk.i64_in _ (by omega)
            go_wp2
            go_ret2
            exact ⟨by rw [R.out]; rfl, HB.out⟩
      · have R := Lib.hid (bothT_form h h' h0)
        have OY := Lib.hid h'
        have t0 : ((x.length : Int) != (y.length : Int)) = true := neq_yes h0
        have hx4 := h.1
        have hy4 := h'.1
        clear h h' h0
        go_enter Try.func17, Try.ntmps17
        go_wp2_with fail
        refine CX.out.mono ?_
        rintro e w1 ⟨rfl, h1⟩
        obtain ⟨w2, hw2⟩ : ∃ w2, w2 = w1.alloc (.cells #[.int .i64 (x.length : Int), .int .i64 (ssum x), .int .i64 (ssq x)] 24) := ⟨_, rfl⟩
        have HB2 : Hid (Below w.heap.size w w2) := by rw [hw2]; exact h1.alloc h1.size _
        have CY := Lib.hid (of_any B cb y w2 (HY.out.later HB2.out))
        rw [ofT_ok OY.out] at CY
        subst hw2
        clear h1 CX
        go_wp2_with fail
        refine CY.out.mono ?_
        rintro e w3 ⟨rfl, h3⟩
        have HB4 : Hid (Below w.heap.size w (w3.alloc (.cells #[.int .i64 (y.length : Int), .int .i64 (ssum y), .int .i64 (ssq y)] 24))) := by
          have hx := HB2.out.trans (h3.mono HB2.out.size)
          exact hx.alloc hx.size _
        clear h3 CY HB2
        go_wp2
        go_ret2
        exact ⟨by rw [R.out]; rfl, HB4.out⟩
    · have R := Lib.hid (bothT_no (x := x) (y := y) (fun z => h' z.2))
      have OY := Lib.hid h'
      clear h h'
      go_enter Try.func17, Try.ntmps17
      go_wp2_with fail
      refine CX.out.mono ?_
      rintro e w1 ⟨rfl, h1⟩
      obtain ⟨w2, hw2⟩ : ∃ w2, w2 = w1.alloc (.cells #[.int .i64 (x.length : Int), .int .i64 (ssum x), .int .i64 (ssq x)] 24) := ⟨_, rfl⟩
      have HB2 : Hid (Below w.heap.size w w2) := by rw [hw2]; exact h1.alloc h1.size _
      have CY := Lib.hid (of_any B cb y w2 (HY.out.later HB2.out))
      rw [ofT_no OY.out] at CY
      subst hw2
      clear h1 CX
      go_wp2_with fail
      refine CY.out.mono ?_
      rintro e w3 ⟨rfl, h3⟩
      have HB4 : Hid (Below w.heap.size w (w3.alloc (.cells #[.int .i64 0, .int .i64 0, .int .i64 0] 24))) := by
        have hx := HB2.out.trans (h3.mono HB2.out.size)
        exact hx.alloc hx.size _
      clear h3 CY HB2
      go_wp2
      go_ret2
      exact ⟨by rw [R.out]; rfl, HB4.out⟩
  · rw [ofT_no h] at CX
    have R := Lib.hid (bothT_no (x := x) (y := y) (fun z => h z.1))
    clear h
    go_enter Try.func17, Try.ntmps17
    go_wp2_with fail
    refine CX.out.mono ?_
    rintro e w1 ⟨rfl, h1⟩
    have HB1 : Hid (Below w.heap.size w (w1.alloc (.cells #[.int .i64 0, .int .i64 0, .int .i64 0] 24))) := h1.alloc h1.size _
    clear h1 CX
    go_wp2
    go_ret2
    exact ⟨by rw [R.out]; rfl, HB1.out⟩
end Go.Proofs.Ytclfimpcacoefaa
