/- StatsMiddle's walk. -/
import Derived.Test.YtclfimpcacoefaaMw8
import Derived.Test.YtclfimpcacoefaaMw3
import Derived.Test.YtclfimpcacoefaaMo6
import Derived.Test.YtclfimpcacoefaaMo8
import Derived.Test.YtclfimpcacoefaaMos
namespace Go.Proofs.Ytclfimpcacoefaa
open Go.RowKit Go.Deep

set_option maxRecDepth 100000 in
set_option maxHeartbeats 3000000 in
theorem statsMiddle_any (A B : Option Addr) (ca cb : Nat) (x y : List Int) (w : World) (hx : IP w A ca x) (hy : IP w B cb y) :
    Calls Try.prog 4 #[.slice A x.length ca, .slice B y.length cb] w fun e w' => e = .returned (.bool true) ∧ Below w.heap.size w w' := by
  have hle := hx.le
  have hcap := hx.cap
  have hle2 := hy.le
  have hcap2 := hy.cap
  have HX := Lib.hid hx
  have HY := Lib.hid hy
  obtain ⟨w0, hw0⟩ : ∃ w0, w0 = w.alloc (.cells #[.slice A x.length ca] 22) := ⟨_, rfl⟩
  have hsz : w0.heap.size = w.heap.size + 1 := by rw [hw0]; simp
  have hB0 : Below w.heap.size w w0 := by rw [hw0]; exact (Below.refl _ _).alloc (Nat.le_refl _) _
  have HG : Hid (∀ wx, Below w0.heap.size w0 wx → wx.cell? ⟨w.heap.size, 0, none⟩ = some (.slice A x.length ca) ∧ w.heap.size < wx.heap.size ∧ Below w.heap.size w wx) := fun wx hb => by
    refine ⟨?_, by have := hb.size; omega, hB0.trans (hb.mono (by omega))⟩
    rw [hb.cell (p := ⟨w.heap.size, 0, none⟩) (by rw [hsz]; exact Nat.lt_succ_self _), hw0]
    have := Bs.cell (T := 22) (w := w.alloc (.cells #[.slice A x.length ca] 22)) (g := w.heap.size) (vs := [.slice A x.length ca]) (heap_alloc_new w _) (j := 0) (by simp)
    simp
  have C1 := Lib.hid (median_any A ca x w0 (hx.later hB0))
  have C2 := Lib.hid (fun wx (h : Below w.heap.size w wx) => both_any A B ca cb x y wx (HX.out.later h) (HY.out.later h))
  obtain ⟨bb, be, hBE⟩ := bothT_ex x y
  have BE := Lib.hid hBE
  rw [hBE] at C2
  have C3 := Lib.hid (fun wx (h : Below w.heap.size w wx) => pwrong_any A ca x wx (HX.out.later h))
  have HSZ := Lib.hid hsz
  subst hw0
  clear hx hy hB0 hBE hsz
  by_cases ox : okl x
  · rw [decide_eq_true ox, Bool.not_true] at C3
    have h400 := ox.1
    by_cases h0 : x.length = 0
    · rw [medT_none ox h0] at C1
      have t0 : ((x.length : Int) == 0) = true := by rw [h0]; rfl
      clear h0
      go_enter Try.func4, Try.ntmps4
      go_wp2_with fail
      refine C1.out.mono ?_
      rintro e w1 ⟨rfl, hb⟩
      have HD1 := Lib.hid hb
      obtain ⟨g1, _, hb1⟩ := HG.out _ hb
      clear hb C1
      go_wp2_with fail
      refine (C2.out _ hb1).mono ?_
      rintro e w2 ⟨rfl, hb⟩
      have HD2 := Lib.hid (HD1.out.trans (hb.mono HD1.out.size))
      obtain ⟨g2, _, hb2⟩ := HG.out _ HD2.out
      clear hb C2 HD1 g1 hb1
      go_wp2_with fail
      refine (C3.out _ hb2).mono ?_
      rintro e wq ⟨rfl, hb⟩
      have HDq := Lib.hid (HD2.out.trans (hb.mono HD2.out.size))
      obtain ⟨g3, _, hbq⟩ := HG.out _ HDq.out
      have HBq := Lib.hid hbq
      clear hb C3 HD2 g2 hb2 hbq
      have CW := Lib.hid (pwrong_any B cb y wq (HY.out.later HBq.out))
      by_cases oy : okl y
      · rw [decide_eq_true oy, Bool.not_true] at CW
        by_cases h0 : x.length = y.length
        · have HE := Lib.hid (bothT_ok ox oy h0)
          rw [BE.out] at HE
          obtain ⟨hb1, hb2⟩ := shape2 HE.out
          subst hb1 hb2
          have CP := Lib.hid (fun wx (h : Below w.heap.size w wx) => pboth_any A B ca cb x y wx (HX.out.later h) (HY.out.later h) ox oy h0)
          have t9 : ((x.length : Int) != (y.length : Int)) = false := neq_no h0
          clear HE h0
          generalize cov x y = z at *
          go_wp2_with fail
          refine CW.out.mono ?_
          rintro e wr ⟨rfl, hb⟩
          have HDr := Lib.hid (HDq.out.trans (hb.mono HDq.out.size))
          obtain ⟨hc, _, hbr⟩ := HG.out _ HDr.out
          have HBr := Lib.hid hbr
          clear hb CW hbr
          go_wp2_with fail
          refine (CP.out _ HBr.out).mono ?_
          rintro e ws ⟨rfl, hb⟩
          have HBs := Lib.hid (HBr.out.trans (hb.mono HBr.out.size))
          clear hb CP
          go_wp2
          go_ret
          exact ⟨rfl, HBs.out⟩
        · have HE := Lib.hid (bothT_form ox oy h0)
          rw [BE.out] at HE
          obtain ⟨hb1, hb2⟩ := shape2 HE.out
          subst hb1 hb2
          have t9 : ((x.length : Int) != (y.length : Int)) = true := neq_yes h0
          clear HE h0
          go_wp2_with fail
          refine CW.out.mono ?_
          rintro e wr ⟨rfl, hb⟩
          have HDr := Lib.hid (HDq.out.trans (hb.mono HDq.out.size))
          obtain ⟨hc, _, hbr⟩ := HG.out _ HDr.out
          have HBr := Lib.hid hbr
          clear hb CW hbr
          go_wp2
          go_ret
          exact ⟨rfl, HBr.out⟩
      · rw [decide_eq_false oy, Bool.not_false] at CW
        have HE := Lib.hid (bothT_no (x := x) (y := y) (fun z => oy z.2))
        rw [BE.out] at HE
        obtain ⟨hb1, hb2⟩ := shape2 HE.out
        subst hb1 hb2
        clear HE
        go_wp2_with fail
        refine CW.out.mono ?_
        rintro e wr ⟨rfl, hb⟩
        have HBr := Lib.hid (HBq.out.trans (hb.mono HBq.out.size))
        clear hb CW
        go_wp2
        go_ret
        exact ⟨rfl, HBr.out⟩
    · rw [medT_ok ox (by omega)] at C1
      have t0 : ((x.length : Int) == 0) = false := eqz_no h0
      have il := imsort_len x
      obtain ⟨n, hn⟩ : ∃ n, n = x.length := ⟨_, rfl⟩
      obtain ⟨m, hm⟩ : ∃ m, m = n - 1 := ⟨_, rfl⟩
      have q1 : IntKind.i64.wrap ((x.length : Int) - 1) = (m : Int) := by rw [IntWalk.i64_in _ (by omega)]; omega
      have q2 : IntKind.i64.wrap ((m : Int).tdiv 2) = ((n - 1) / 2 : Nat) := by
        rw [hm, show ((n - 1 : Nat) : Int).tdiv 2 = (((n - 1) / 2 : Nat) : Int) from rfl, IntWalk.i64_in _ (by omega)]
      have q3 : IntKind.i64.wrap ((x.length : Int).tdiv 2) = (n / 2 : Nat) := by
        rw [← hn, show (n : Int).tdiv 2 = ((n / 2 : Nat) : Int) from rfl, IntWalk.i64_in _ (by omega)]
      have q4 : IntKind.i64.wrap ((m : Int) / 2) = ((n - 1) / 2 : Nat) := by
        rw [hm, IntWalk.i64_in _ (by omega)]; rfl
      have q5 : IntKind.i64.wrap ((x.length : Int) / 2) = (n / 2 : Nat) := by
        rw [← hn, IntWalk.i64_in _ (by omega)]; rfl
      have C4 := Lib.hid (fun wx (h : Below w.heap.size w wx) hc => at1_any w.heap.size A ca x ((n - 1) / 2) wx (HX.out.later h) ox (by omega) hc)
      have C5 := Lib.hid (fun wx (h : Below w.heap.size w wx) hc => at1_any w.heap.size A ca x (n / 2) wx (HX.out.later h) ox (by omega) hc)
      have RS : Hid (smed (imsort x) = (imsort x).getD ((n - 1) / 2) 0 + (imsort x).getD (n / 2) 0) := by show _ = _; unfold smed; rw [il, hn]
      have key : ∀ i, -1048576 ≤ (imsort x).getD i 0 ∧ (imsort x).getD i 0 ≤ 1048576 := fun i => by
        by_cases hi : i < (imsort x).length
        · have hm : (imsort x).getD i 0 ∈ imsort x := by
            rw [List.getD_eq_getElem?_getD, List.getElem?_eq_getElem hi]; exact List.getElem_mem _
          exact ox.2 _ ((imsort_perm x).mem_iff.1 hm)
        · rw [List.getD_eq_getElem?_getD, List.getElem?_eq_none (by omega)]; simp
      have k1 := key ((n - 1) / 2)
      have k2 := key (n / 2)
      rw [RS.out] at C1
      clear h0 il hm hn RS key
      generalize (imsort x).getD ((n - 1) / 2) 0 = v1 at *
      generalize (imsort x).getD (n / 2) 0 = v2 at *
      generalize (n - 1) / 2 = j1 at *
      generalize n / 2 = j2 at *
      go_enter Try.func4, Try.ntmps4
      go_wp2_with fail
      refine C1.out.mono ?_
      rintro e w1 ⟨rfl, hb⟩
      have HD1 := Lib.hid hb
      obtain ⟨g1, _, hb1⟩ := HG.out _ hb
      clear hb C1
      go_wp2_with fail
      refine (C2.out _ hb1).mono ?_
      rintro e w2 ⟨rfl, hb⟩
      have HD2 := Lib.hid (HD1.out.trans (hb.mono HD1.out.size))
      obtain ⟨g2, _, hb2⟩ := HG.out _ HD2.out
      clear hb C2 HD1 g1 hb1
      go_wp2_with fail
      refine (C3.out _ hb2).mono ?_
      rintro e w3 ⟨rfl, hb⟩
      have HD3 := Lib.hid (HD2.out.trans (hb.mono HD2.out.size))
      obtain ⟨g3, _, hb3⟩ := HG.out _ HD3.out
      have C4 : Hid (∀ q, _) := fun q => C4.out (w3.drewN q) (below_drewN hb3 q) g3
      have C5 : Hid (∀ q, _) := fun q => C5.out (w3.drewN q) (below_drewN hb3 q) g3
      clear hb C3 HD2 g2 hb2 hb3
      go_wp2_with fail
      go_quiet (first | (with_reducible exact Calls.quiet_of_same (C4.out _)) | (with_reducible exact Calls.quiet_of_same (C5.out _)))
      have hDq := below_drewN HD3.out nq
      obtain ⟨wq, hwq⟩ : ∃ wq, wq = w3.drewN nq := ⟨_, rfl⟩
      rw [← hwq] at hDq ⊢
      have HDq := Lib.hid hDq
      obtain ⟨g3, _, hbq⟩ := HG.out _ hDq
      have HBq := Lib.hid hbq
      clear hDq hwq hbq HD3 C4 C5 q1 q2 q3 q4 q5 k1 k2
      have CW := Lib.hid (pwrong_any B cb y wq (HY.out.later HBq.out))
      by_cases oy : okl y
      · rw [decide_eq_true oy, Bool.not_true] at CW
        by_cases h0 : x.length = y.length
        · have HE := Lib.hid (bothT_ok ox oy h0)
          rw [BE.out] at HE
          obtain ⟨hb1, hb2⟩ := shape2 HE.out
          subst hb1 hb2
          have CP := Lib.hid (fun wx (h : Below w.heap.size w wx) => pboth_any A B ca cb x y wx (HX.out.later h) (HY.out.later h) ox oy h0)
          have t9 : ((x.length : Int) != (y.length : Int)) = false := neq_no h0
          clear HE h0
          generalize cov x y = z at *
          go_wp2_with fail
          refine CW.out.mono ?_
          rintro e wr ⟨rfl, hb⟩
          have HDr := Lib.hid (HDq.out.trans (hb.mono HDq.out.size))
          obtain ⟨hc, _, hbr⟩ := HG.out _ HDr.out
          have HBr := Lib.hid hbr
          clear hb CW hbr
          go_wp2_with fail
          refine (CP.out _ HBr.out).mono ?_
          rintro e ws ⟨rfl, hb⟩
          have HBs := Lib.hid (HBr.out.trans (hb.mono HBr.out.size))
          clear hb CP
          go_wp2
          go_ret
          exact ⟨rfl, HBs.out⟩
        · have HE := Lib.hid (bothT_form ox oy h0)
          rw [BE.out] at HE
          obtain ⟨hb1, hb2⟩ := shape2 HE.out
          subst hb1 hb2
          have t9 : ((x.length : Int) != (y.length : Int)) = true := neq_yes h0
          clear HE h0
          go_wp2_with fail
          refine CW.out.mono ?_
          rintro e wr ⟨rfl, hb⟩
          have HDr := Lib.hid (HDq.out.trans (hb.mono HDq.out.size))
          obtain ⟨hc, _, hbr⟩ := HG.out _ HDr.out
          have HBr := Lib.hid hbr
          clear hb CW hbr
          go_wp2
          go_ret
          exact ⟨rfl, HBr.out⟩
      · rw [decide_eq_false oy, Bool.not_false] at CW
        have HE := Lib.hid (bothT_no (x := x) (y := y) (fun z => oy z.2))
        rw [BE.out] at HE
        obtain ⟨hb1, hb2⟩ := shape2 HE.out
        subst hb1 hb2
        clear HE
        go_wp2_with fail
        refine CW.out.mono ?_
        rintro e wr ⟨rfl, hb⟩
        have HBr := Lib.hid (HBq.out.trans (hb.mono HBq.out.size))
        clear hb CW
        go_wp2
        go_ret
        exact ⟨rfl, HBr.out⟩
  · rw [decide_eq_false ox, Bool.not_false] at C3
    rw [medT_no ox] at C1
    have HE := Lib.hid (bothT_no (x := x) (y := y) (fun z => ox z.1))
    rw [BE.out] at HE
    obtain ⟨hb1, hb2⟩ := shape2 HE.out
    subst hb1 hb2
    clear HE
    go_enter Try.func4, Try.ntmps4
    go_wp2_with fail
    refine C1.out.mono ?_
    rintro e w1 ⟨rfl, hb⟩
    have HD1 := Lib.hid hb
    obtain ⟨g1, _, hb1⟩ := HG.out _ hb
    clear hb C1
    go_wp2_with fail
    refine (C2.out _ hb1).mono ?_
    rintro e w2 ⟨rfl, hb⟩
    have HD2 := Lib.hid (HD1.out.trans (hb.mono HD1.out.size))
    obtain ⟨g2, _, hb2⟩ := HG.out _ HD2.out
    clear hb C2 HD1 g1 hb1
    go_wp2_with fail
    refine (C3.out _ hb2).mono ?_
    rintro e w3 ⟨rfl, hb⟩
    have HD3 := Lib.hid (HD2.out.trans (hb.mono HD2.out.size))
    have HB3 := Lib.hid (HG.out _ HD3.out).2.2
    clear hb C3 HD2 g2 hb2
    go_wp2
    go_ret
    exact ⟨rfl, HB3.out⟩
end Go.Proofs.Ytclfimpcacoefaa
