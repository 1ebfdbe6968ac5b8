/- lotdrawerkeep.draws. -/
import Derived.Test.YtjhcbjpbmbjgoaaJg
import Derived.StillTailTactics
namespace Go.Proofs.Ytjhcbjpbmbjgoaa
open Go.RowKit Go.Deep Go.Maps

theorem pow_smallJ {k : Nat} (hk : k < 6) : ∃ q : Nat, 2 ^ k = q ∧ 1 ≤ q ∧ q < 64 ∧ (2 : Int) ^ k = (q : Int) := by
  refine ⟨2 ^ k, rfl, Nat.one_le_two_pow, Nat.pow_lt_pow_right (a := 2) (m := k) (n := 6) (by omega) hk, by simp⟩
theorem take_snocJ {l : List Nat} {k : Nat} (h : k < l.length) : l.take (k + 1) = l.take k ++ [l.getD k 0] := by
  rw [List.take_succ_eq_append_getElem h]
  simp [List.getD_eq_getElem?_getD, h]
theorem dvS {w wr : World} {M : Nat} {R n m : Int} {A B : Option Addr} {ca cb : Nat} {x y : List Nat} {U : List (Nat × Nat)} (h : DV w M R n m A B ca cb x y U wr) : (wr.cell? ⟨w.heap.size, 0, none⟩ = some (.int .i64 R) ∧ wr.cell? ⟨w.heap.size, 1, none⟩ = some (.int .i64 n) ∧ wr.cell? ⟨w.heap.size, 2, none⟩ = some (.slice A x.length ca)) ∧ wr.cell? ⟨w.heap.size + 1, 0, none⟩ = some (.int .i64 R) ∧ wr.cell? ⟨w.heap.size + 1, 1, none⟩ = some (.int .i64 m) ∧ wr.cell? ⟨w.heap.size + 1, 2, none⟩ = some (.slice B y.length cb) :=
  ⟨⟨h.a.at.1, h.a.at.2.1, h.a.at.2.2.1⟩, h.b.at.1, h.b.at.2.1, h.b.at.2.2.1⟩
set_option maxRecDepth 100000 in
set_option maxHeartbeats 4000000 in
theorem draws_any {R n m : Nat} (hv : VJ R n m) (x y : List Nat) (hx : x ∈ xsJ R n) (hy : y ∈ ysJ R n m) (hxl : x.length = min R n) (hyl : y.length = min R m) (A B : Option Addr) (ca cb M : Nat) (S : List (Nat × Nat)) (w : World)
    (hA : IP w A ca (inN x)) (hB : IP w B cb (inN y)) (hM : WM w M S) (hS : WOK S 290000) :
    Calls Try.prog 11 #[pv R n (.slice A x.length ca), pv R m (.slice B y.length cb), .map (some M)] w fun e w' => e = .returned (.bool true) ∧ WM w' M (uX R n m x y (waysJ (n + m) R) S) ∧ Kp (fun k => k = M) w w' := by
  have hD0 := DV.new (R := R) (n := n) (m := m) hM hA hB
  have r1 := hv.r1
  have r2 := hv.r2
  have nm := hv.nm
  have le := hv.le
  have hwl := ways_le hv
  have HV := Lib.hid hv
  have HXY := Lib.hid (And.intro hx hy)
  have HXL := Lib.hid hxl
  have HYL := Lib.hid hyl
  have HS := Lib.hid hS
  have hx5 : x.length ≤ 5 := by omega
  have hy5 : y.length ≤ 5 := by omega
  clear hM hA hB hx hy hS hv hxl hyl
  obtain ⟨L, hL⟩ : ∃ L : Nat, n + m = L := ⟨_, rfl⟩
  have hL2 : (n : Int) + (m : Int) = (L : Int) := by omega
  have HL := Lib.hid hL
  have hmn : min (R : Int) (L : Int) = (R : Int) := by omega
  rw [hL] at hwl
  have hw5 := fun k => ways_lt (show L ≤ 5 by omega) k
  have HW5 := Lib.hid hw5
  obtain ⟨a0, a1, a2, _⟩ := hD0.a.at
  obtain ⟨b0, b1, b2, _⟩ := hD0.b.at
  have HD0 := Lib.hid hD0
  have L5 : L ≤ 5 := by omega
  have RL : R ≤ L := by omega
  have RLi : ¬ (L : Int) < (R : Int) := by omega
  clear hD0 hw5 hL nm le
  unfold pv
  go_enter Try.func11, Try.ntmps11
  go_wp2_with fail
  clear a0 a1 a2 b0 b1 b2
  generalize ((w.alloc (.cells #[.int .i64 R, .int .i64 n, .slice A x.length ca] 28)).alloc (.cells #[.int .i64 R, .int .i64 m, .slice B y.length cb] 28)) = w0 at *
  go_loopw [9, 10, 37] (fun wv bv iv wr => ∃ k : Nat, k ≤ R ∧ wv = .int .i64 (waysJ L k : Nat) ∧ OI wr w0.heap.size bv (inN (basJ L k)) ∧ iv = .int .i64 k ∧ Below w0.heap.size w0 wr) (fun _ _ iv _ => R - (intOf iv).toNat)
  case atStart => exact ⟨0, by omega, rfl, OI.nil _ _, rfl, Below.refl _ _⟩
  case round =>
    obtain ⟨k, hk, rfl, hO, rfl, hBl⟩ := hrel
    obtain ⟨V, cv, rfl⟩ := hO.shape
    have HO := Lib.hid hO
    have HBl := Lib.hid hBl
    have hwk := HW5.out k
    have hbl := basJ_len L k
    have hsz := hBl.size
    clear hO hBl
    by_cases hlt : k < R
    · have hk1 : k ≤ 1 := by omega
      have hwk2 : waysJ L k ≤ 5 := by
        have : (5 : Nat) ^ k ≤ 5 ^ 1 := Nat.pow_le_pow_right (by omega) hk1
        omega
      have hE : waysJ L (k + 1) = waysJ L k * (L - k) := rfl
      obtain ⟨D, hD⟩ : ∃ D : Nat, L - k = D := ⟨_, rfl⟩
      have hDi : (L : Int) - (k : Int) = (D : Int) := by omega
      have hD5 : D ≤ 5 := by omega
      have hEB : basJ L (k + 1) = basJ L k ++ [D] := by rw [← hD]; rfl
      rw [hD] at hE
      have HE := Lib.hid hE
      have HEB := Lib.hid hEB
      have hml : (waysJ L k : Int) * (D : Int) = ((waysJ L k * D : Nat) : Int) := by push_cast; rfl
      have hmb : waysJ L k * D ≤ 5 * 5 := Nat.mul_le_mul hwk2 hD5
      generalize waysJ L k * D = wk2 at *
      generalize waysJ L k = wk at *
      have HBN : Hid ((inN (basJ L k)).length < 17592186044416) := by show _ < _; rw [inN_len, hbl]; omega
      clear hE hEB hD hwk hbl
      generalize basJ L k = bl at *
      go_wp2_with (at_builtin; refine wpList_push rfl _ _ rfl w0.heap.size (.slice V (inN bl).length cv) (inN bl) (D : Int) rfl HO.out rfl HBN.out hsz HBl.out ?_)
      intro g cap w2 ho2 hB2 _
      have HO2 : Hid (OI w2 w0.heap.size (.slice (some ⟨g, 0, none⟩) ((inN bl).length + 1) cap) (inN (basJ L (k + 1)))) := by
        show OI _ _ _ _
        rw [HEB.out, inN_append]; exact ho2
      have HB2 := Lib.hid hB2
      clear ho2 hB2 HO HBl
      go_wp2
      go_roundw
      case rel => exact ⟨k + 1, hlt, by rw [HE.out], HO2.out, by go_num, HB2.out⟩
      case measure => simp [intOf]; omega
    · obtain rfl : k = R := by omega
      obtain ⟨_, _, e, hIb⟩ := HO.out.ip
      cases e
      obtain ⟨W, hW⟩ : ∃ W, waysJ L k = W := ⟨_, rfl⟩
      have HW := Lib.hid hW
      rw [hW] at hwl ⊢
      have hD := HD0.out.later HBl.out
      have HDD := Lib.hid hD
      have HIb := Lib.hid hIb
      have hbi : (inN (basJ L k)).length = k := by rw [inN_len, hbl]
      rw [hbi]
      obtain ⟨wo, hwo⟩ : ∃ wo, wo = wr := ⟨_, rfl⟩
      subst hwo
      clear hD hIb HO HBl HD0 hW hwk hlt hk hbl hmn
      go_wp2_with fail
      go_loopw [53] (fun iv wr => ∃ X : Nat, X ≤ W ∧ iv = .int .i64 X ∧ DV w M k n m A B ca cb x y (uX k n m x y X S) wr ∧ IP wr V cv (inN (basJ L k))) (fun iv _ => W - (intOf iv).toNat)
      case atStart => exact ⟨0, by omega, rfl, HDD.out, HIb.out⟩
      case round =>
        clear HDD HIb
        obtain ⟨X, hX, rfl, hD, hIb⟩ := hrel
        have HD := Lib.hid hD
        have HIb := Lib.hid hIb
        by_cases hlt : X < W
        · have hXW : X < waysJ (n + m) k := by rw [HL.out, HW.out]; exact hlt
          have HXW := Lib.hid hXW
          have hdl := dsJ_len k n m X
          have CM := Lib.hid (mixed_any X V cv (basJ L k) wr hIb (fun b hb => by have := basJ_mem (all := L) (k := k) (by omega) b hb; omega) (by omega) (by rw [basJ_len]; omega))
          rw [basJ_len] at CM
          have hds : mixN X (basJ L k) = dsJ k n m X := by rw [dsJ, HL.out]
          rw [hds] at CM
          clear hD hIb hXW hds
          go_wp2_with fail
          refine CM.out.mono ?_
          rintro e w1 ⟨v1, rfl, hO1, hb1⟩
          obtain ⟨D1, c1, e, hI1⟩ := hO1.ip
          subst e
          have hD1 := HD.out.later hb1
          obtain ⟨a0, a1, a2, _⟩ := hD1.a.at
          obtain ⟨b0, b1, b2, _⟩ := hD1.b.at
          have k1 : Below w1.heap.size w1 (w1.alloc (.cells #[.int .i64 n, .int .i64 m] 3)) := (Below.refl _ _).alloc (Nat.le_refl _) _
          obtain ⟨_, _, a3, _⟩ := (hD1.later k1).a.at
          obtain ⟨_, _, b3, _⟩ := (hD1.later k1).b.at
          have hO2 : OW w1.heap.size (w1.heap.size + 1) w1 (stJ k n m X 0) (.slice none 0 0) ((w1.alloc (.cells #[.int .i64 n, .int .i64 m] 3)).alloc (.cells #[.int .i64 x.length, .int .i64 y.length] 3)) := by
            rw [stJ_zero]
            have hl0 : Bs 3 (w1.alloc (.cells #[.int .i64 n, .int .i64 m] 3)) w1.heap.size [.int .i64 n, .int .i64 m] := heap_alloc_new w1 _
            refine ⟨OI.nil _ _, (Below.heap_alloc _ _ _ (Bs.lt hl0)).trans hl0, ?_, by omega, Nat.le_refl _, k1.alloc (by simp) _⟩
            rw [← HXL.out, ← HYL.out]
            exact heap_alloc2_new w1 _ _
          have HO2 := Lib.hid hO2
          have HD1 := Lib.hid hD1
          have HI1 := Lib.hid hI1
          have HIb1 := Lib.hid (HIb.out.later hb1)
          have hil1 : (inN (dsJ k n m X)).length = k := by rw [inN_len, hdl]
          rw [hil1]
          have hc1 := hI1.cap
          have hle1 := hI1.le
          rw [hil1] at hle1
          clear hO1 hb1 hD1 k1 hI1 hO2 CM HD HIb hil1
          go_wp2_with fail
          clear a0 a1 a2 b0 b1 b2 a3 b3
          obtain ⟨wX, hwX⟩ : ∃ wX, wX = wr := ⟨_, rfl⟩
          subst hwX
          go_loopw [16, 17, 73] (fun ov mv iv wr => ∃ j : Nat, j ≤ k ∧ mv = .int .i64 ((stJ k n m X j).many : Nat) ∧ iv = .int .i64 j ∧ OW w1.heap.size (w1.heap.size + 1) w1 (stJ k n m X j) ov wr) (fun _ _ iv _ => k - (intOf iv).toNat)
          case atStart => exact ⟨0, by omega, rfl, rfl, HO2.out⟩
          case round =>
            clear HO2
            obtain ⟨j, hj, rfl, rfl, hO⟩ := hrel
            obtain ⟨f1, f2, f3, f4, f5, f6, f7⟩ := fitJ HV.out HXW.out hj
            obtain ⟨Z, cz, rfl⟩ := hO.o.shape
            have HOW := Lib.hid hO
            clear hO
            by_cases hltj : j < k
            · obtain ⟨wb0, off0, rfl, _, hcl⟩ := (HI1.out.later HOW.out.bl).il.at (by rw [inN_len, hdl]; omega)
              have hcd := hcl j (by rw [inN_len, hdl]; exact hltj)
              rw [inN_at] at hcd
              obtain ⟨d, hd⟩ : ∃ d, (dsJ k n m X).getD j 0 = d := ⟨_, rfl⟩
              have hown : (inN (stJ k n m X j).own).length = j := by rw [inN_len, st_own hj]
              have hji : (j : Int) < (k : Int) := by omega
              have hok := okJ HV.out HXW.out hltj
              rw [hd] at hcd
              clear hcl
              by_cases hda : (dsJ k n m X).getD j 0 < (stJ k n m X j).na
              · have hdi : (d : Int) < ((stJ k n m X j).na : Int) := by rw [← hd]; omega
                clear hok hd
                have hst := (stJ_step (n := n) (m := m) (X := X) hltj).trans (OS.step_a hda)
                obtain ⟨l2, l3⟩ : 1 ≤ (stJ k n m X j).na ∧ 1 ≤ (stJ k n m X j).ha := (okJ HV.out HXW.out hltj).2 hda
                obtain ⟨q1, q2, q3, q4⟩ := And.intro (Bs.cell HOW.out.l (j := 0) (by simp)) (And.intro (Bs.cell HOW.out.h (j := 0) (by simp)) (And.intro trivial trivial))
                simp only [List.getElem?_cons_zero] at q2
                simp only [List.getElem?_cons_zero] at q1
                have hmm : (((stJ k n m X j).many : Nat) : Int) * (((stJ k n m X j).ha : Nat) : Int) = (((stJ k n m X (j + 1)).many : Nat) : Int) := by rw [hst]; push_cast; rfl
                have hmb := (fitJ HV.out HXW.out (show j + 1 ≤ k from hltj)).2.2.2.2.2.1
                have hnn : (((stJ k n m X j).na : Nat) : Int) - 1 = (((stJ k n m X (j + 1)).na : Nat) : Int) := by rw [hst]; show _ = ((((stJ k n m X j).na - 1 : Nat)) : Int); omega
                have hhn : (((stJ k n m X j).ha : Nat) : Int) - 1 = (((stJ k n m X (j + 1)).ha : Nat) : Int) := by rw [hst]; show _ = ((((stJ k n m X j).ha - 1 : Nat)) : Int); omega
                have e1 : [Value.int .i64 ((stJ k n m X j).na : Nat), .int .i64 ((stJ k n m X j).nb : Nat)].set 0 (.int .i64 ((stJ k n m X (j + 1)).na : Nat)) = [.int .i64 ((stJ k n m X (j + 1)).na : Nat), .int .i64 ((stJ k n m X (j + 1)).nb : Nat)] := by rw [hst]; rfl
                have e2 : [Value.int .i64 ((stJ k n m X j).ha : Nat), .int .i64 ((stJ k n m X j).hb : Nat)].set 0 (.int .i64 ((stJ k n m X (j + 1)).ha : Nat)) = [.int .i64 ((stJ k n m X (j + 1)).ha : Nat), .int .i64 ((stJ k n m X (j + 1)).hb : Nat)] := by rw [hst]; rfl
                have e3 : inN (stJ k n m X (j + 1)).own = inN (stJ k n m X j).own ++ [(((stJ k n m X j).ha : Nat) : Int)] := by rw [hst]; exact inN_append _ _
                have E1 := Lib.hid (And.intro e1 (And.intro e2 e3))
                have hol : (inN (stJ k n m X j).own).length < 17592186044416 := by rw [hown]; omega
                have HOL := Lib.hid hol
                have hm2 : (stJ k n m X (j + 1)).many ≤ 25 := hmb
                have hz2 : w1.heap.size + 1 + 1 ≤ wr.heap.size := Bs.lt HOW.out.h
                clear hst e1 e2 e3 hol hmb
                go_wp2_with (at_builtin; refine wpList_push2 rfl _ _ rfl (w1.heap.size + 1 + 1) w1.heap.size (.slice Z (inN (stJ k n m X j).own).length cz) (inN (stJ k n m X j).own) (((stJ k n m X j).ha : Nat) : Int) rfl HOW.out.o rfl HOL.out hz2 (by omega) HOW.out.bl ?_; intro g cap w2 ho2 hB2 hg2; obtain ⟨L2, H2⟩ := HOW.out.push hg2; have c1 := Bs.cell L2 (j := 0) (by simp); have c2 := Bs.cell H2 (j := 0) (by simp); simp only [List.getElem?_cons_zero] at c1 c2; have z1 := Bs.frozen L2 0; have z2 := Bs.frozen H2 0; have H3 : Bs 3 (w2.setCell ⟨w1.heap.size, 0, none⟩ (.int .i64 ((stJ k n m X (j + 1)).na : Nat))) (w1.heap.size + 1) [.int .i64 ((stJ k n m X j).ha : Nat), .int .i64 ((stJ k n m X j).hb : Nat)] := (Below.heap_setCell _ _ _ _ (by show w1.heap.size + 1 ≠ w1.heap.size; omega)).trans H2; have c3 := Bs.cell H3 (j := 0) (by simp); simp only [List.getElem?_cons_zero] at c3; have z3 := Bs.frozen H3 0; rw [← E1.out.2.2] at ho2; have HF := Lib.hid (OW.fin (t := stJ k n m X (j + 1)) ho2 L2 H2 (Nat.lt_succ_self _) (Nat.le_refl _) hB2 E1.out.1 E1.out.2.1); clear ho2 hB2 hg2 L2 H2 H3)
                go_wp2
                go_roundw
                case rel => exact ⟨j + 1, hltj, rfl, by go_num, by have h := HF.out; rw [hown] at h; exact h⟩
                case measure => simp [intOf]; omega
              · have hdb : (stJ k n m X j).na ≤ (dsJ k n m X).getD j 0 := by omega
                have hdi : ((stJ k n m X j).na : Int) ≤ (d : Int) := by rw [← hd]; omega
                clear hda hok hd
                have hst := (stJ_step (n := n) (m := m) (X := X) hltj).trans (OS.step_b hdb)
                obtain ⟨l2, l3⟩ : 1 ≤ (stJ k n m X j).nb ∧ 1 ≤ (stJ k n m X j).hb := (okJ HV.out HXW.out hltj).1 hdb
                obtain ⟨q1, q2, q3, q4⟩ := And.intro (Bs.cell HOW.out.l (j := 0) (by simp)) (And.intro (Bs.cell HOW.out.h (j := 1) (by simp)) (And.intro trivial trivial))
                simp only [List.getElem?_cons_succ, List.getElem?_cons_zero] at q2
                simp only [List.getElem?_cons_zero] at q1
                have hmm : (((stJ k n m X j).many : Nat) : Int) * (((stJ k n m X j).hb : Nat) : Int) = (((stJ k n m X (j + 1)).many : Nat) : Int) := by rw [hst]; push_cast; rfl
                have hmb := (fitJ HV.out HXW.out (show j + 1 ≤ k from hltj)).2.2.2.2.2.1
                have hnn : (((stJ k n m X j).nb : Nat) : Int) - 1 = (((stJ k n m X (j + 1)).nb : Nat) : Int) := by rw [hst]; show _ = ((((stJ k n m X j).nb - 1 : Nat)) : Int); omega
                have hhn : (((stJ k n m X j).hb : Nat) : Int) - 1 = (((stJ k n m X (j + 1)).hb : Nat) : Int) := by rw [hst]; show _ = ((((stJ k n m X j).hb - 1 : Nat)) : Int); omega
                have e1 : [Value.int .i64 ((stJ k n m X j).na : Nat), .int .i64 ((stJ k n m X j).nb : Nat)].set 1 (.int .i64 ((stJ k n m X (j + 1)).nb : Nat)) = [.int .i64 ((stJ k n m X (j + 1)).na : Nat), .int .i64 ((stJ k n m X (j + 1)).nb : Nat)] := by rw [hst]; rfl
                have e2 : [Value.int .i64 ((stJ k n m X j).ha : Nat), .int .i64 ((stJ k n m X j).hb : Nat)].set 1 (.int .i64 ((stJ k n m X (j + 1)).hb : Nat)) = [.int .i64 ((stJ k n m X (j + 1)).ha : Nat), .int .i64 ((stJ k n m X (j + 1)).hb : Nat)] := by rw [hst]; rfl
                have e3 : inN (stJ k n m X (j + 1)).own = inN (stJ k n m X j).own ++ [(((stJ k n m X j).hb : Nat) : Int)] := by rw [hst]; exact inN_append _ _
                have E1 := Lib.hid (And.intro e1 (And.intro e2 e3))
                have hol : (inN (stJ k n m X j).own).length < 17592186044416 := by rw [hown]; omega
                have HOL := Lib.hid hol
                have hm2 : (stJ k n m X (j + 1)).many ≤ 25 := hmb
                have hz2 : w1.heap.size + 1 + 1 ≤ wr.heap.size := Bs.lt HOW.out.h
                clear hst e1 e2 e3 hol hmb
                go_wp2_with (at_builtin; refine wpList_push2 rfl _ _ rfl (w1.heap.size + 1 + 1) w1.heap.size (.slice Z (inN (stJ k n m X j).own).length cz) (inN (stJ k n m X j).own) (((stJ k n m X j).hb : Nat) : Int) rfl HOW.out.o rfl HOL.out hz2 (by omega) HOW.out.bl ?_; intro g cap w2 ho2 hB2 hg2; obtain ⟨L2, H2⟩ := HOW.out.push hg2; have c1 := Bs.cell L2 (j := 1) (by simp); have c2 := Bs.cell H2 (j := 1) (by simp); simp only [List.getElem?_cons_succ, List.getElem?_cons_zero] at c1 c2; have z1 := Bs.frozen L2 1; have z2 := Bs.frozen H2 1; have H3 : Bs 3 (w2.setCell ⟨w1.heap.size, 1, none⟩ (.int .i64 ((stJ k n m X (j + 1)).nb : Nat))) (w1.heap.size + 1) [.int .i64 ((stJ k n m X j).ha : Nat), .int .i64 ((stJ k n m X j).hb : Nat)] := (Below.heap_setCell _ _ _ _ (by show w1.heap.size + 1 ≠ w1.heap.size; omega)).trans H2; have c3 := Bs.cell H3 (j := 1) (by simp); simp only [List.getElem?_cons_succ, List.getElem?_cons_zero] at c3; have z3 := Bs.frozen H3 1; rw [← E1.out.2.2] at ho2; have HF := Lib.hid (OW.fin (t := stJ k n m X (j + 1)) ho2 L2 H2 (Nat.lt_succ_self _) (Nat.le_refl _) hB2 E1.out.1 E1.out.2.1); clear ho2 hB2 hg2 L2 H2 H3)
                go_wp2
                go_roundw
                case rel => exact ⟨j + 1, hltj, rfl, by go_num, by have h := HF.out; rw [hown] at h; exact h⟩
                case measure => simp [intOf]; omega
            · obtain rfl : j = k := by omega
              obtain ⟨_, _, e, hIo⟩ := HOW.out.o.ip
              cases e
              have hD3 := HD1.out.later HOW.out.bl
              have HD3 := Lib.hid hD3
              have HIo := Lib.hid hIo
              have HI3 := Lib.hid (HI1.out.later HOW.out.bl)
              have HIb3 := Lib.hid (HIb1.out.later HOW.out.bl)
              have hlo : (inN (stJ j n m X j).own).length = j := by rw [inN_len, st_own (Nat.le_refl j)]
              rw [hlo]
              have hco := hIo.cap
              have hleo := hIo.le
              rw [hlo] at hleo
              obtain ⟨mY, hmY⟩ : ∃ mY, (stJ j n m X j).many = mY := ⟨_, rfl⟩
              have HMY := Lib.hid hmY
              rw [hmY] at f5 f6 ⊢
              have HF7 := Lib.hid f7
              have HUX := Lib.hid ((WOK.uX HV.out (x := x) (y := y) HS.out X (Nat.le_of_lt HXW.out)).mono (show 290000 + 25 * X ≤ 291000 by omega))
              clear hD3 hIo HD1 HI1 HIb1 HOW hmY f1 f2 f3 f4 f7 hltj hj hlo
              obtain ⟨w3, hw3⟩ : ∃ w3, w3 = wr := ⟨_, rfl⟩
              subst hw3
              go_wp2_with fail
              go_loopw [109] (fun iv wr => ∃ Y : Nat, Y ≤ mY ∧ iv = .int .i64 Y ∧ DV w M j n m A B ca cb x y (uY j n m x y X Y (uX j n m x y X S)) wr ∧ IP wr V cv (inN (basJ L j)) ∧ IP wr D1 c1 (inN (dsJ j n m X)) ∧ IP wr Z cz (inN (stJ j n m X j).own)) (fun iv _ => mY - (intOf iv).toNat)
              case atStart => exact ⟨0, by omega, rfl, HD3.out, HIb3.out, HI3.out, HIo.out⟩
              case round =>
                clear HD3 HIb3 HI3 HIo
                obtain ⟨Y, hY, rfl, hD, hIb, hI1, hIo⟩ := hrel
                by_cases hlty : Y < mY
                · have hpol := polJ_ok HV.out HXW.out HXY.out.1 HXY.out.2 (Y := Y) (by rw [HMY.out]; exact hlty)
                  have CM2 : Hid (∀ wx : World, Below wr.heap.size wr wx → Calls Try.prog 25 #[.int .i64 Y, .slice Z j cz] wx fun e w' => ∃ V5 c5, e = .returned (.slice V5 j c5) ∧ IP w' V5 c5 (inN (mixN Y (stJ j n m X j).own)) ∧ Below wr.heap.size wr w' ∧ Below wx.heap.size wx w') := by
                    intro wx h1
                    have hm := mixed_any Y Z cz (stJ j n m X j).own wx (hIo.later h1) (fun b hb => by have := HF7.out b hb; omega) (by omega) (by rw [st_own (Nat.le_refl j)]; omega)
                    rw [st_own (Nat.le_refl j)] at hm
                    refine hm.mono ?_
                    rintro e w' ⟨v, rfl, hO, hb⟩
                    obtain ⟨V5, c5, e5, hI5⟩ := hO.ip
                    rw [inN_len, mixN_len, st_own (Nat.le_refl j)] at e5
                    subst e5
                    exact ⟨V5, c5, rfl, hI5, h1.trans (hb.mono h1.size), hb⟩
                  have CP : Hid (∀ (wx : World) (V5 : Option Addr) (c5 : Nat), Below wr.heap.size wr wx → IP wx V5 c5 (inN (mixN Y (stJ j n m X j).own)) → Calls Try.prog 22 #[pv j n (.slice A x.length ca), pv j m (.slice B y.length cb), .slice D1 j c1, .slice V5 j c5] wx fun e w' => ∃ V6 c6, e = .returned (.tuple #[pv j ((n + m : Nat) : Int) (.slice V6 (resJ j n m x y X Y).length c6), .int .i64 0]) ∧ OI w' wx.heap.size (.slice V6 (resJ j n m x y X Y).length c6) (inN (resJ j n m x y X Y)) ∧ Below wr.heap.size wr w' ∧ Below wx.heap.size wx w') := by
                    intro wx V5 c5 h1 h2
                    have hd := hD.later h1
                    have hp := pools_any j n j m A B D1 V5 ca cb c1 c5 (inN x) (inN y) (inN (dsJ j n m X)) (inN (mixN Y (stJ j n m X j).own)) wx hd.ia hd.ib (hI1.later h1) h2
                    rw [inN_len, inN_len, inN_len, inN_len, dsJ_len, mixN_len, st_own (Nat.le_refl j)] at hp
                    have e : poolsR j n (inN x) j m (inN y) (inN (dsJ j n m X)) (inN (mixN Y (stJ j n m X j).own)) = polJ j n m x y X Y := rfl
                    rw [e, hpol.1] at hp
                    refine hp.mono ?_
                    rintro e w' ⟨v, rfl, hO, hb⟩
                    obtain ⟨V6, c6, e6, _⟩ := hO.ip
                    rw [inN_len] at e6
                    subst e6
                    exact ⟨V6, c6, rfl, hO, h1.trans (hb.mono h1.size), hb⟩
                  have HDf : Hid (∀ wx : World, Below wr.heap.size wr wx → _) := fun wx h1 => dvS (hD.later h1)
                  have Hd : Hid (Below wr.heap.size wr wr.drew) := (Below.refl _ wr).drew
                  rw [HL.out] at CP
                  have HRL := Lib.hid hpol.2
                  have HIb := Lib.hid hIb
                  have HI1 := Lib.hid hI1
                  have HIo := Lib.hid hIo
                  have HDr := Lib.hid hD
                  obtain ⟨a0, a1, a2, _⟩ := hD.a.at
                  obtain ⟨b0, b1, b2, _⟩ := hD.b.at
                  unfold pv at CP
                  clear hpol hD hIb hI1 hIo
                  obtain ⟨res, hres⟩ : ∃ res, resJ j n m x y X Y = res := ⟨_, rfl⟩
                  rw [hres] at CP HRL
                  have HRES := Lib.hid hres
                  clear hres
                  go_wp2_with fail
                  go_region_held3 (fun w' => (w'.cell? ⟨w.heap.size, 0, none⟩ = some (.int .i64 j) ∧ w'.cell? ⟨w.heap.size, 1, none⟩ = some (.int .i64 n) ∧ w'.cell? ⟨w.heap.size, 2, none⟩ = some (.slice A x.length ca)) ∧ w'.cell? ⟨w.heap.size + 1, 0, none⟩ = some (.int .i64 j) ∧ w'.cell? ⟨w.heap.size + 1, 1, none⟩ = some (.int .i64 m) ∧ w'.cell? ⟨w.heap.size + 1, 2, none⟩ = some (.slice B y.length cb)) (exact HDf.out _ (by (first | exact HBb.out | exact HBa.out | exact (HBb.out.alloc HBb.out.size _) | exact (HBa.out.alloc HBa.out.size _) | exact (Hd.out.alloc (Nat.le_refl _) _) | exact (((Below.refl _ wr).alloc (Nat.le_refl _) _).drew) | exact Hd.out | exact (((HBb.out.setCell (p := ⟨wr.heap.size, 0, none⟩) (Nat.le_refl _) _).setCell (p := ⟨wr.heap.size, 1, none⟩) (Nat.le_refl _) _).setCell (p := ⟨wr.heap.size, 2, none⟩) (Nat.le_refl _) _) | exact (((HBb.out.setCell (p := ⟨w5.heap.size, 0, none⟩) HBa.out.size _).setCell (p := ⟨w5.heap.size, 1, none⟩) HBa.out.size _).setCell (p := ⟨w5.heap.size, 2, none⟩) HBa.out.size _))))
                    (first
                      | (go_at_call 25; refine (CM2.out _ (by (first | exact HBb.out | exact HBa.out | exact (HBb.out.alloc HBb.out.size _) | exact (HBa.out.alloc HBa.out.size _) | exact (Hd.out.alloc (Nat.le_refl _) _) | exact (((Below.refl _ wr).alloc (Nat.le_refl _) _).drew) | exact Hd.out | exact (((HBb.out.setCell (p := ⟨wr.heap.size, 0, none⟩) (Nat.le_refl _) _).setCell (p := ⟨wr.heap.size, 1, none⟩) (Nat.le_refl _) _).setCell (p := ⟨wr.heap.size, 2, none⟩) (Nat.le_refl _) _) | exact (((HBb.out.setCell (p := ⟨w5.heap.size, 0, none⟩) HBa.out.size _).setCell (p := ⟨w5.heap.size, 1, none⟩) HBa.out.size _).setCell (p := ⟨w5.heap.size, 2, none⟩) HBa.out.size _)))).mono ?_; rintro e w5 ⟨V5, c5, rfl, hI5, hba, hb5⟩; (try (have hq5 := (PB.new wr 0 0 (.slice none 0 0)).later (show Below (wr.alloc (.cells #[.int .i64 0, .int .i64 0, .slice none 0 0] 28)).heap.size (wr.alloc (.cells #[.int .i64 0, .int .i64 0, .slice none 0 0] 28)) w5 from (Below.refl _ _).drew.trans hb5))); have HI5 := Lib.hid hI5; have HBa := Lib.hid hba; clear hI5 hba hb5)
                      | (go_at_call 22; refine (CP.out _ V5 c5 (by (first | exact HBb.out | exact HBa.out | exact (HBb.out.alloc HBb.out.size _) | exact (HBa.out.alloc HBa.out.size _) | exact (Hd.out.alloc (Nat.le_refl _) _) | exact (((Below.refl _ wr).alloc (Nat.le_refl _) _).drew) | exact Hd.out | exact (((HBb.out.setCell (p := ⟨wr.heap.size, 0, none⟩) (Nat.le_refl _) _).setCell (p := ⟨wr.heap.size, 1, none⟩) (Nat.le_refl _) _).setCell (p := ⟨wr.heap.size, 2, none⟩) (Nat.le_refl _) _) | exact (((HBb.out.setCell (p := ⟨w5.heap.size, 0, none⟩) HBa.out.size _).setCell (p := ⟨w5.heap.size, 1, none⟩) HBa.out.size _).setCell (p := ⟨w5.heap.size, 2, none⟩) HBa.out.size _))) (by first | exact HI5.out | exact HI5.out.later ((Below.refl _ _).alloc (Nat.le_refl _) _))).mono ?_; rintro e w6 ⟨V6, c6, rfl, hO6, hbb, hb6⟩; (try (have hq6 := hq5.later hb6)); (try (have hq6 := (PB.new w5 0 0 (.slice none 0 0)).later hb6)); (try (obtain ⟨p0, p1, p2, g0, g1, g2⟩ := hq6.at)); have HBb := Lib.hid hbb; clear hbb hb6))
                  all_goals
                    (first | (have hQ7 := hq6.store j L (.slice V6 res.length c6); have hB7 := ((HBb.out.setCell (p := ⟨wr.heap.size, 0, none⟩) (Nat.le_refl _) (.int .i64 j)).setCell (p := ⟨wr.heap.size, 1, none⟩) (Nat.le_refl _) (.int .i64 L)).setCell (p := ⟨wr.heap.size, 2, none⟩) (Nat.le_refl _) (.slice V6 res.length c6); have hO7 := ((hO6.apartC hq5.lt 0 (.int .i64 j)).apartC hq5.lt 1 (.int .i64 L)).apartC hq5.lt 2 (.slice V6 res.length c6); clear p0 p1 p2 g0 g1 g2 hq6 hO6; generalize (((w6.setCell ⟨wr.heap.size, 0, none⟩ (.int .i64 j)).setCell ⟨wr.heap.size, 1, none⟩ (.int .i64 L)).setCell ⟨wr.heap.size, 2, none⟩ (.slice V6 res.length c6)) = w7 at *) | (have hQ7 := hq6.store j L (.slice V6 res.length c6); have hB7 := ((HBb.out.setCell (p := ⟨w5.heap.size, 0, none⟩) HBa.out.size (.int .i64 j)).setCell (p := ⟨w5.heap.size, 1, none⟩) HBa.out.size (.int .i64 L)).setCell (p := ⟨w5.heap.size, 2, none⟩) HBa.out.size (.slice V6 res.length c6); have hO7 := ((hO6.apartC (show w5.heap.size < (w5.alloc (.cells #[.int .i64 0, .int .i64 0, .slice none 0 0] 28)).heap.size by simp) 0 (.int .i64 j)).apartC (show w5.heap.size < (w5.alloc (.cells #[.int .i64 0, .int .i64 0, .slice none 0 0] 28)).heap.size by simp) 1 (.int .i64 L)).apartC (show w5.heap.size < (w5.alloc (.cells #[.int .i64 0, .int .i64 0, .slice none 0 0] 28)).heap.size by simp) 2 (.slice V6 res.length c6); clear p0 p1 p2 g0 g1 g2 hq6 hO6; generalize (((w6.setCell ⟨w5.heap.size, 0, none⟩ (.int .i64 j)).setCell ⟨w5.heap.size, 1, none⟩ (.int .i64 L)).setCell ⟨w5.heap.size, 2, none⟩ (.slice V6 res.length c6)) = w7 at *) | (have hQ7 := PB.new w6 j L (.slice V6 res.length c6); have hB7 := HBb.out.alloc HBb.out.size (.cells #[.int .i64 j, .int .i64 L, .slice V6 res.length c6] 28); have hO7 := hO6.alloc (.cells #[.int .i64 j, .int .i64 L, .slice V6 res.length c6] 28); clear hO6; generalize w6.alloc (.cells #[.int .i64 j, .int .i64 L, .slice V6 res.length c6] 28) = w7 at *))
                    have hD7 := HDr.out.later hB7
                    have HIb7 := Lib.hid (HIb.out.later hB7)
                    have HI17 := Lib.hid (HI1.out.later hB7)
                    have HIo7 := Lib.hid (HIo.out.later hB7)
                    obtain ⟨V7, c7, e7, hI7⟩ := hO7.ip
                    have hil := inN_len res
                    rw [hil] at e7
                    injection e7 with e71 _ e72
                    subst e71
                    subst e72
                    obtain ⟨_, _, p2, _⟩ := hQ7.at
                    have HI7 := Lib.hid hI7
                    have HD7 := Lib.hid hD7
                    have hcr := HI7.out.cap
                    have hlr := HI7.out.le
                    have hil := inN_len res
                    rw [hil] at hlr
                    clear HIb HI1 HIo HDr HI5 HBa HBb hB7 hD7 hQ7 hO7 hI7 HDf Hd CM2 CP a0 a1 a2 b0 b1 b2
                    obtain ⟨wY, hwY⟩ : ∃ wY, wY = wr := ⟨_, rfl⟩
                    subst hwY
                    clear hil
                    go_wp2_with fail
                    go_loopw [24, 127] (fun sv iv wx => ∃ t : Nat, t ≤ res.length ∧ sv = .int .i64 (setN (res.take t) : Nat) ∧ iv = .int .i64 t ∧ wx = w7) (fun _ iv _ => res.length - (intOf iv).toNat)
                    case atStart => exact ⟨0, by omega, rfl, rfl, rfl⟩
                    case round =>
                      obtain ⟨t, ht, rfl, rfl, rfl⟩ := hrel
                      have hs1 : setN (res.take t) < 64 := setN_lt (fun z hz => HRL.out z (List.mem_of_mem_take hz))
                      by_cases htl : t < res.length
                      · obtain ⟨b9, off9, rfl, _, hcl⟩ := HI7.out.il.at (by rw [inN_len]; omega)
                        have hcx := hcl t (by rw [inN_len]; exact htl)
                        rw [inN_at] at hcx
                        have hx6 := HRL.out (res.getD t 0) (by simp [List.getD_eq_getElem?_getD, htl])
                        have HE := Lib.hid (setN_snoc (res.take t) (res.getD t 0))
                        rw [← take_snocJ htl] at HE
                        obtain ⟨z, hzz⟩ : ∃ z, res.getD t 0 = z := ⟨_, rfl⟩
                        rw [hzz] at hcx HE hx6
                        obtain ⟨q, hq, hq1, hq2, hq3⟩ := pow_smallJ hx6
                        rw [hq] at HE
                        have hor := or_small hs1 hq2
                        have hos : setN (res.take t) ||| q < 64 := Nat.or_lt_two_pow (n := 6) hs1 hq2
                        generalize setN (res.take t) ||| q = s2 at *
                        generalize setN (res.take t) = s1 at *
                        have hti : (t : Int) < (res.length : Int) := by omega
                        clear hcl hzz hq
                        go_wp2
                        go_roundw
                        case rel => exact ⟨t + 1, htl, by rw [HE.out], by go_num, by first | rfl | trivial⟩
                        case measure => simp [intOf]; omega
                      · obtain rfl : t = res.length := by omega
                        rw [List.take_length] at hs1 ⊢
                        have hU := WOK.uY (R := j) (n := n) (m := m) (x := x) (y := y) (X := X) HUX.out Y
                        have hws := hU.sum (by omega) (setN res)
                        have hlk := HD7.out.mp.look (x := setN res) (by omega)
                        have hUl : (uY j n m x y X Y (uX j n m x y X S)).length < 1000000 := by have := hU.1; omega
                        have HUL := Lib.hid hUl
                        obtain ⟨c0, hc0⟩ : ∃ c0, wsum (uY j n m x y X Y (uX j n m x y X S)) (setN res) = c0 := ⟨_, rfl⟩
                        have HC0 := Lib.hid hc0
                        rw [hc0] at hws hlk
                        obtain ⟨dv, hdv⟩ : ∃ dv : Nat, 720720 / mY = dv := ⟨_, rfl⟩
                        have hdi : Int.tdiv 720720 (mY : Int) = (dv : Int) := by
                          rw [show (720720 : Int) = ((720720 : Nat) : Int) from rfl, ← Int.ofNat_tdiv, hdv]
                        have hdl2 : dv ≤ 720720 := by rw [← hdv]; exact Nat.div_le_self _ _
                        have hm0 : ((mY : Int) == 0) = false := eqz_no (by omega)
                        have HDV := Lib.hid hdv
                        have HSN : Hid (setN res < 1000000) := by show _ < _; omega
                        clear hU hUl hc0 hdv
                        have HD8 : Hid (DV w M j n m A B ca cb x y (uY j n m x y X Y (uX j n m x y X S)) wr.drew) := HD7.out.later (Below.refl _ wr).drew
                        have HSM : Hid (wsum (uY j n m x y X Y (uX j n m x y X S)) (setN res) + dv < 1000000000000) := by show _ < _; rw [HC0.out]; omega
                        have HEU : Hid ((setN res, dv) :: uY j n m x y X Y (uX j n m x y X S) = uY j n m x y X (Y + 1) (uX j n m x y X S)) := by
                          show _ = _
                          rw [uY, HRES.out, HMY.out, HDV.out]
                        have hlk2 : (Instr.lookup 23 (.map (some M)) (.int .i64 ((setN res : Nat) : Int)) false).run Try.prog wr.drew = .ok (.int .i64 (c0 : Nat)) wr.drew := by
                          have h := HD8.out.mp.look (x := setN res) (by omega)
                          rw [HC0.out] at h
                          exact h
                        have wq1 : IntKind.i64.wrap (Int.tdiv 720720 (mY : Int)) = (dv : Int) := by rw [hdi]; exact IntWalk.i64_in _ (by omega)
                        have wq2 : IntKind.i64.wrap ((c0 : Int) + (dv : Int)) = (c0 : Int) + (dv : Int) := IntWalk.i64_in _ (by omega)
                        have wq3 : ¬ mY = 0 := by omega
                        have wq5 : IntKind.i64.wrap (dv : Int) = (dv : Int) := IntWalk.i64_in _ (by omega)
                        go_wp2_with fail
                        go_still_tail 6, (by kernel_rfl)
                        first
                          | change wpList _ _ _ _ _ wr.drew
                          | still_step
                        go_wp2_with (at_mapUpdate; refine wpList_wPut rfl _ _ _ rfl M (uY j n m x y X Y (uX j n m x y X S)) (setN res) dv rfl rfl (by rw [HC0.out]; rfl) HSN.out HD8.out.mp HUL.out HSM.out ?_; intro w8 hM8 hg8; have hk8 : Kp (fun k => k = M) wr.drew w8 := Kp.of_grown hg8 rfl; have HD9 := Lib.hid (HD8.out.put hM8 hg8); have HIb9 := Lib.hid ((HIb7.out.later (Below.refl _ wr).drew).kpM HD8.out.mp hk8); have HI19 := Lib.hid ((HI17.out.later (Below.refl _ wr).drew).kpM HD8.out.mp hk8); have HIo9 := Lib.hid ((HIo7.out.later (Below.refl _ wr).drew).kpM HD8.out.mp hk8); clear hM8 hg8 hk8)
                        rw [HEU.out] at HD9
                        go_wp2
                        go_roundw
                        case rel => exact ⟨Y + 1, hlty, by go_num, HD9.out, HIb9.out, HI19.out, HIo9.out⟩
                        case measure => simp [intOf]; omega
                · obtain rfl : Y = mY := by omega
                  have HDX : Hid (DV w M j n m A B ca cb x y (uX j n m x y (X + 1) S) wr) := by
                    show DV _ _ _ _ _ _ _ _ _ _ _ _ _
                    rw [uX, HMY.out]
                    exact hD
                  have HIb := Lib.hid hIb
                  clear hD hIb hI1 hIo
                  go_wp2
                  go_roundw
                  case rel => exact ⟨X + 1, hlt, by go_num, HDX.out, HIb.out⟩
                  case measure => simp [intOf]; omega
        · obtain rfl : X = W := by omega
          have HE := Lib.hid hD.mp
          have HK := Lib.hid hD.k
          have hLL := HL.out
          clear hD hIb HD HIb
          go_wp2
          go_ret
          exact ⟨rfl, by rw [hLL, HW.out]; exact HE.out, HK.out⟩
end Go.Proofs.Ytjhcbjpbmbjgoaa
