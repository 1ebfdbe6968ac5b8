/- lotdrawerkeep.AliasScale: the walk. -/
import Derived.Test.YtjhcbjpbmbjgoaaH9
import Derived.Test.YtjhcbjpbmbjgoaaHsc
import Derived.Test.YtjhcbjpbmbjgoaaCk
import Derived.Deep.QuietTactic
import Derived.BigQuiet
namespace Go.Proofs.Ytjhcbjpbmbjgoaa
open Go.RowKit Go.Deep

/-- The first so many are multiplied. -/
def mulTo (W : List Int) (b : Int) (k : Nat) : List Int := (W.take k).map (fun x => wrap64 (x * b)) ++ W.drop k
theorem mulTo_len (W : List Int) (b : Int) (k : Nat) : (mulTo W b k).length = W.length := by
  simp [mulTo]; omega
theorem mulTo_zero (W : List Int) (b : Int) : mulTo W b 0 = W := by simp [mulTo]
theorem mulTo_all (W : List Int) (b : Int) : mulTo W b W.length = W.map (fun x => wrap64 (x * b)) := by simp [mulTo]
theorem mulTo_at {W : List Int} {b : Int} {k : Nat} (h : k < W.length) : (mulTo W b k).getD k 0 = W.getD k 0 := by
  unfold mulTo
  rw [List.getD_eq_getElem?_getD, List.getElem?_append_right (by simp; omega)]
  simp [List.getD_eq_getElem?_getD, show min k W.length = k by omega]
theorem mulTo_set {W : List Int} {b : Int} {k : Nat} (h : k < W.length) : (mulTo W b k).set k (wrap64 (W.getD k 0 * b)) = mulTo W b (k + 1) := by
  unfold mulTo
  rw [List.set_append_right _ _ (by simp; omega), take_snocW h, List.map_append, List.append_assoc]
  congr 1
  rw [show k - (List.map (fun x => wrap64 (x * b)) (List.take k W)).length = 0 by simp; omega]
  rw [List.drop_eq_getElem_cons h, List.set_cons_zero]
  simp only [List.getD_eq_getElem?_getD, List.getElem?_eq_getElem h, Option.getD_some]
  rfl
theorem wrap_mul {W : List Int} (hR : WR W) {b : Int} (h1 : 1 ≤ b) (h2 : b ≤ 20) : W.map (fun x => wrap64 (x * b)) = W.map (fun x => x * b) := by
  refine List.map_congr_left fun x hx => ?_
  have h := hR.2.2 x hx
  have h3 : 0 ≤ x * b := Int.mul_nonneg h.1 (by omega)
  have h4 : x * b ≤ 1048576 * b := Int.mul_le_mul_of_nonneg_right h.2 (by omega)
  unfold wrap64
  omega

set_option maxRecDepth 100000 in
set_option maxHeartbeats 4000000 in
theorem aliasScale_walk (A : Option Addr) (ca : Nat) (W : List Int) (b : Int) (w : World) (hW : IP w A ca W) (hlen : W.length < 17592186044416) :
    Calls Try.prog 8 #[.slice A W.length ca, .int .i64 b] w fun e w' => e = .returned (.bool true) ∧ Below w.heap.size w w' := by
  have CA := Lib.hid (alive8_any w)
  have hle := hW.le
  have hcap := hW.cap
  have HW := Lib.hid hW
  clear hW
  go_enter Try.func8, Try.ntmps8
  go_wp2_with fail
  refine CA.out.mono ?_
  rintro e w1 ⟨rfl, hb1⟩
  have HB := Lib.hid hb1
  have HW1 := Lib.hid (HW.out.later hb1)
  clear CA hb1 HW
  by_cases h1 : b < 1
  · go_wp2
    go_ret
    exact ⟨rfl, HB.out⟩
  by_cases h2 : 20 < b
  · go_wp2
    go_ret
    exact ⟨rfl, HB.out⟩
  have d1 : decide (b < 1) = false := by rw [decide_eq_false_iff_not]; exact h1
  have d2 : decide (20 < b) = false := by rw [decide_eq_false_iff_not]; exact h2
  have CC := Lib.hid (clone_any A ca W w1 HW1.out hlen)
  go_wp2_with fail
  refine CC.out.mono ?_
  rintro e w2 ⟨v, rfl, hO, hb2⟩
  obtain ⟨R, cr, rfl, hRI⟩ := hO.ip
  have hcr := hRI.le
  have hcr2 := hRI.cap
  have HO := Lib.hid hO
  have HB2 := Lib.hid hb2
  have HW2 := Lib.hid (HW1.out.later hb2)
  clear hO hb2 CC hRI d1 d2
  go_wp2_with fail
  go_loopw [24] (fun iv wr => ∃ k : Nat, k ≤ W.length ∧ iv = .int .i64 k ∧ OI wr w1.heap.size (.slice R W.length cr) (mulTo W b k) ∧ Below w1.heap.size w1 wr) (fun iv _ => W.length - (intOf iv).toNat)
  case atStart => exact ⟨0, by omega, rfl, by rw [mulTo_zero]; exact HO.out, HB2.out⟩
  case round =>
    obtain ⟨k, hk, rfl, hO, hB⟩ := hrel
    have HOr := Lib.hid hO
    have HBr := Lib.hid hB
    clear hO hB HO
    by_cases hlt : k < W.length
    · obtain ⟨g, cap, e, hg, _, hcap1, hcap2, hat, hfz, hO2⟩ := HOr.out.form (mulTo_len W b k) (by omega)
      injection e with e1 _ e3
      subst e1
      subst e3
      have ck := hat k hlt
      rw [mulTo_at hlt] at ck
      have fk := hfz k
      have HO3 : Hid (OI (wr.setCell ⟨g, k, none⟩ (.int .i64 (wrap64 (W.getD k 0 * b)))) w1.heap.size (.slice (some ⟨g, 0, none⟩) W.length cr) (mulTo W b (k + 1))) := by
        show OI _ _ _ _
        rw [← mulTo_set hlt]
        exact hO2.set k _
      have HB3 : Hid (Below w1.heap.size w1 (wr.setCell ⟨g, k, none⟩ (.int .i64 (wrap64 (W.getD k 0 * b))))) := HBr.out.setCell hg _
      clear hat hfz hO2
      generalize W.getD k 0 = x at *
      go_wp2
      go_roundw
      case rel => exact ⟨k + 1, by omega, by go_num, HO3.out, HB3.out⟩
      case measure => simp [intOf]; omega
    · obtain rfl : k = W.length := by omega
      obtain ⟨_, _, e, hIM⟩ := HOr.out.ip
      rw [mulTo_len] at e
      injection e with e1 _ e3
      subst e1
      subst e3
      rw [mulTo_all] at hIM
      have HIM := Lib.hid hIM
      have HWr := Lib.hid (HW1.out.later HBr.out)
      have HBw := Lib.hid (HB.out.trans (HBr.out.mono HB.out.size))
      clear hIM HOr HB2 HW2
      have hl2 : Hid ((W.map (fun x => wrap64 (x * b))).length = W.length) := List.length_map _
      have hw2 : WR W → W.map (fun x => wrap64 (x * b)) = W.map (fun x => x * b) := fun h => wrap_mul h (by omega) (by omega)
      generalize hM : W.map (fun x => wrap64 (x * b)) = M at *
      clear hM
      rcases sumC_err W with h | h | h
      · obtain ⟨hR, _, _⟩ := sumC_ok h
        have hMW : Hid (makeA M = scA b (makeA W)) := by show _ = _; rw [hw2 hR, makeA_mul (by omega)]
        have C1 := Lib.hid (make_ok A ca W wr HWr.out h)
        have HR := Lib.hid hR
        have hml : Hid ((makeA W).length = W.length) := makeA_len hR.nonneg
        clear h hw2
        go_wp2_with fail
        refine C1.out.mono ?_
        rintro e w4 ⟨R1, c1, rfl, hA1, hb4⟩
        have HB4 := Lib.hid (HBw.out.trans (hb4.mono HBw.out.size))
        have hc1 := hA1.le
        have hc12 := hA1.cap
        have HA1 := Lib.hid hA1
        have HIM4 := Lib.hid (HIM.out.later hb4)
        clear hA1 hb4 C1 hR
        rcases sumC_err M with k | k | k
        · have C2 := Lib.hid (make_ok R cr M w4 HIM4.out k)
          have hml2 : Hid ((makeA M).length = W.length) := by show _ = _; rw [hMW.out, scA_len, hml.out]
          rw [hl2.out] at C2
          clear k
          go_wp2_with fail
          refine C2.out.mono ?_
          rintro e w5 ⟨R2, c2, rfl, hA2, hb5⟩
          have HB5 := Lib.hid (HB4.out.trans (hb5.mono HB4.out.size))
          have HA2 := Lib.hid hA2
          have HA15 := Lib.hid (HA1.out.later hb5)
          have hc2 := hA2.le
          have hc22 := hA2.cap
          rw [hml2.out] at hc2
          rw [hml.out] at hc1
          clear hA2 hb5 C2 HA1 HIM4 HIM HWr HBr HBw HB4 HW1 HB
          go_wp2_with fail
          go_loopw [53] (fun iv wx => ∃ k : Nat, k ≤ W.length ∧ iv = .int .i64 k ∧ Below w5.heap.size w5 wx) (fun iv _ => W.length - (intOf iv).toNat)
          case atStart => exact ⟨0, by omega, rfl, Below.refl _ _⟩
          case round =>
            obtain ⟨k, hk, rfl, hB⟩ := hrel
            have HBx := Lib.hid hB
            clear hB
            by_cases hlt : k < W.length
            · obtain ⟨b1, o1, rfl, _, hcell1⟩ := (HA15.out.later HBx.out).il (by rw [hml.out]; omega)
              obtain ⟨a0, a1⟩ := hcell1 k (by rw [hml.out]; exact hlt)
              obtain ⟨b2, o2, rfl, _, hcell2⟩ := (HA2.out.later HBx.out).il (by rw [hml2.out]; omega)
              obtain ⟨d0, d1⟩ := hcell2 k (by rw [hml2.out]; exact hlt)
              rw [hMW.out, scA_lev] at d0
              rw [hMW.out, scA_too] at d1
              obtain ⟨t1, t2, _⟩ := tabA HR.out hlt
              have hsl := sumW_le HR.out.2.2
              have hn4 := HR.out.2.1
              have m1 : 0 ≤ b * lev (makeA W) k := Int.mul_nonneg (by omega) t1
              have m2 : b * lev (makeA W) k ≤ 20 * lev (makeA W) k := Int.mul_le_mul_of_nonneg_right (by omega) t1
              have q1 : IntKind.i64.wrap (b * lev (makeA W) k) = b * lev (makeA W) k := IntWalk.i64_in _ (by omega)
              have i1 : (k : Int) < (W.length : Int) := by omega
              have g1 : decide ((W.length : Int) ≤ (k : Int)) = false := by rw [decide_eq_false_iff_not]; omega
              have g2 : decide (W.length ≤ k) = false := by rw [decide_eq_false_iff_not]; omega
              clear hcell1 hcell2 hsl
              generalize lev (makeA W) k = x at *
              generalize too (makeA W) k = y at *
              obtain ⟨z, hz⟩ : ∃ z, b * x = z := ⟨_, rfl⟩
              rw [hz] at q1 d0 m1 m2
              go_wp2
              go_quiet (fail)
              go_wp2
              go_roundw
              case rel => exact ⟨k + 1, by omega, by go_num, below_drewN HBx.out _⟩
              case measure => simp [intOf]; omega
            · obtain rfl : k = W.length := by omega
              have HBe := Lib.hid (HB5.out.trans (HBx.out.mono HB5.out.size))
              go_wp2
              go_ret
              exact ⟨rfl, HBe.out⟩
        all_goals
          have C2 := Lib.hid (make_err R cr M w4 HIM4.out (congrArg Prod.snd k) (by decide))
          rw [hl2.out] at C2
          clear k
          go_wp2_with fail
          refine C2.out.mono ?_
          rintro e w5 ⟨R2, c2, rfl, hb5⟩
          have HB5 := Lib.hid (HB4.out.trans (hb5.mono HB4.out.size))
          clear hb5 C2
          go_wp2
          go_ret
          exact ⟨rfl, HB5.out⟩
      all_goals
        have C1 := Lib.hid (make_err A ca W wr HWr.out (congrArg Prod.snd h) (by decide))
        clear h hw2
        go_wp2_with fail
        refine C1.out.mono ?_
        rintro e w4 ⟨R1, c1, rfl, hb4⟩
        have HB4 := Lib.hid (HBw.out.trans (hb4.mono HBw.out.size))
        have C2 := Lib.hid (make_any R cr M w4 (HIM.out.later hb4))
        rw [hl2.out] at C2
        generalize makeC M = q at *
        clear hb4 C1
        go_wp2_with fail
        refine C2.out.mono ?_
        rintro e w5 ⟨R2, c2, rfl, _, hb5⟩
        have HB5 := Lib.hid (HB4.out.trans (hb5.mono HB4.out.size))
        clear hb5 C2
        go_wp2
        go_ret
        exact ⟨rfl, HB5.out⟩
end Go.Proofs.Ytjhcbjpbmbjgoaa
