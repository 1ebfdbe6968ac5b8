/- lotdrawerkeep.PpsScale: the walk. -/
import Derived.Test.YthfnnceehhhfkaaY6
import Derived.Test.YthfnnceehhhfkaaHmt
import Derived.Test.YthfnnceehhhfkaaCk
namespace Go.Proofs.Ythfnnceehhhfkaa
open Go.RowKit Go.Deep

theorem wrap_mulP {W : List Int} {m : Int} (hP : WP W m) {b : Int} (h1 : 1 ≤ b) (h2 : b ≤ 50) : W.map (fun x => wrap64 (x * b)) = W.map (fun x => x * b) := by
  refine List.map_congr_left fun x hx => ?_
  have h := hP.2.1 x hx
  have h3 : 0 ≤ x * b := Int.mul_nonneg h.1 (by omega)
  have h4 : x * b ≤ 1048576 * b := Int.mul_le_mul_of_nonneg_right h.2 (by omega)
  unfold wrap64
  omega
/-- The scaled weights give an error or the same. -/
theorem scale_cases {W : List Int} {n : Nat} {s b : Int} (hP : WP W (n : Int)) (hb : 1 ≤ b) (h0 : 0 ≤ s) (h1 : s < sumW W) :
    (∃ e : Int, takeP (W.map (fun x => x * b)) (n : Int) (s * b) = ([], e) ∧ e ≠ 0) ∨ takeP (W.map (fun x => x * b)) (n : Int) (s * b) = (tkL W n s, 0) := by
  rcases takeP_cases (W.map (fun x => x * b)) (n : Int) (s * b) with h | ⟨n', e, h, _, hV, _⟩
  · exact .inl h
  · obtain rfl : n = n' := by omega
    exact .inr (by rw [h, tkL_mul (by omega) hP hV h0 h1])

set_option maxRecDepth 100000 in
set_option maxHeartbeats 4000000 in
theorem ppsScale_walk (A : Option Addr) (ca : Nat) (W : List Int) (m s b : Int) (w : World) (hW : IP w A ca W) (hlen : W.length < 17592186044416) :
    Calls Try.prog 7 #[.slice A W.length ca, .int .i64 m, .int .i64 s, .int .i64 b] w fun e w' => e = .returned (.bool true) ∧ Below w.heap.size w w' := by
  have CA := Lib.hid (alive10_any w)
  have hle := hW.le
  have hcap := hW.cap
  have HW := Lib.hid hW
  clear hW
  have hcs : (b < 1 ∧ decide (b < 1) = true) ∨ (50 < b ∧ decide (b < 1) = false ∧ decide (50 < b) = true) ∨ (1073741824 < s ∧ decide (b < 1) = false ∧ decide (50 < b) = false ∧ decide (1073741824 < s) = true) ∨ (s < 0 ∧ decide (b < 1) = false ∧ decide (50 < b) = false ∧ decide (1073741824 < s) = false ∧ decide (s < 0) = true) ∨ ((1 ≤ b ∧ b ≤ 50 ∧ 0 ≤ s ∧ s ≤ 1073741824) ∧ decide (b < 1) = false ∧ decide (50 < b) = false ∧ decide (1073741824 < s) = false ∧ decide (s < 0) = false) := by
    simp only [decide_eq_true_iff, decide_eq_false_iff_not]
    omega
  rcases hcs with ⟨_, d1⟩ | ⟨_, d1, d2⟩ | ⟨_, d1, d2, d3⟩ | ⟨_, d1, d2, d3, d4⟩ | ⟨⟨hb1, hb2, hs1, hs2⟩, d1, d2, d3, d4⟩
  case inr.inr.inr.inr =>
    go_enter Try.func7, Try.ntmps7
    go_wp2_with fail
    refine CA.out.mono ?_
    rintro e w1 ⟨rfl, hb1⟩
    have HB := Lib.hid hb1
    have HW1 := Lib.hid (HW.out.later hb1)
    have CC := Lib.hid (clone_any A ca W w1 HW1.out hlen)
    clear CA hb1 HW
    go_wp2_with fail
    refine CC.out.mono ?_
    rintro e w2 ⟨v, rfl, hO, hb2⟩
    obtain ⟨R, cr, rfl, hRI⟩ := hO.ip
    have hcr := hRI.le
    have hcr2 := hRI.cap
    have HO := Lib.hid hO
    have HB2 := Lib.hid hb2
    clear hO hb2 CC hRI d1 d2 d3 d4
    go_wp2_with fail
    go_loopw [35] (fun iv wr => ∃ k : Nat, k ≤ W.length ∧ iv = .int .i64 k ∧ OI wr w1.heap.size (.slice R W.length cr) (mulTo W b k) ∧ Below w1.heap.size w1 wr) (fun iv _ => W.length - (intOf iv).toNat)
    case atStart => exact ⟨0, by omega, rfl, by rw [mulTo_zero]; exact HO.out, HB2.out⟩
    case round =>
      obtain ⟨k, hk, rfl, hO, hB⟩ := hrel
      have HOr := Lib.hid hO
      have HBr := Lib.hid hB
      clear hO hB HO HB2
      by_cases hlt : k < W.length
      · obtain ⟨g, cap, e, hg, _, hcap1, hcap2, hat, hfz, hO2⟩ := HOr.out.form (mulTo_len W b k) (by omega)
        injection e with e1 _ e3
        subst e1
        subst e3
        have ck := hat k hlt
        rw [mulTo_at hlt] at ck
        have fk := hfz k
        have HO3 : Hid (OI (wr.setCell ⟨g, k, none⟩ (.int .i64 (wrap64 (W.getD k 0 * b)))) w1.heap.size (.slice (some ⟨g, 0, none⟩) W.length cr) (mulTo W b (k + 1))) := by
          show OI _ _ _ _
          rw [← mulTo_set hlt]
          exact hO2.set k _
        have HB3 : Hid (Below w1.heap.size w1 (wr.setCell ⟨g, k, none⟩ (.int .i64 (wrap64 (W.getD k 0 * b))))) := HBr.out.setCell hg _
        clear hat hfz hO2
        generalize W.getD k 0 = x at *
        go_wp2
        go_roundw
        case rel => exact ⟨k + 1, by omega, by go_num, HO3.out, HB3.out⟩
        case measure => simp [intOf]; omega
      · obtain rfl : k = W.length := by omega
        obtain ⟨_, _, e, hIM⟩ := HOr.out.ip
        rw [mulTo_len] at e
        injection e with e1 _ e3
        subst e1
        subst e3
        rw [mulTo_all] at hIM
        have HIM := Lib.hid hIM
        have HWr := Lib.hid (HW1.out.later HBr.out)
        have HBw := Lib.hid (HB.out.trans (HBr.out.mono HB.out.size))
        clear hIM HOr
        have hl2 : Hid ((W.map (fun x => wrap64 (x * b))).length = W.length) := List.length_map _
        have hw2 : WP W m → W.map (fun x => wrap64 (x * b)) = W.map (fun x => x * b) := fun h => wrap_mulP h hb1 hb2
        obtain ⟨y, hy⟩ : ∃ y, s * b = y := ⟨_, rfl⟩
        have hy0 : 0 ≤ y := by rw [← hy]; exact Int.mul_nonneg hs1 (by omega)
        have hy1 : y ≤ 1073741824 * 50 := by rw [← hy]; exact Int.mul_le_mul hs2 hb2 (by omega) (by omega)
        have C1 := Lib.hid (take_any A ca W m s wr HWr.out)
        rcases takeP_cases W m s with ⟨er, h, he⟩ | ⟨n, rfl, h, _, hP, h0, h1, h2⟩
        · rw [h] at C1
          have t1 : (er != 0) = true := ineq_yes he
          clear h he hw2
          generalize hM : W.map (fun x => wrap64 (x * b)) = M at *
          clear hM
          go_wp2_with fail
          refine C1.out.mono ?_
          rintro e w4 ⟨R1, c1, rfl, hA1, hb4⟩
          unfold ltup
          have HB4 := Lib.hid (HBw.out.trans (hb4.mono HBw.out.size))
          have C2 := Lib.hid (take_any R cr M m y w4 (HIM.out.later hb4))
          rw [hl2.out] at C2
          obtain ⟨⟨D, f⟩, hD⟩ : ∃ q, takeP M m y = q := ⟨_, rfl⟩
          rw [hD] at C2
          clear hb4 C1 hA1 hD
          go_wp2_with fail
          refine C2.out.mono ?_
          rintro e w5 ⟨R2, c2, rfl, _, hb5⟩
          unfold ltup
          have HB5 := Lib.hid (HB4.out.trans (hb5.mono HB4.out.size))
          clear hb5 C2
          go_wp2
          go_ret
          exact ⟨rfl, HB5.out⟩
        · rw [h] at C1
          have hsc := scale_cases hP hb1 h1 h2
          rw [← hw2 hP, hy] at hsc
          have hn := hP.2.2
          have hll := tkL_len W n s
          clear h hw2 hP h0 h1 h2
          generalize tkL W n s = L at *
          generalize hM : W.map (fun x => wrap64 (x * b)) = M at *
          clear hM
          have HLL := Lib.hid hll
          clear hll
          go_wp2_with fail
          refine C1.out.mono ?_
          rintro e w4 ⟨R1, c1, rfl, hA1, hb4⟩
          unfold ltup
          have HB4 := Lib.hid (HBw.out.trans (hb4.mono HBw.out.size))
          have C2 := Lib.hid (take_any R cr M (n : Int) y w4 (HIM.out.later hb4))
          rw [hl2.out] at C2
          have HA1 : Hid (IP w4 R1 c1 L) := hA1
          clear hb4 C1 hA1
          rcases hsc with ⟨er, h, he⟩ | h
          · rw [h] at C2
            have t1 : (er != 0) = true := ineq_yes he
            clear h he
            go_wp2_with fail
            refine C2.out.mono ?_
            rintro e w5 ⟨R2, c2, rfl, _, hb5⟩
            unfold ltup
            have HB5 := Lib.hid (HB4.out.trans (hb5.mono HB4.out.size))
            clear hb5 C2
            go_wp2
            go_ret
            exact ⟨rfl, HB5.out⟩
          · rw [h] at C2
            clear h
            go_wp2_with fail
            refine C2.out.mono ?_
            rintro e w5 ⟨R2, c2, rfl, hA2, hb5⟩
            unfold ltup
            have HB5 := Lib.hid (HB4.out.trans (hb5.mono HB4.out.size))
            have hdl : L.length ≤ c2 := hA2.le
            have hdc : c2 ≤ 9223372036854775807 := hA2.cap
            have C6 := Lib.hid (iequal_any R1 R2 c1 c2 L L w5 (HA1.out.later hb5).il hA2.il (by omega) (by omega))
            simp only [decide_true] at C6
            clear hb5 C2 hA2
            go_wp2_with fail
            refine C6.out.mono ?_
            rintro e w6 ⟨rfl, hb6⟩
            have HB6 := Lib.hid (HB5.out.trans (hb6.mono HB5.out.size))
            clear hb6 C6
            go_wp2
            go_ret
            exact ⟨rfl, HB6.out⟩
  all_goals
    go_enter Try.func7, Try.ntmps7
    go_wp2_with fail
    refine CA.out.mono ?_
    rintro e w1 ⟨rfl, hb1⟩
    have HB := Lib.hid hb1
    clear CA hb1 HW
    go_wp2
    go_ret
    exact ⟨rfl, HB.out⟩
end Go.Proofs.Ythfnnceehhhfkaa
