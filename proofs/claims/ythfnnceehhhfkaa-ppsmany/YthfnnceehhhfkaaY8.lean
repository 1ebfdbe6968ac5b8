/- lotdrawerkeep.PpsMany: the walk. -/
import Derived.Test.YthfnnceehhhfkaaY6
import Derived.Test.YthfnnceehhhfkaaPs
namespace Go.Proofs.Ythfnnceehhhfkaa
open Go.RowKit Go.Deep

set_option maxRecDepth 100000 in
set_option maxHeartbeats 4000000 in
theorem ppsMany_walk (A : Option Addr) (ca : Nat) (W : List Int) (m s : Int) (w : World) (hW : IP w A ca W) :
    Calls Try.prog 4 #[.slice A W.length ca, .int .i64 m, .int .i64 s] w fun e w' => e = .returned (.bool true) ∧ Below w.heap.size w w' := by
  have CA := Lib.hid (alive10_any w)
  have hle := hW.le
  have hcap := hW.cap
  have HW := Lib.hid hW
  clear hW
  rcases takeP_cases W m s with ⟨er, h, he⟩ | ⟨n, rfl, h, _, hP, h0, h1, h2⟩
  · have t1 : (er != 0) = true := ineq_yes he
    go_enter Try.func4, Try.ntmps4
    go_wp2_with fail
    refine CA.out.mono ?_
    rintro e w1 ⟨rfl, hb1⟩
    have HB1 := Lib.hid hb1
    have C1 := Lib.hid (take_any A ca W m s w1 (HW.out.later hb1))
    rw [h] at C1
    clear CA hb1 h he
    go_wp2_with fail
    refine C1.out.mono ?_
    rintro e w2 ⟨R, cr, rfl, hD, hb2⟩
    unfold ltup
    have HB2 := Lib.hid (HB1.out.trans (hb2.mono HB1.out.size))
    clear hD hb2 C1
    go_wp2
    go_ret
    exact ⟨rfl, HB2.out⟩
  · have hn := hP.2.2
    have HP := Lib.hid hP
    go_enter Try.func4, Try.ntmps4
    go_wp2_with fail
    refine CA.out.mono ?_
    rintro e w1 ⟨rfl, hb1⟩
    have HB1 := Lib.hid hb1
    have HW1 := Lib.hid (HW.out.later hb1)
    have C1 := Lib.hid (take_any A ca W (n : Int) s w1 HW1.out)
    rw [h] at C1
    clear CA hb1 h hP
    have HMM : Hid (∀ i, i < n → ∃ k : Nat, (tkL W n s).getD i 0 = (k : Int) ∧ k < W.length ∧ 0 < W.getD k 0) := fun i hi => by
      obtain ⟨k, e, a, _, _, b⟩ := tkL_mem HP.out h1 h2 hi
      exact ⟨k, e, a, b⟩
    have HSS : Hid (∀ k, k + 1 < (tkL W n s).length → (tkL W n s).getD k 0 ≤ (tkL W n s).getD (k + 1) 0) := fun k hk => tkL_sorted HP.out h1 h2 (by omega) (by rw [tkL_len] at hk; exact hk)
    have HL := Lib.hid (tkL_len W n s)
    generalize tkL W n s = L at *
    clear h0 h1 h2
    go_wp2_with fail
    refine C1.out.mono ?_
    rintro e w2 ⟨R, cr, rfl, hD, hb2⟩
    unfold ltup
    have HB2 := Lib.hid (HB1.out.trans (hb2.mono HB1.out.size))
    have hdl : L.length ≤ cr := hD.le
    have hdc : cr ≤ 9223372036854775807 := hD.cap
    have HW2 := Lib.hid (HW1.out.later hb2)
    have C2 := Lib.hid (isSorted_any R cr L w2 hD HSS.out)
    have HD : Hid (IP w2 R cr L) := hD
    clear hD hb2 C1
    dsimp only
    rw [HL.out] at hdl C2 ⊢
    go_wp2_with fail
    go_loop [27] (fun iv => ∃ i : Nat, i ≤ n ∧ iv = .int .i64 i) (fun iv => n - (intOf iv).toNat)
    case atStart => exact ⟨0, by omega, rfl⟩
    case round =>
      obtain ⟨i, hi, rfl⟩ := hrel
      by_cases hlt : i < n
      · obtain ⟨k, hk, hkl, hkp⟩ := HMM.out i hlt
        obtain ⟨b, off, rfl, _, hcell⟩ := HD.out.il.at (by rw [HL.out]; omega)
        have hci := hcell i (by rw [HL.out]; exact hlt)
        rw [hk] at hci
        obtain ⟨b2, off2, rfl, _, hcell2⟩ := HW2.out.il.at (by omega)
        have hck := hcell2 k hkl
        have t0 : decide ((k : Int) < 0) = false := by rw [decide_eq_false_iff_not]; omega
        have t1 : decide ((W.length : Int) ≤ (k : Int)) = false := by rw [decide_eq_false_iff_not]; omega
        have t2 : decide (W.length ≤ k) = false := by rw [decide_eq_false_iff_not]; omega
        have t3 : (W.getD k 0 == 0) = false := by rw [beq_eq_false_iff_ne]; omega
        clear hcell hcell2 hk hkp
        generalize W.getD k 0 = x at *
        go_wp2
        go_round
        case rel => exact ⟨i + 1, by omega, by go_num⟩
        case measure => simp [intOf]; omega
      · obtain rfl : i = n := by omega
        go_wp2_with fail
        refine C2.out.mono ?_
        rintro e w4 ⟨rfl, hb4⟩
        have HB4 := Lib.hid (HB2.out.trans (hb4.mono HB2.out.size))
        clear hb4 C2
        go_wp2
        go_ret
        exact ⟨rfl, HB4.out⟩
end Go.Proofs.Ythfnnceehhhfkaa
