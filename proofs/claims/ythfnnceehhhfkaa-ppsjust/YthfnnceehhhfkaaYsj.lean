/- lotdrawerkeep.PpsJust: the walk. -/
import Derived.Test.YthfnnceehhhfkaaY3
import Derived.Test.YthfnnceehhhfkaaY6
import Derived.Test.YthfnnceehhhfkaaYk
namespace Go.Proofs.Ythfnnceehhhfkaa
open Go.RowKit Go.Deep

theorem drow_step {W : List Int} {m s j k n : Nat} (hk : k < n) (h : ow W (m : Int) (stp (s : Int) (sumW W) j) = (k : Int)) : (rowF n (dT W m s j)).set k (dT W m s j k + 1) = rowF n (dT W m s (j + 1)) := by
  refine rowF_set hk (by rw [dT_step, if_pos h]) fun i _ hi => ?_
  rw [dT_step, if_neg (by rw [h]; omega)]; omega

set_option maxRecDepth 100000 in
set_option maxHeartbeats 4000000 in
theorem ppsJust_walk (A : Option Addr) (ca : Nat) (W : List Int) (m : Int) (w : World) (hW : IP w A ca W) :
    Calls Try.prog 6 #[.slice A W.length ca, .int .i64 m] w fun e w' => e = .returned (.bool true) ∧ Below w.heap.size w w' := by
  have CA := Lib.hid (alive10_any w)
  have hle := hW.le
  have hcap := hW.cap
  have HW := Lib.hid hW
  clear hW
  rcases sumP_two W m with ⟨er, h, he⟩ | ⟨n, rfl, h, hP, h0⟩
  · have t1 : (er != 0) = true := ineq_yes he
    go_enter Try.func6, Try.ntmps6
    go_wp2_with fail
    refine CA.out.mono ?_
    rintro e w1 ⟨rfl, hb1⟩
    have HB1 := Lib.hid hb1
    have C1 := Lib.hid (psum_any A ca W m w1 (HW.out.later hb1))
    rw [h] at C1
    unfold ptup at C1
    clear CA hb1 h he
    go_wp2_with fail
    refine C1.out.mono ?_
    rintro e w2 ⟨rfl, rfl⟩
    clear C1
    go_wp2
    go_ret
    exact ⟨rfl, HB1.out⟩
  · have hn := hP.2.2
    have h4 := hP.1
    have HP := Lib.hid hP
    have hsb := hP.sum
    obtain ⟨S, hS⟩ : ∃ S : Nat, sumW W = S := ⟨(sumW W).toNat, by omega⟩
    have HS := Lib.hid hS
    have HH := Lib.hid h
    rw [hS] at h hsb h0
    have hcs : (300 < S ∧ decide ((300 : Int) < (S : Int)) = true ∧ decide (300 < S) = true) ∨ (20 < n ∧ decide ((300 : Int) < (S : Int)) = false ∧ decide (300 < S) = false ∧ decide ((20 : Int) < (n : Int)) = true ∧ decide (20 < n) = true) ∨ ((S ≤ 300 ∧ n ≤ 20) ∧ decide ((300 : Int) < (S : Int)) = false ∧ decide (300 < S) = false ∧ decide ((20 : Int) < (n : Int)) = false ∧ decide (20 < n) = false) := by
      simp only [decide_eq_true_iff, decide_eq_false_iff_not]
      omega
    clear hS hP
    rcases hcs with ⟨_, d1, d2⟩ | ⟨_, d1, d2, d3, d4⟩ | ⟨⟨hS3, hn2⟩, d1, d2, d3, d4⟩
    case inr.inr =>
      go_enter Try.func6, Try.ntmps6
      go_wp2_with fail
      refine CA.out.mono ?_
      rintro e w1 ⟨rfl, hb1⟩
      have HB1 := Lib.hid hb1
      have HW1 := Lib.hid (HW.out.later hb1)
      have C1 := Lib.hid (psum_any A ca W (n : Int) w1 HW1.out)
      rw [h] at C1
      unfold ptup at C1
      clear CA hb1 h HW
      have hmk := run_make_row' (P := Try.prog) 22 3 (.int .i64 0) 8 Try.underlying22 info_int rfl .i64 .i64 W.length (by omega) (by omega)
      have HZ : Hid (Bs 3 (w1.alloc (.cells (madeCells #[.int .i64 0] W.length) 3)) w1.heap.size (ivs (rowF W.length (dT W n 0 0)))) := by
        show Bs _ _ _ _
        rw [dT_row0]; exact bs_zeros w1 W.length
      have HBZ : Hid (Below w1.heap.size w1 (w1.alloc (.cells (madeCells #[.int .i64 0] W.length) 3))) := (Below.refl _ _).alloc (Nat.le_refl _) _
      have HLT : Hid (w1.heap.size < (w1.alloc (.cells (madeCells #[.int .i64 0] W.length) 3)).heap.size) := by show _ < _; simp
      go_wp2_with fail
      refine C1.out.mono ?_
      rintro e w2 ⟨rfl, rfl⟩
      clear C1
      go_wp2_with fail
      clear hmk d1 d2 d3 d4
      go_loopw [39] (fun iv wr => ∃ a : Nat, a ≤ S ∧ iv = .int .i64 a ∧ Bs 3 wr w1.heap.size (ivs (rowF W.length (dT W n a 0))) ∧ Below w1.heap.size w1 wr ∧ w1.heap.size < wr.heap.size) (fun iv _ => S - (intOf iv).toNat)
      case atStart => exact ⟨0, by omega, rfl, HZ.out, HBZ.out, HLT.out⟩
      case round =>
        clear HZ HBZ HLT
        obtain ⟨a, ha, rfl, hZ, hB, hL⟩ := hrel
        have HZ := Lib.hid hZ
        have HB := Lib.hid hB
        have HL := Lib.hid hL
        clear hZ hB hL
        by_cases hlt : a < S
        · obtain ⟨wI, hwI⟩ : ∃ wI, wI = wr := ⟨_, rfl⟩
          subst hwI
          have ha0 : (0 : Int) ≤ (a : Int) := by omega
          have ha1 : (a : Int) < sumW W := by rw [HS.out]; omega
          have C2 := Lib.hid (take_own A ca W (n : Int) (a : Int) wI (HW1.out.later HB.out))
          rw [takeP_in HH.out ha0 ha1] at C2
          have HMM : Hid (∀ i, i < n → ∃ k : Nat, (tkL W n (a : Int)).getD i 0 = (k : Int) ∧ k < W.length ∧ ow W (n : Int) (stp (a : Int) (sumW W) i) = (k : Int)) := fun i hi => by
            obtain ⟨k, e, b, _⟩ := tkL_mem HP.out ha0 ha1 hi
            exact ⟨k, e, b, by rw [tkL_at hi] at e; exact e⟩
          have hll := tkL_len W n (a : Int)
          generalize tkL W n (a : Int) = L at *
          have hai : (a : Int) < (S : Int) := by omega
          clear ha0 ha1
          go_wp2_with fail
          refine C2.out.mono ?_
          rintro e w3 ⟨v, rfl, hO, hb3⟩
          obtain ⟨R, cr, rfl, hI⟩ := hO.ip
          have hdl : L.length ≤ cr := hI.le
          have hdc : cr ≤ 9223372036854775807 := hI.cap
          dsimp only at hO
          rw [hll] at hdl hO ⊢
          have HLL := Lib.hid hll
          have HO := Lib.hid hO
          have HB3 := Lib.hid (HB.out.trans (hb3.mono HB.out.size))
          have HZ3 : Hid (Bs 3 w3 w1.heap.size (ivs (rowF W.length (dT W n a 0)))) := HZ.out.below hb3 HL.out
          have HL3 : Hid (w1.heap.size < w3.heap.size) := Nat.lt_of_lt_of_le HL.out hb3.size
          clear C2 hO hb3 hI hll HZ HB
          go_wp2_with fail
          go_loopw [53] (fun iv wr => ∃ i : Nat, i ≤ n ∧ iv = .int .i64 i ∧ Bs 3 wr w1.heap.size (ivs (rowF W.length (dT W n a i))) ∧ OI wr wI.heap.size (.slice R n cr) L ∧ Below w1.heap.size w1 wr ∧ w1.heap.size < wr.heap.size) (fun iv _ => n - (intOf iv).toNat)
          case atStart => exact ⟨0, by omega, rfl, HZ3.out, HO.out, HB3.out, HL3.out⟩
          case round =>
            clear HZ3 HO HB3 HL3
            obtain ⟨i, hi, rfl, hZ, hO, hB, hL⟩ := hrel
            have HZ := Lib.hid hZ
            have HO := Lib.hid hO
            have HB := Lib.hid hB
            have HL2 := Lib.hid hL
            clear hZ hO hB hL
            by_cases hli : i < n
            · obtain ⟨k, hk, hkl, hko⟩ := HMM.out i hli
              obtain ⟨b, off, rfl, _, hcell⟩ := (HO.out.ipv HLL.out).il.at (by rw [HLL.out]; omega)
              have hci := hcell i (by rw [HLL.out]; exact hli)
              rw [hk] at hci
              have hce := HZ.out.atI (i := k) (by rw [rowF_len]; exact hkl)
              have hfe := HZ.out.frozen k
              have HZ2 := Lib.hid (HZ.out.setI k (dT W n a i k + 1))
              rw [rowF_at _ hkl] at hce
              rw [drow_step hkl hko] at HZ2
              have hcb := dT_bound W n k a hi
              have hcm : (a : Int) * (n : Int) ≤ 300 * 20 := Int.mul_le_mul (by omega) (by omega) (by omega) (by omega)
              have hcc : 0 ≤ dT W n a i k ∧ dT W n a i k ≤ 7000 := by omega
              have HBn := Lib.hid (HB.out.setCell (p := ⟨w1.heap.size, k, none⟩) (Nat.le_refl _) (.int .i64 (dT W n a i k + 1)))
              have HOn := Lib.hid (HO.out.setLow (a := ⟨w1.heap.size, k, none⟩) HL.out (.int .i64 (dT W n a i k + 1)))
              have HLn : Hid (w1.heap.size < (wr.setCell ⟨w1.heap.size, k, none⟩ (.int .i64 (dT W n a i k + 1))).heap.size) := HZ2.out.lt
              have hki : (k : Int) < (W.length : Int) := by omega
              have t0 : decide ((k : Int) < 0) = false := by rw [decide_eq_false_iff_not]; omega
              have t1 : decide ((W.length : Int) ≤ (k : Int)) = false := by rw [decide_eq_false_iff_not]; omega
              have t2 : decide (W.length ≤ k) = false := by rw [decide_eq_false_iff_not]; omega
              clear hcell hk hko HZ hcb hcm HO
              generalize dT W n a i k = x at *
              go_wp2
              go_roundw
              case rel => exact ⟨i + 1, by omega, by go_num, HZ2.out, HOn.out, HBn.out, HLn.out⟩
              case measure => simp [intOf]; omega
            · obtain rfl : i = n := by omega
              have HZ2 : Hid (Bs 3 wr w1.heap.size (ivs (rowF W.length (dT W i (a + 1) 0)))) := by
                show Bs _ _ _ _
                rw [← rowF_congr (F := dT W i a i) (fun k _ => dT_next W i a k)]; exact HZ.out
              go_wp2
              go_roundw
              case rel => exact ⟨a + 1, by omega, by go_num, HZ2.out, HB.out, HL2.out⟩
              case measure => simp [intOf]; omega
        · obtain rfl : a = S := by omega
          have HWr := Lib.hid (HW1.out.later HB.out)
          have HBE := Lib.hid (HB1.out.trans (HB.out.mono HB1.out.size))
          obtain ⟨M, hM⟩ : ∃ M, (a : Int) * (n : Int) = M := ⟨_, rfl⟩
          have hM0 : 0 ≤ M := by rw [← hM]; exact Int.mul_nonneg (by omega) (by omega)
          have hM1 : M ≤ 300 * 20 := by rw [← hM]; exact Int.mul_le_mul (by omega) (by omega) (by omega) (by omega)
          clear HW1 HB1 HB
          go_wp2_with fail
          go_loop [13, 75] (fun sv kv => ∃ k : Nat, k ≤ W.length ∧ kv = .int .i64 k ∧ sv = .int .i64 (pre W k * n)) (fun _ kv => W.length - (intOf kv).toNat)
          case atStart => exact ⟨0, by omega, rfl, by rw [pre_zero]; simp⟩
          case round =>
            obtain ⟨k, hk, rfl, rfl⟩ := hrel
            by_cases hlk : k < W.length
            · have C3 := Lib.hid (share_any A ca W (n : Int) (k : Int) wr HWr.out)
              rw [shrP_in HH.out hlk] at C3
              unfold ptup at C3
              have hce := HZ.out.atI (i := k) (by rw [rowF_len]; exact hlk)
              rw [rowF_at _ hlk, dT_all HP.out HS.out hlk] at hce
              have hx := HP.out.at k
              have hp := HP.out.bound hk
              have hE : Hid (pre W (k + 1) * (n : Int) = pre W k * n + W.getD k 0 * n) := by show _ = _; rw [pre_succ hlk, Int.add_mul]
              obtain ⟨hp1, hp2⟩ := mul_bound (B := 419430400) hp.1 (by omega) (Int.le_trans (by decide) hn.1) hn.2 (by omega)
              obtain ⟨hx1, hx2⟩ := mul_bound (B := 1048576) hx.1 hx.2 (Int.le_trans (by decide) hn.1) hn.2 (by omega)
              have t1 : (W.getD k 0 * (n : Int) != W.getD k 0 * (n : Int)) = false := ineq_no rfl
              clear hx hp
              generalize W.getD k 0 * (n : Int) = y at *
              generalize pre W k * (n : Int) = p at *
              have hki : (k : Int) < (W.length : Int) := by omega
              go_wp2_with fail
              refine C3.out.mono ?_
              rintro e w5 ⟨rfl, rfl⟩
              clear C3
              go_wp2
              go_round
              case rel => exact ⟨k + 1, by omega, by go_num, by rw [hE.out]⟩
              case measure => simp [intOf]; omega
            · obtain rfl : k = W.length := by omega
              rw [pre_all, HS.out, hM]
              go_wp2
              go_ret
              exact ⟨rfl, HBE.out⟩
    all_goals
      go_enter Try.func6, Try.ntmps6
      go_wp2_with fail
      refine CA.out.mono ?_
      rintro e w1 ⟨rfl, hb1⟩
      have HB1 := Lib.hid hb1
      have C1 := Lib.hid (psum_any A ca W (n : Int) w1 (HW.out.later hb1))
      rw [h] at C1
      unfold ptup at C1
      clear CA hb1 h HH
      go_wp2_with fail
      refine C1.out.mono ?_
      rintro e w2 ⟨rfl, rfl⟩
      clear C1
      go_wp2
      go_ret
      exact ⟨rfl, HB1.out⟩
end Go.Proofs.Ythfnnceehhhfkaa
