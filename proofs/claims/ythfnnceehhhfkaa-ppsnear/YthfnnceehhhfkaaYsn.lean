/- lotdrawerkeep.PpsNear: the walk. -/
import Derived.Test.YthfnnceehhhfkaaY6
import Derived.Test.YthfnnceehhhfkaaYk
namespace Go.Proofs.Ythfnnceehhhfkaa
open Go.RowKit Go.Deep

theorem row_step {W : List Int} {m : Nat} {s : Int} {j k n : Nat} (hk : k < n) (h : ow W (m : Int) (stp s (sumW W) j) = (k : Int)) : (rowF n (cT W m s j)).set k (cT W m s j k + 1) = rowF n (cT W m s (j + 1)) := by
  refine rowF_set hk (by rw [cT, if_pos h]) fun i _ hi => ?_
  rw [cT, if_neg (by rw [h]; omega)]; omega

set_option maxRecDepth 100000 in
set_option maxHeartbeats 4000000 in
theorem ppsNear_walk (A : Option Addr) (ca : Nat) (W : List Int) (m s : Int) (w : World) (hW : IP w A ca W) :
    Calls Try.prog 5 #[.slice A W.length ca, .int .i64 m, .int .i64 s] w fun e w' => e = .returned (.bool true) ∧ Below w.heap.size w w' := by
  have CA := Lib.hid (alive10_any w)
  have hle := hW.le
  have hcap := hW.cap
  have HW := Lib.hid hW
  clear hW
  rcases takeP_cases W m s with ⟨er, h, he⟩ | ⟨n, rfl, h, hs, hP, h0, h1, h2⟩
  · have t1 : (er != 0) = true := ineq_yes he
    go_enter Try.func5, Try.ntmps5
    go_wp2_with fail
    refine CA.out.mono ?_
    rintro e w1 ⟨rfl, hb1⟩
    have HB1 := Lib.hid hb1
    have HW1 := Lib.hid (HW.out.later hb1)
    have C1 := Lib.hid (take_any A ca W m s w1 HW1.out)
    rw [h] at C1
    clear CA hb1 h he
    go_wp2_with fail
    refine C1.out.mono ?_
    rintro e w2 ⟨R, cr, rfl, hD, hb2⟩
    unfold ltup
    have HB2 := Lib.hid (HB1.out.trans (hb2.mono HB1.out.size))
    have C2 := Lib.hid (psum_any A ca W m w2 (HW1.out.later hb2))
    unfold ptup at C2
    generalize sumP W m = z at *
    clear hD hb2 C1
    go_wp2_with fail
    refine C2.out.mono ?_
    rintro e w4 ⟨rfl, rfl⟩
    go_wp2
    go_ret
    exact ⟨rfl, HB2.out⟩
  · have hn := hP.2.2
    have h4 := hP.1
    have HP := Lib.hid hP
    have hsb := hP.sum
    go_enter Try.func5, Try.ntmps5
    go_wp2_with fail
    refine CA.out.mono ?_
    rintro e w1 ⟨rfl, hb1⟩
    have HB1 := Lib.hid hb1
    have HW1 := Lib.hid (HW.out.later hb1)
    have C1 := Lib.hid (take_any A ca W (n : Int) s w1 HW1.out)
    rw [h] at C1
    clear CA hb1 h hP HW
    have H12 := Lib.hid (And.intro h1 h2)
    have HL := Lib.hid (tkL_len W n s)
    have HMM : Hid (∀ i, i < n → ∃ k : Nat, (tkL W n s).getD i 0 = (k : Int) ∧ k < W.length ∧ ow W (n : Int) (stp s (sumW W) i) = (k : Int)) := fun i hi => by
      obtain ⟨k, e, a, _⟩ := tkL_mem HP.out h1 h2 hi
      exact ⟨k, e, a, by rw [tkL_at hi] at e; exact e⟩
    generalize tkL W n s = L at *
    clear h1 h2
    go_wp2_with fail
    refine C1.out.mono ?_
    rintro e w2 ⟨R, cr, rfl, hD, hb2⟩
    unfold ltup
    have HB2 := Lib.hid (HB1.out.trans (hb2.mono HB1.out.size))
    have hdl : L.length ≤ cr := hD.le
    have hdc : cr ≤ 9223372036854775807 := hD.cap
    have HW2 := Lib.hid (HW1.out.later hb2)
    have HD : Hid (IP w2 R cr L) := hD
    have C2 := Lib.hid (psum_any A ca W (n : Int) w2 HW2.out)
    rw [hs] at C2
    unfold ptup at C2
    clear hD hb2 C1 hs HB1 HW1
    dsimp only
    rw [HL.out] at hdl ⊢
    obtain ⟨S, hS⟩ : ∃ S, sumW W = S := ⟨_, rfl⟩
    have HS := Lib.hid hS
    rw [hS] at C2 hsb h0
    clear hS
    go_wp2_with fail
    refine C2.out.mono ?_
    rintro e w3 ⟨rfl, rfl⟩
    clear C2
    have hmk := run_make_row' (P := Try.prog) 22 3 (.int .i64 0) 8 Try.underlying22 info_int rfl .i64 .i64 W.length (by omega) (by omega)
    have HZ : Hid (Bs 3 (w2.alloc (.cells (madeCells #[.int .i64 0] W.length) 3)) w2.heap.size (ivs (rowF W.length (cT W n s 0)))) := by
      show Bs _ _ _ _
      rw [cT_row0]; exact bs_zeros w2 W.length
    have HBZ : Hid (Below w2.heap.size w2 (w2.alloc (.cells (madeCells #[.int .i64 0] W.length) 3))) := (Below.refl _ _).alloc (Nat.le_refl _) _
    go_wp2_with fail
    clear hmk
    go_loopw [45] (fun iv wr => ∃ i : Nat, i ≤ n ∧ iv = .int .i64 i ∧ Bs 3 wr w2.heap.size (ivs (rowF W.length (cT W n s i))) ∧ Below w2.heap.size w2 wr) (fun iv _ => n - (intOf iv).toNat)
    case atStart => exact ⟨0, by omega, rfl, HZ.out, HBZ.out⟩
    case round =>
      clear HZ HBZ
      obtain ⟨i, hi, rfl, hZ, hB⟩ := hrel
      have HZ := Lib.hid hZ
      have HB := Lib.hid hB
      clear hZ hB
      by_cases hlt : i < n
      · obtain ⟨k, hk, hkl, hko⟩ := HMM.out i hlt
        obtain ⟨b, off, rfl, _, hcell⟩ := (HD.out.later HB.out).il.at (by rw [HL.out]; omega)
        have hci := hcell i (by rw [HL.out]; exact hlt)
        rw [hk] at hci
        have hce := HZ.out.atI (i := k) (by rw [rowF_len]; exact hkl)
        have hfe := HZ.out.frozen k
        have HZ2 := Lib.hid (HZ.out.setI k (cT W n s i k + 1))
        rw [rowF_at _ hkl] at hce
        rw [row_step hkl hko] at HZ2
        have hcb := cT_bound W n s k i
        have HBn := Lib.hid (HB.out.setCell (p := ⟨w2.heap.size, k, none⟩) (Nat.le_refl _) (.int .i64 (cT W n s i k + 1)))
        have hki : (k : Int) < (W.length : Int) := by omega
        have t0 : decide ((k : Int) < 0) = false := by rw [decide_eq_false_iff_not]; omega
        have t1 : decide ((W.length : Int) ≤ (k : Int)) = false := by rw [decide_eq_false_iff_not]; omega
        have t2 : decide (W.length ≤ k) = false := by rw [decide_eq_false_iff_not]; omega
        clear hcell hk hko HZ
        generalize cT W n s i k = x at *
        go_wp2
        go_roundw
        case rel => exact ⟨i + 1, by omega, by go_num, HZ2.out, HBn.out⟩
        case measure => simp [intOf]; omega
      · obtain rfl : i = n := by omega
        have HWr := Lib.hid (HW2.out.later HB.out)
        have HBE := Lib.hid (HB2.out.trans (HB.out.mono HB2.out.size))
        clear HW2 HB2 HB HD HMM
        go_wp2_with fail
        go_loop [66] (fun kv => ∃ k : Nat, k ≤ W.length ∧ kv = .int .i64 k) (fun kv => W.length - (intOf kv).toNat)
        case atStart => exact ⟨0, by omega, rfl⟩
        case round =>
          obtain ⟨k, hk, rfl⟩ := hrel
          by_cases hlk : k < W.length
          · obtain ⟨b, off, rfl, _, hcell⟩ := HWr.out.il.at (by omega)
            have hci := hcell k hlk
            have hce := HZ.out.atI (i := k) (by rw [rowF_len]; exact hlk)
            rw [rowF_at _ hlk] at hce
            have hx := HP.out.at k
            have hcb := cT_bound W i s k i
            obtain ⟨hn1, hn2⟩ := cT_near HP.out H12.out.1 H12.out.2 hlk
            rw [HS.out] at hn1 hn2
            obtain ⟨y, hy⟩ : ∃ y, W.getD k 0 * (i : Int) = y := ⟨_, rfl⟩
            have hy0 : 0 ≤ y := by rw [← hy]; exact Int.mul_nonneg hx.1 (by omega)
            have hy1 : y ≤ 1048576 * 400 := by rw [← hy]; exact Int.mul_le_mul hx.2 hn.2 (by omega) (by omega)
            obtain ⟨p, hp⟩ : ∃ p, cT W i s i k * S = p := ⟨_, rfl⟩
            have hp0 : 0 ≤ p := by rw [← hp]; exact Int.mul_nonneg hcb.1 hsb.1
            have hq : (cT W i s i k + 1) * S = p + S := by rw [Int.add_mul, hp, Int.one_mul]
            rw [hy, hp] at hn1
            rw [hy, hq] at hn2
            have t0 : decide (y + S - 1 < p) = false := by rw [decide_eq_false_iff_not]; omega
            have t1 : decide (p + S ≤ y) = false := by rw [decide_eq_false_iff_not]; omega
            clear hcell
            generalize cT W i s i k = c at *
            generalize W.getD k 0 = x at *
            go_wp2
            go_round
            case rel => exact ⟨k + 1, by omega, by go_num⟩
            case measure => simp [intOf]; omega
          · obtain rfl : k = W.length := by omega
            go_wp2
            go_ret
            exact ⟨rfl, HBE.out⟩
end Go.Proofs.Ythfnnceehhhfkaa
