/- lotdrawerkeep.AliasJust: the walk. -/
import Derived.Test.YtjhcbjpbmbjgoaaHjm
namespace Go.Proofs.Ytjhcbjpbmbjgoaa
open Go.RowKit Go.Deep

set_option maxRecDepth 100000 in
set_option maxHeartbeats 4000000 in
theorem aliasJust_walk (A : Option Addr) (ca : Nat) (W : List Int) (w : World) (hW : IP w A ca W) :
    Calls Try.prog 5 #[.slice A W.length ca] w fun e w' => e = .returned (.bool true) ∧ Below w.heap.size w w' := by
  have CA := Lib.hid (alive8_any w)
  have hle := hW.le
  have hcap := hW.cap
  have HW := Lib.hid hW
  clear hW
  go_enter Try.func5, Try.ntmps5
  go_wp2_with fail
  refine CA.out.mono ?_
  rintro e w1 ⟨rfl, hb1⟩
  have HB := Lib.hid hb1
  have HW1 := Lib.hid (HW.out.later hb1)
  have CS := Lib.hid (sum_any A ca W w1 (HW.out.later hb1))
  unfold ptup at CS
  clear CA hb1
  rcases sumC_err W with h | h | h
  · have CM := Lib.hid (make_ok A ca W w1 HW1.out h)
    obtain ⟨hR, he, hs0⟩ := sumC_ok h
    rw [he] at CS
    have HR := Lib.hid hR
    have hsl := sumW_le hR.2.2
    have hn4 := hR.2.1
    have hn1 := hR.1
    have hml : Hid ((makeA W).length = W.length) := makeA_len hR.nonneg
    clear h he hs0 hR
    by_cases hbig : 2000 < sumW W
    · go_wp2_with fail
      refine CS.out.mono ?_
      rintro e w2 ⟨rfl, rfl⟩
      clear CS
      go_wp2_with fail
      refine CM.out.mono ?_
      rintro e w3 ⟨R, cr, rfl, hA, hb3⟩
      have HB3 := Lib.hid (HB.out.trans (hb3.mono HB.out.size))
      clear hA hb3 CM HB HW HW1
      go_wp2
      go_ret
      exact ⟨rfl, HB3.out⟩
    · obtain ⟨s, hs⟩ : ∃ s : Nat, sumW W = s := ⟨(sumW W).toNat, by omega⟩
      have HSW := Lib.hid hs
      rw [hs] at CS hsl hbig
      have ds : decide ((2000 : Int) < (s : Int)) = false := by rw [decide_eq_false_iff_not]; exact hbig
      have ds2 : decide (2000 < s) = false := by rw [decide_eq_false_iff_not]; omega
      have hs2 : s ≤ 2000 := by omega
      have hmk := run_make_row' (P := Try.prog) 26 3 (.int .i64 0) 8 Try.underlying26 info_int rfl .i64 .i64 W.length (by omega) (by omega)
      clear hs hbig
      go_wp2_with fail
      refine CS.out.mono ?_
      rintro e w2 ⟨rfl, rfl⟩
      clear CS
      go_wp2_with fail
      refine CM.out.mono ?_
      rintro e w3 ⟨R, cr, rfl, hA, hb3⟩
      have hRle := hA.le
      have hRcap := hA.cap
      rw [hml.out] at hRle
      have hlev : ∀ q, 0 ≤ lev (makeA W) q := fun q => by
        by_cases h : q < W.length
        · exact (tabA HR.out h).1
        · rw [lev_out (by rw [hml.out]; omega)]; exact Int.le_refl _
      have hZ : Bs 3 (w3.alloc (.cells (madeCells #[.int .i64 0] W.length) 3)) w3.heap.size (ivs (rowT (makeA W) s W.length 0 0)) := by
        rw [rowT_zero (hlev 0)]; exact bs_zeros w3 W.length
      have b4 : Below w3.heap.size w3 (w3.alloc (.cells (madeCells #[.int .i64 0] W.length) 3)) := (Below.refl _ _).alloc (Nat.le_refl _) _
      have HLV := Lib.hid hlev
      have HA := Lib.hid hA
      have HZ := Lib.hid hZ
      have HB4 := Lib.hid b4
      have HW3 := Lib.hid (HW1.out.later hb3)
      have HB3 := Lib.hid (HB.out.trans (hb3.mono HB.out.size))
      clear hA hb3 CM HB HW HW1 hZ b4 hlev
      go_wp2_with fail
      clear ds ds2 hmk
      go_loopw [62] (fun iv wr => ∃ p : Nat, p ≤ W.length ∧ iv = .int .i64 p ∧ Bs 3 wr w3.heap.size (ivs (rowT (makeA W) s W.length p 0)) ∧ Below w3.heap.size w3 wr) (fun iv _ => W.length - (intOf iv).toNat)
      case atStart => exact ⟨0, by omega, rfl, HZ.out, HB4.out⟩
      case round =>
        clear HZ HB4
        obtain ⟨p, hp, rfl, hZ, hB⟩ := hrel
        have HZ := Lib.hid hZ
        have HBp := Lib.hid hB
        clear hZ hB
        by_cases hlt : p < W.length
        · obtain ⟨wI, hwI⟩ : ∃ wI, wI = wr := ⟨_, rfl⟩
          subst hwI
          have hip : (p : Int) < (W.length : Int) := by omega
          go_wp2_with fail
          go_loopw [66] (fun iv wr => ∃ t : Nat, t ≤ s ∧ iv = .int .i64 t ∧ Bs 3 wr w3.heap.size (ivs (rowT (makeA W) s W.length p t)) ∧ Below w3.heap.size w3 wr) (fun iv _ => s - (intOf iv).toNat)
          case atStart => exact ⟨0, by omega, rfl, HZ.out, HBp.out⟩
          case round =>
            clear HZ HBp
            obtain ⟨t, ht, rfl, hZ, hB⟩ := hrel
            have HZ := Lib.hid hZ
            have HBt := Lib.hid hB
            clear hZ hB
            by_cases htl : t < s
            · obtain ⟨q1, q2, q3, q4, _, _⟩ := tabA HR.out hlt
              obtain ⟨d, hd⟩ : ∃ d : Nat, (if (t : Int) < lev (makeA W) p then (p : Int) else too (makeA W) p) = (d : Int) := by
                split
                · exact ⟨p, rfl⟩
                · exact ⟨(too (makeA W) p).toNat, by omega⟩
              have hdn : d < W.length := by
                split at hd <;> omega
              have CD := Lib.hid (drawA_any R cr (makeA W) p t wr (HA.out.later HBt.out))
              have hdr : drawA (makeA W) p t = ((d : Int), 0) := by
                unfold drawA
                rw [if_pos (by rw [hml.out]; omega), Int.toNat_natCast, ← hd]
                split <;> rfl
              rw [hdr, hml.out] at CD
              unfold ptup at CD
              have hstep := rowT_step (S := makeA W) (s := s) (n := W.length) (p := p) (t := t) (HLV.out p) hd hdn
              have hce := HZ.out.atI (i := d) (by rw [rowT_len]; exact hdn)
              have hfe := HZ.out.frozen d
              have HZ2 := Lib.hid (HZ.out.setI d ((rowT (makeA W) s W.length p t).getD d 0 + 1))
              rw [hstep] at HZ2
              have hbd : 0 ≤ (rowT (makeA W) s W.length p t).getD d 0 ∧ (rowT (makeA W) s W.length p t).getD d 0 ≤ 1000000 := by
                rw [rowT_at hdn]
                have b1 := fuA_bound (S := makeA W) (s := s) (k := d) (by omega) (p := p) (fun q _ => HLV.out q)
                have b2 := ctA_bound (k := d) (t := t) (HLV.out p) (by omega)
                have b3 : (p : Int) * (s : Int) ≤ 400 * (s : Int) := Int.mul_le_mul_of_nonneg_right (by omega) (by omega)
                omega
              have HBn := Lib.hid (HBt.out.setCell (p := ⟨w3.heap.size, d, none⟩) (Nat.le_refl _) (.int .i64 ((rowT (makeA W) s W.length p t).getD d 0 + 1)))
              have hdi : (d : Int) < (W.length : Int) := by omega
              have dd1 : decide ((W.length : Int) ≤ (d : Int)) = false := by rw [decide_eq_false_iff_not]; omega
              have dd2 : decide (W.length ≤ d) = false := by rw [decide_eq_false_iff_not]; omega
              clear hd hdr hstep q1 q2 q3 q4
              generalize (rowT (makeA W) s W.length p t).getD d 0 = x at *
              have hti : (t : Int) < (s : Int) := by omega
              go_wp2_with fail
              refine CD.out.mono ?_
              rintro e w5 ⟨rfl, rfl⟩
              clear CD
              go_wp2
              go_roundw
              case rel => exact ⟨t + 1, by omega, by go_num, by have := HZ2.out; simpa using this, HBn.out⟩
              case measure => simp [intOf]; omega
            · obtain rfl : t = s := by omega
              have HZ2 : Hid (Bs 3 wr w3.heap.size (ivs (rowT (makeA W) t W.length (p + 1) 0))) := by
                show Bs _ _ _ _
                rw [← rowT_next (fun _ => HLV.out _) (fun q hq => lev_out hq) hml.out]
                exact HZ.out
              go_wp2
              go_roundw
              case rel => exact ⟨p + 1, by omega, by go_num, HZ2.out, HBt.out⟩
              case measure => simp [intOf]; omega
        · obtain rfl : p = W.length := by omega
          have HBw := Lib.hid (HB3.out.trans (HBp.out.mono HB3.out.size))
          go_wp2_with fail
          go_loop [98] (fun iv => ∃ k : Nat, k ≤ W.length ∧ iv = .int .i64 k) (fun iv => W.length - (intOf iv).toNat)
          case atStart => exact ⟨0, by omega, rfl⟩
          case round =>
            obtain ⟨k, hk, rfl⟩ := hrel
            by_cases hlk : k < W.length
            · obtain ⟨b, off, rfl, _, hcell⟩ := (HW3.out.later HBp.out).il.at (by omega)
              have hci := hcell k hlk
              have hce := HZ.out.atI (i := k) (by rw [rowT_len]; exact hlk)
              rw [rowT_at hlk, ctA_zero (HLV.out _), Int.add_zero, ← HSW.out, fuA_all HR.out hlk] at hce
              have hx := HR.out.2.2 _ (memW hlk)
              have hm := mul_bound hx.1 hx.2 hn4
              have hne : (W.getD k 0 * (W.length : Int) != W.getD k 0 * (W.length : Int)) = false := ineq_no rfl
              clear hcell
              generalize W.getD k 0 = x at *
              go_wp2
              go_round
              case rel => exact ⟨k + 1, by omega, by go_num⟩
              case measure => simp [intOf]; omega
            · obtain rfl : k = W.length := by omega
              go_wp2
              go_ret
              exact ⟨rfl, HBw.out⟩
  all_goals
    have CM := Lib.hid (make_err A ca W w1 HW1.out (congrArg Prod.snd h) (by decide))
    rw [h] at CS
    clear h
    go_wp2_with fail
    refine CS.out.mono ?_
    rintro e w2 ⟨rfl, rfl⟩
    clear CS
    go_wp2_with fail
    refine CM.out.mono ?_
    rintro e w3 ⟨R, cr, rfl, hb3⟩
    have HB3 := Lib.hid (HB.out.trans (hb3.mono HB.out.size))
    clear hb3 CM HB HW HW1
    go_wp2
    go_ret
    exact ⟨rfl, HB3.out⟩
end Go.Proofs.Ytjhcbjpbmbjgoaa
