/- lotdrawerkeep.PermEach: the walk. -/
import Derived.Test.YtbchdnmpohnkiaaP9
import Derived.Test.YtbchdnmpohnkiaaP3
import Derived.Test.YtbchdnmpohnkiaaP4
import Derived.Test.YtbchdnmpohnkiaaPg
namespace Go.Proofs.Ytbchdnmpohnkiaa
open Go.RowKit Go.Deep

theorem fact6 {n : Nat} (h : n ≤ 6) : fact n ≤ 720 := by
  have := fact_le h
  rwa [show fact 6 = 720 from rfl] at this
theorem fact_next {k : Nat} (h : 1 ≤ k) : fact k = fact (k - 1) * k := by
  obtain ⟨j, rfl⟩ : ∃ j, k = j + 1 := ⟨k - 1, by omega⟩
  rw [fact, Nat.mul_comm]; rfl

/-- What stands between two rounds. -/
def ERel (w : World) (g n k : Nat) (wr : World) : Prop := Bs 4 wr g (bvs (mk (fact n) (had n k))) ∧ Below w.heap.size w wr

set_option maxRecDepth 100000 in
set_option maxHeartbeats 4000000 in
theorem permEach_walk (n : Int) (w : World) :
    Calls Try.prog 5 #[.int .i64 n] w fun e w' => e = .returned (.bool true) ∧ Below w.heap.size w w' := by
  have CA := Lib.hid (alive4_any w)
  by_cases hout : n < 0 ∨ 6 < n
  · go_enter Try.func5, Try.ntmps5
    go_wp2_with fail
    refine CA.out.mono ?_
    rintro e w1 ⟨rfl, hB1⟩
    have HB := Lib.hid hB1
    clear CA hB1
    by_cases h0 : n < 0
    · go_wp2
      go_ret
      exact ⟨rfl, HB.out⟩
    · have h6 : 6 < n := by omega
      go_wp2
      go_ret
      exact ⟨rfl, HB.out⟩
  · obtain ⟨m, rfl⟩ : ∃ m : Nat, n = (m : Int) := ⟨n.toNat, by omega⟩
    have hm : m ≤ 6 := by omega
    clear hout
    have t1 : decide ((m : Int) < 0) = false := by rw [decide_eq_false_iff_not]; omega
    have t2 : decide ((6 : Int) < (m : Int)) = false := by rw [decide_eq_false_iff_not]; omega
    have t3 : decide (6 < m) = false := by rw [decide_eq_false_iff_not]; omega
    go_enter Try.func5, Try.ntmps5
    go_wp2_with fail
    refine CA.out.mono ?_
    rintro e w1 ⟨rfl, hB1⟩
    have HB := Lib.hid hB1
    clear CA hB1
    go_wp2_with fail
    go_loopw [3, 4] (fun av kv wr => ∃ k : Nat, 2 ≤ k ∧ (k ≤ m + 1 ∨ k = 2) ∧ av = .int .i64 (fact (k - 1) : Nat) ∧ kv = .int .i64 k ∧ wr = w1) (fun _ kv _ => m + 1 - (intOf kv).toNat)
    case atStart => exact ⟨2, by omega, by omega, rfl, rfl, rfl⟩
    case round =>
      obtain ⟨k, hk2, hk, rfl, rfl, rfl⟩ := hrel
      by_cases hlt : k ≤ m
      · have E : Hid (fact (k + 1 - 1) = fact (k - 1) * k) := fact_next (by omega)
        have hf := fact6 (n := k - 1) (by omega)
        have hf2 := fact6 (n := k) (by omega)
        have e3 : fact k = fact (k - 1) * k := fact_next (by omega)
        have e4 : ((fact (k - 1) : Nat) : Int) * (k : Int) = ((fact (k - 1) * k : Nat) : Int) := (Int.natCast_mul _ _).symm
        rw [← e3] at e4
        have E : Hid (fact (k + 1 - 1) = fact k) := rfl
        generalize fact (k - 1) = a at *
        generalize fact k = b at *
        clear e3
        go_wp2
        go_roundw
        case rel => exact ⟨k + 1, by omega, by omega, by rw [E.out], by go_num, trivial⟩
        case measure => simp [intOf]; omega
      · obtain ⟨wa, hwa⟩ : ∃ wa, wa = wr := ⟨_, rfl⟩
        subst hwa
        have hfm : fact (k - 1) = fact m := by
          rcases hk with h | h
          · rw [show k - 1 = m by omega]
          · subst h
            have : m = 0 ∨ m = 1 := by omega
            rcases this with rfl | rfl <;> rfl
        rw [hfm]
        have hf := fact6 hm
        have hmk := run_make_row' (P := Try.prog) 36 4 (.bool false) 1 Try.underlying36 info_bool rfl .i64 .i64 (fact m) (by omega) (by omega)
        have HS : Hid (ERel w wa.heap.size m 0 (wa.alloc (.cells (madeCells #[.bool false] (fact m)) 4))) := by
          refine ⟨?_, HB.out.alloc HB.out.size _⟩
          have := Bs.made 4 wa (.bool false) (fact m)
          rw [show had m 0 = [] from rfl, mk_nil]
          simpa [bvs] using this
        have HZ : Hid (w.heap.size ≤ wa.heap.size) := HB.out.size
        obtain ⟨N, hN⟩ : ∃ N, fact m = N := ⟨_, rfl⟩
        have HN := Lib.hid hN
        rw [hN] at hf hmk HS ⊢
        clear hN hfm HB
        have hmk2 := run_make_row' (P := Try.prog) 22 3 (.int .i64 0) 8 Try.underlying22 info_int rfl .i64 .i64 m (by omega) (by omega)
        go_wp2_with fail
        go_loopw [32] (fun iv wb => ∃ x : Nat, x ≤ N ∧ iv = .int .i64 x ∧ ERel w wa.heap.size m x wb) (fun iv _ => N - (intOf iv).toNat)
        case atStart => exact ⟨0, by omega, rfl, HS.out⟩
        case round =>
          clear HS hmk
          obtain ⟨x, hx, rfl, hR⟩ := hrel
          obtain ⟨wb, hwb⟩ : ∃ wb, wb = wr := ⟨_, rfl⟩
          subst hwb
          have HR := Lib.hid hR
          clear hR
          by_cases hlt2 : x < N
          · have HS2 : Hid (Bs 3 (wb.alloc (.cells (madeCells #[.int .i64 0] m) 3)) wb.heap.size (ivs (dgTo m []))) := by
              have := bs_zeros wb m
              show Bs _ _ _ _
              simpa [dgTo, ints] using this
            have HR2 : Hid (ERel w wa.heap.size m x (wb.alloc (.cells (madeCells #[.int .i64 0] m) 3))) :=
              ⟨HR.out.1.below ((Below.refl _ wb).alloc (Nat.le_refl _) _) HR.out.1.lt, HR.out.2.alloc HR.out.2.size _⟩
            have hg : wa.heap.size < wb.heap.size := HR.out.1.lt
            have HG := Lib.hid hg
            clear hg HR
            go_wp2_with fail
            go_loopw [6, 8] (fun xv kv wc => ∃ (j y : Nat) (k : Int) (s : List Nat), k + 1 = (j : Int) ∧ j + s.length = m ∧ y ≤ 720 ∧ dg m x = dg j y ++ s ∧ xv = .int .i64 y ∧ kv = .int .i64 k ∧ Bs 3 wc wb.heap.size (ivs (dgTo j s)) ∧ ERel w wa.heap.size m x wc) (fun _ kv _ => (intOf kv + 1).toNat)
            case atStart => exact ⟨m, x, (m : Int) - 1, [], by omega, by simp, by omega, by simp, rfl, by go_num, HS2.out, HR2.out⟩
            case round =>
              clear HS2 HR2 hmk2
              obtain ⟨j, y, k, s, hkj, hjs, hy, hdg, rfl, rfl, hb, hR⟩ := hrel
              obtain ⟨wc, hwc⟩ : ∃ wc, wc = wr := ⟨_, rfl⟩
              subst hwc
              have HB := Lib.hid hb
              have HR := Lib.hid hR
              have HD := Lib.hid hdg
              clear hb hR hdg
              by_cases h0 : 0 ≤ k
              · obtain ⟨i, rfl⟩ : ∃ i : Nat, k = (i : Int) := ⟨k.toNat, by omega⟩
                obtain rfl : j = i + 1 := by omega
                have hce := HB.out.atI (i := i) (by rw [dgTo_len]; omega)
                have hfe := HB.out.frozen i
                have E := Lib.hid (HB.out.setI i ((y % (i + 1) : Nat) : Int))
                rw [dgTo_set] at E
                have HD2 := Lib.hid (dg_step HD.out)
                have ER : Hid (ERel w wa.heap.size m x (wc.setCell ⟨wb.heap.size, i, none⟩ (.int .i64 ((y % (i + 1) : Nat) : Int)))) :=
                  ⟨(heap_setCell_other wc ⟨wb.heap.size, i, none⟩ wa.heap.size _ (by have := HG.out; show wa.heap.size ≠ wb.heap.size; omega)).trans HR.out.1, HR.out.2.setCell (p := ⟨wb.heap.size, i, none⟩) (Nat.le_trans HZ.out (Nat.le_of_lt HG.out)) _⟩
                have hq1 : y / (i + 1) ≤ 720 := Nat.le_trans (Nat.div_le_self _ _) hy
                have hq2 : y % (i + 1) ≤ 720 := Nat.le_trans (Nat.mod_le _ _) hy
                generalize (dgTo (i + 1) s).getD i 0 = z at *
                obtain ⟨b, hb⟩ : ∃ b, i + 1 = b := ⟨_, rfl⟩
                have hb0 : b ≠ 0 := by omega
                have hb1 : b ≤ 20 := by omega
                have e1 : (i : Int) + 1 = (b : Int) := by omega
                rw [hb] at hq1 hq2 E HD2 ER
                have e2 : (y : Int).tmod (b : Int) = ((y % b : Nat) : Int) := by rw [Int.ofNat_tmod]
                have e3 : (y : Int).tdiv (b : Int) = ((y / b : Nat) : Int) := by rw [Int.ofNat_tdiv]
                have hz : ((b : Int) == 0) = false := eqz_no hb0
                have hsl : (y % b :: s).length = s.length + 1 := rfl
                generalize y % b = r at *
                generalize y / b = q at *
                clear HB HR HD
                have i1 : (i : Int) < (m : Int) := by omega
                go_wp2
                go_roundw
                case rel => exact ⟨i, q, (i : Int) - 1, r :: s, by omega, by rw [List.length_cons]; omega, hq1, HD2.out, rfl, by go_num, E.out, ER.out⟩
                case measure => simp [intOf]
              · obtain rfl : k = -1 := by omega
                obtain rfl : j = 0 := by omega
                have hsm : s.length = m := by omega
                have hds : dg m x = s := by have := HD.out; simpa [dg] using this
                have hI : IP wc (some ⟨wb.heap.size, 0, none⟩) m (ints (dg m x)) := by
                  have h := HB.out.ip (by rw [dgTo_len]; omega)
                  rw [dgTo_len] at h
                  rw [hds]
                  simpa [dgTo, hsm] using h
                have C1 := Lib.hid (permDeal_any (some ⟨wb.heap.size, 0, none⟩) m (ints (dg m x)) wc hI)
                have hl1 : (ints (dg m x)).length = m := by rw [ints_len, dg_len]
                rw [hl1] at C1
                unfold dealR at C1
                rw [if_pos (dg_ok x (by omega))] at C1
                clear HB HD hds hsm hjs hkj hy h0 hI hl1
                go_wp2_with fail
                refine C1.out.mono ?_
                rintro e w3 ⟨R, cr, rfl, hI3, hB3⟩
                have hI3' : IP w3 R cr (dealt (ints (dg m x))) := hI3
                have C2 := Lib.hid (permRank_any R cr (dealt (ints (dg m x))) w3 hI3')
                unfold rankR at C2
                rw [if_pos (dealt_ok (dg_ok x (by omega))), show rank (dealt (ints (dg m x))) = rk m x from rfl] at C2
                have HB3 := Lib.hid hB3
                clear C1 hI3 hI3' hB3
                unfold ltup
                simp only []
                unfold ptup at C2
                go_wp2_with fail
                refine C2.out.mono ?_
                rintro e w4 ⟨rfl, hB4⟩
                have hB5 : Below wc.heap.size wc w4 := HB3.out.trans (hB4.mono HB3.out.size)
                have hlt := rk_lt m x
                have hnew : ((rk m x : Nat) : Int) ∉ had m x := rk_new hm (k := x) (by rw [HN.out]; exact hlt2)
                rw [HN.out] at hlt
                have hb4 := HR.out.1.below hB5 HR.out.1.lt
                have hBw : Below w.heap.size w w4 := HR.out.2.trans (hB5.mono HR.out.2.size)
                have hce : w4.cell? ⟨wa.heap.size, rk m x, none⟩ = some (.bool false) := by
                  rw [hb4.cell (by rw [bvs_len, mk_len, HN.out]; exact hlt), bvs_at (by rw [mk_len, HN.out]; exact hlt), mk_at _ (by rw [HN.out]; exact hlt), decide_eq_false hnew]
                have hfz := hb4.frozen (rk m x)
                have ER : Hid (ERel w wa.heap.size m (x + 1) (w4.setCell ⟨wa.heap.size, rk m x, none⟩ (.bool true))) := by
                  refine ⟨?_, hBw.setCell (p := ⟨wa.heap.size, rk m x, none⟩) HZ.out _⟩
                  have := hb4.set (rk m x) (.bool true)
                  rwa [bvs_set, mk_set _ (by rw [HN.out]; exact hlt), ← had_succ] at this
                generalize rk m x = r at *
                clear C2 hB4 HB3 hB5 hb4 hBw hnew HR
                have i1 : (r : Int) < (N : Int) := by omega
                have t4 : decide ((r : Int) < 0) = false := by rw [decide_eq_false_iff_not]; omega
                have t5 : decide ((N : Int) ≤ (r : Int)) = false := by rw [decide_eq_false_iff_not]; omega
                have t6 : decide (N ≤ r) = false := by rw [decide_eq_false_iff_not]; omega
                go_wp2
                go_roundw
                case rel => exact ⟨x + 1, by omega, by go_num, ER.out⟩
                case measure => simp [intOf]; omega
          · go_wp2
            go_ret
            exact ⟨rfl, HR.out.2⟩
end Go.Proofs.Ytbchdnmpohnkiaa
