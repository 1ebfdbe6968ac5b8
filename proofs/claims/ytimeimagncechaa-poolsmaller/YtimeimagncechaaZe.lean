/- pool.All. -/
import Derived.Test.YtimeimagncechaaZc
import Derived.Deep.RegionLaw
import Derived.Deep.QuietTactic
import Derived.BigQuiet
import Derived.WalkSmall
namespace Go.Proofs.Ytimeimagncechaa
open Go.RowKit Go.Deep

set_option maxRecDepth 100000 in
set_option maxHeartbeats 4000000 in
theorem poolAll_any (r : Int) (A : Option Addr) (ca : Nat) (l : List Int) (D : Option Addr) (cd : Nat) (ds : List Int) (w : World) (hl : IP w A ca l) (hd : IP w D cd ds) :
    Calls Try.prog 16 #[.int .i64 r, .slice A l.length ca, .slice D ds.length cd] w (PPost w.heap.size w (allR r l ds)) := by
  have C := Lib.hid (new_any r (w.alloc (.cells #[.int .i64 0, .int .i64 0, .slice none 0 0] 24)))
  have HB : Hid (Below w.heap.size w (w.alloc (.cells #[.int .i64 0, .int .i64 0, .slice none 0 0] 24))) := (Below.refl _ _).alloc (Nat.le_refl _) _
  have HQ := Lib.hid (PB.new w 0 0 (.slice none 0 0))
  have hle := hl.le
  have hcap := hl.cap
  have hle2 := hd.le
  have hcap2 := hd.cap
  have HL := Lib.hid hl
  have HD := Lib.hid hd
  clear hl hd
  by_cases h : 1 ≤ r ∧ r ≤ 400
  · rw [show newR r = ((r, 0, []), 0) from if_pos h] at C
    have HR := Lib.hid (pr_new h.1 h.2)
    by_cases hn : l.length = ds.length
    · have E : Hid (allR r l ds = goR r 0 [] l ds) := by
        show allR r l ds = _
        unfold allR; rw [if_neg (by omega), if_neg (by omega)]
      unfold pv at C
      have t1 : ((l.length : Int) != (ds.length : Int)) = false := by rw [hn]; simp
      have HN := Lib.hid hn
      clear h hn
      go_enter Try.func16, Try.ntmps16
      go_wp2_with fail
      refine C.out.mono ?_
      rintro e w1 ⟨rfl, hB1⟩
      have HB1 : Hid (Below w.heap.size w w1) := HB.out.trans (hB1.mono HB.out.size)
      have HQ1 := Lib.hid (HQ.out.later hB1)
      have hlt := Bs.lt HQ1.out
      clear hB1 C HB HQ
      have HP1 := Lib.hid (PB.new w1 r 0 (.slice none 0 0))
      have HB2 : Hid (Below w1.heap.size w1 (w1.alloc (.cells #[.int .i64 r, .int .i64 0, .slice none 0 0] 24))) := (Below.refl _ _).alloc (Nat.le_refl _) _
      go_wp2_with fail
      go_loopw [29] (fun iv wr => ∃ (k : Nat) (v : Value) (xs : List Int), k ≤ l.length ∧ iv = .int .i64 k ∧ PB wr w1.heap.size r k v ∧ OI wr (w1.heap.size + 1) v xs ∧ PR r k xs ∧ goR r 0 [] l ds = goR r k xs (l.drop k) (ds.drop k) ∧ Below w1.heap.size w1 wr) (fun iv _ => l.length - (intOf iv).toNat)
      case atStart => exact ⟨0, _, [], by omega, rfl, HP1.out, OI.nil _ _, HR.out, rfl, HB2.out⟩
      case round =>
        obtain ⟨k, v, xs, hk, rfl, hP, hO, hR, hE, hB⟩ := hrel
        clear HP1 HB2 HR
        obtain ⟨R, cr, rfl⟩ := hO.shape
        obtain ⟨c0, c1, c2, f0, f1, f2⟩ := hP.at
        have HBw : Hid (Below w.heap.size w wr) := HB1.out.trans (hB.mono HB1.out.size)
        have HQr := Lib.hid (HQ1.out.later hB)
        have HPr := Lib.hid hP
        have HOr := Lib.hid hO
        have HPd : Hid (PB wr.drew w1.heap.size r k (.slice R xs.length cr)) := hP
        have HE := Lib.hid hE
        have hsz : w1.heap.size + 1 ≤ wr.drew.heap.size := Bs.lt hP
        have HRr := Lib.hid hR
        have HBr := Lib.hid hB
        clear hP hO hE hB hR
        by_cases hlt2 : k < l.length
        · have hlt3 : k < ds.length := by have := HN.out; omega
          have EG := Lib.hid (HE.out.trans (goR_at (r := r) (c := k) (xs := xs) hlt2 hlt3))
          obtain ⟨b, off, rfl, _, hcl⟩ := (HL.out.later HBw.out).il.at (by omega)
          obtain ⟨b2, off2, rfl, _, hcd⟩ := (HD.out.later HBw.out).il.at (by omega)
          have hc1 := hcl k hlt2
          have hc2 := hcd k hlt3
          clear hcl hcd HE
          obtain ⟨x, hx⟩ : ∃ x, l.getD k 0 = x := ⟨_, rfl⟩
          obtain ⟨d, hdd⟩ : ∃ d, ds.getD k 0 = d := ⟨_, rfl⟩
          rw [hx] at hc1 EG
          rw [hdd] at hc2 EG
          clear hx hdd
          have CP := Lib.hid (put_any r k _ xs x d (w1.heap.size + 1) wr.drew hsz HOr.out.drew HRr.out)
          unfold pv at CP
          have i1 : (k : Int) < (l.length : Int) := by omega
          have i2 : (k : Int) < (ds.length : Int) := by omega
          have hne : w.heap.size ≠ w1.heap.size := by omega
          have hlt1 : w.heap.size < w1.heap.size + 1 := by omega
          have HQd : Hid (PB wr.drew w.heap.size 0 0 (.slice none 0 0)) := HQr.out
          have HBd : Hid (Below w.heap.size w wr.drew) := HBw.out.drew
          clear HQr HPr
          by_cases hf : (k : Int) = 1099511627776
          · rw [putR_full hf] at CP
            rw [if_pos hf] at EG
            unfold pz at CP
            clear hf
            go_wp2_with fail
            go_region_law (first | (go_simp; go_at_call 30; refine CP.out.mono ?_; rintro e w3 ⟨v3, rfl, hO3, hB3⟩; obtain ⟨R3, cr3, rfl⟩ := hO3.shape; have hP3 := HPd.out.below hB3 (Nat.lt_succ_self _); have hQ3 := HQd.out.below hB3 hlt1; obtain ⟨p0, p1, p2, q0, q1, q2⟩ := hP3.at; obtain ⟨d0, d1, d2, g0, g1, g2⟩ := hQ3.at; have HP3 := Lib.hid hP3; have HQ3 := Lib.hid hQ3; have HO3 := Lib.hid hO3; have HB3 := Lib.hid hB3; clear hP3 hO3 hB3 hQ3; unfold pv))
            all_goals
              clear CP c0 c1 c2 f0 f1 f2
              go_wp2
              have hQ4 := ((HQ3.out.other (a := ⟨w1.heap.size, 0, none⟩) hne (.int .i64 0)).other (a := ⟨w1.heap.size, 1, none⟩) hne (.int .i64 0)).other (a := ⟨w1.heap.size, 2, none⟩) hne (.slice R3 0 cr3)
              refine ret_pool rfl rfl rfl (hQ4.store _ _ _) rfl ?_
              rw [E.out, EG.out]
              exact ppost_none (below_store (below_store (HBd.out.trans (HB3.out.mono (by omega))) (by omega) _ _ _) (Nat.le_refl _) _ _ _)
          · rw [if_neg hf] at EG
            by_cases hg : d < 0 ∨ (k : Int) < d
            · rw [putR_bad hf hg] at CP
              rw [if_pos hg] at EG
              unfold pz at CP
              clear hf hg
              go_wp2_with fail
              go_region_law (first | (go_simp; go_at_call 30; refine CP.out.mono ?_; rintro e w3 ⟨v3, rfl, hO3, hB3⟩; obtain ⟨R3, cr3, rfl⟩ := hO3.shape; have hP3 := HPd.out.below hB3 (Nat.lt_succ_self _); have hQ3 := HQd.out.below hB3 hlt1; obtain ⟨p0, p1, p2, q0, q1, q2⟩ := hP3.at; obtain ⟨d0, d1, d2, g0, g1, g2⟩ := hQ3.at; have HP3 := Lib.hid hP3; have HQ3 := Lib.hid hQ3; have HO3 := Lib.hid hO3; have HB3 := Lib.hid hB3; clear hP3 hO3 hB3 hQ3; unfold pv))
              all_goals
                clear CP c0 c1 c2 f0 f1 f2
                go_wp2
                have hQ4 := ((HQ3.out.other (a := ⟨w1.heap.size, 0, none⟩) hne (.int .i64 0)).other (a := ⟨w1.heap.size, 1, none⟩) hne (.int .i64 0)).other (a := ⟨w1.heap.size, 2, none⟩) hne (.slice R3 0 cr3)
                refine ret_pool rfl rfl rfl (hQ4.store _ _ _) rfl ?_
                rw [E.out, EG.out]
                exact ppost_none (below_store (below_store (HBd.out.trans (HB3.out.mono (by omega))) (by omega) _ _ _) (Nat.le_refl _) _ _ _)
            · rw [if_neg hg] at EG
              rw [putR_ok hf (by omega) (by omega)] at CP
              have HR2 := Lib.hid (pr_nx (x := x) (d := d) HRr.out hf)
              have hk1 : k + 1 ≤ l.length := hlt2
              generalize nx r xs x d = ys at *
              clear hf hg
              go_wp2_with fail
              go_region_law (first | (go_simp; go_at_call 30; refine CP.out.mono ?_; rintro e w3 ⟨v3, rfl, hO3, hB3⟩; obtain ⟨R3, cr3, rfl⟩ := hO3.shape; have hP3 := HPd.out.below hB3 (Nat.lt_succ_self _); have hQ3 := HQd.out.below hB3 hlt1; obtain ⟨p0, p1, p2, q0, q1, q2⟩ := hP3.at; obtain ⟨d0, d1, d2, g0, g1, g2⟩ := hQ3.at; have HP3 := Lib.hid hP3; have HQ3 := Lib.hid hQ3; have HO3 := Lib.hid hO3; have HB3 := Lib.hid hB3; clear hP3 hO3 hB3 hQ3; unfold pv))
              all_goals
                clear CP c0 c1 c2 f0 f1 f2
                go_wp2
                go_roundw
                case rel =>
                  refine ⟨k + 1, _, ys, hk1, by go_num, HP3.out.store r ((k + 1 : Nat) : Int) (.slice R3 ys.length cr3), HO3.out.store HP3.out r ((k + 1 : Nat) : Int) (.slice R3 ys.length cr3), by have := HR2.out; simpa using this, by rw [EG.out]; simp, ?_⟩
                  exact below_store (HBr.out.drew.trans (HB3.out.mono (by omega))) (Nat.le_refl _) _ _ _
                case measure => simp [intOf]; omega
        · obtain rfl : k = l.length := by omega
          have EG : Hid (goR r 0 [] l ds = ((r, (l.length : Int), xs), 0)) := HE.out.trans (by rw [List.drop_eq_nil_of_le (Nat.le_refl _), goR_nil])
          have hne : w.heap.size ≠ w1.heap.size := by omega
          obtain ⟨d0, d1, d2, g0, g1, g2⟩ := HQr.out.at
          clear HE
          go_wp2
          refine ret_pool rfl rfl rfl (HQr.out.store _ _ _) rfl ?_
          rw [E.out, EG.out]
          exact ⟨_, rfl, (HOr.out.lower (by omega)).store HQr.out _ _ _, below_store HBw.out (Nat.le_refl _) _ _ _⟩
    · have E : Hid (allR r l ds = (pz, 1)) := by
        show allR r l ds = _
        unfold allR; rw [if_neg (by omega), if_pos hn]
      unfold pv at C
      have t1 : ((l.length : Int) != (ds.length : Int)) = true := by rw [bne_iff_ne]; omega
      clear h hn HR
      go_enter Try.func16, Try.ntmps16
      go_wp2_with fail
      refine C.out.mono ?_
      rintro e w1 ⟨rfl, hB1⟩
      have HB1 : Hid (Below w.heap.size w w1) := HB.out.trans (hB1.mono HB.out.size)
      have HQ1 := Lib.hid (HQ.out.later hB1)
      have hlt := Bs.lt (HQ.out.later hB1)
      obtain ⟨d0, d1, d2, g0, g1, g2⟩ := (HQ.out.later hB1).at
      have hne : w.heap.size ≠ w1.heap.size := by omega
      clear hB1 C HB HQ
      go_wp2
      have hsz := HB1.out.size
      refine ret_pool rfl rfl rfl ((HQ1.out.store 0 0 (.slice none 0 0)).alloc _) rfl ?_
      rw [E.out]
      exact ppost_none ((below_store HB1.out (Nat.le_refl _) _ _ _).alloc (by simp; omega) _)
  · have E : Hid (allR r l ds = (pz, 2)) := by
      show allR r l ds = _
      unfold allR; rw [if_pos (by omega)]
    rw [show newR r = (pz, 2) from if_neg h] at C
    unfold pv pz at C
    clear h
    go_enter Try.func16, Try.ntmps16
    go_wp2_with fail
    refine C.out.mono ?_
    rintro e w1 ⟨rfl, hB1⟩
    have HB1 : Hid (Below w.heap.size w w1) := HB.out.trans (hB1.mono HB.out.size)
    have hlt := Bs.lt (HQ.out.later hB1)
    obtain ⟨d0, d1, d2, g0, g1, g2⟩ := (HQ.out.later hB1).at
    have HQ1 := Lib.hid (HQ.out.later hB1)
    have hne : w.heap.size ≠ w1.heap.size := by omega
    clear hB1 C HB HQ
    go_wp2
    have hsz := HB1.out.size
    refine ret_pool rfl rfl rfl ((HQ1.out.store 0 0 (.slice none 0 0)).alloc _) rfl ?_
    rw [E.out]
    exact ppost_none ((below_store HB1.out (Nat.le_refl _) _ _ _).alloc (by simp; omega) _)
end Go.Proofs.Ytimeimagncechaa
