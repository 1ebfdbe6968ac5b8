/- lotdrawerref.GPools: no more came than there is room. -/
import Derived.Test.YtgmbhlkjnamjhaaJe0
import Derived.Deep.RegionLaw
namespace Go.Proofs.Ytgmbhlkjnamjhaa
open Go.RowKit Go.Deep Go.Maps

set_option maxRecDepth 100000 in
set_option maxHeartbeats 8000000 in
theorem gPools_ge (A B W H : Option Addr) (ka kb wc hc : Nat) (xs ys ws hs : List Int) (w : World) (hA : IP w A ka xs) (hB : IP w B kb ys) (hW : IP w W wc ws) (hH : IP w H hc hs) (hR : ∀ n ∈ hs, -9223372036854775808 ≤ n ∧ n ≤ 9223372036854775807) (N P Q R : Nat) (pa : PR R P xs) (pb : PR R Q ys) (hM : (P : Int) + (Q : Int) = N) (hfull : ¬ (1099511627776 : Int) < N) (hrm : (N : Int) ≤ (R : Int)) (hs1 : N ≤ ws.length) (hs2 : N ≤ hs.length) :
    Calls Try.prog 8 #[pv R P (.slice A xs.length ka), pv R Q (.slice B ys.length kb), .slice W ws.length wc, .slice H hs.length hc] w (PPost w.heap.size w (poolsR R P xs R Q ys ws hs)) := by
  have HJ0 := Lib.hid (JB.new w R P (.slice A xs.length ka) R Q (.slice B ys.length kb))
  have RA : Hid (∀ wx, Calls Try.prog 21 #[pv R P (.slice A xs.length ka)] wx fun e w' => e = .returned (.bool (prB R P xs)) ∧ Below wx.heap.size wx w') := fun wx => fRight_any R P A ka xs wx
  have RB : Hid (∀ wx, Calls Try.prog 21 #[pv R Q (.slice B ys.length kb)] wx fun e w' => e = .returned (.bool (prB R Q ys)) ∧ Below wx.heap.size wx w') := fun wx => fRight_any R Q B kb ys wx
  have HA := Lib.hid hA
  have HB := Lib.hid hB
  have HW := Lib.hid hW
  have HH := Lib.hid hH
  have lw := hW.le
  have lh := hH.le
  have cw := hW.cap
  have ch := hH.cap
  have HR := Lib.hid hR
  have hmm := @run_makeMap Try.prog
  clear hR hA hB hW hH
  unfold pv at *
  have ea : prB R P xs = true := decide_eq_true pa
  have eb : prB R Q ys = true := decide_eq_true pb
  rw [ea] at RA
  rw [eb] at RB
  have hj : JR R P xs R Q ys := ⟨pa, pb, rfl⟩
  have hmin : min (R : Int) (N : Int) = N := by omega
  have HE0 : poolsR R P xs R Q ys ws hs = _ := if_pos hj
  rw [hM, if_neg hfull, hmin, if_neg (by omega), Int.toNat_natCast] at HE0
  have HE3 := Lib.hid HE0
  clear HE0 hmin ea eb hj
  obtain ⟨⟨pa1, pa2⟩, pa3, pa4, pa5⟩ := pa
  obtain ⟨_, pb3, pb4, pb5⟩ := pb
  have xl : xs.length ≤ 400 := by omega
  have yl : ys.length ≤ 400 := by omega
  clear pa5 pb5
  have tne : ((R : Int) != (R : Int)) = false := by simp
  obtain ⟨S0, hSS⟩ : ∃ S, selJ P Q xs ys [] (ws.take N) (hs.take N) = S := ⟨_, rfl⟩
  rw [hSS] at HE3
  have HS := Lib.hid hSS
  clear hSS
  go_enter Try.func8, Try.ntmps8
  go_wp2_with fail
  refine (RA.out _).mono ?_
  rintro e w1 ⟨rfl, hb1⟩
  have HJ1 := Lib.hid (HJ0.out.later hb1)
  clear hb1 HJ0
  obtain ⟨b0, b1, b2, _, _, _⟩ := HJ1.out.b.at
  go_wp2_with fail
  refine (RB.out _).mono ?_
  rintro e w2 ⟨rfl, hb2⟩
  have HJ2 := Lib.hid (HJ1.out.later hb2)
  clear hb2 HJ1 b0 b1 b2
  obtain ⟨a0, a1, a2, _, _, _⟩ := HJ2.out.a.at
  obtain ⟨b0, b1, b2, _, _, _⟩ := HJ2.out.b.at
  obtain ⟨c0, c1, c2, c3, c4, c5⟩ := HJ2.out.c.at
  have hG0 : GR w2.heap.size w2 R N N xs ys ws hs S0 0 P Q 0 0 (fun _ => false) (fun _ => false) (.slice none 0 0) [] _ := ⟨GW.new w2 R N P Q, Nat.zero_le _, by omega, by omega, by omega, by omega, Nat.le_refl _, Nat.le_refl _, rfl, by rw [remX_all, remX_all]; exact HS.out.symm⟩
  have HG0 := Lib.hid hG0
  have HW2 := Lib.hid (HW.out.later HJ2.out.bl)
  have HH2 := Lib.hid (HH.out.later HJ2.out.bl)
  have HA2 := Lib.hid (HA.out.later HJ2.out.bl)
  have HB2 := Lib.hid (HB.out.later HJ2.out.bl)
  have E3 : Hid (poolsR R P xs R Q ys ws hs = ansJ R N S0) := HE3.out
  have hsw : w.heap.size + 1 + 1 < w2.heap.size := HJ2.out.c.lt
  have lxa := HA.out.le
  have lxb := HB.out.le
  have cxa := HA.out.cap
  have cxb := HB.out.cap
  clear hG0 HA HB HW HH RA RB HS HE3
  have hJo := HJ2.out.later ((Below.refl _ _).alloc (Nat.le_refl _) (.cells #[.int .i64 R, .int .i64 N, .slice none 0 0] 24))
  obtain ⟨_, o1, _, _⟩ := hJo.a.at
  obtain ⟨_, o2, _, _⟩ := hJo.b.at
  clear hJo
  have tb1 : decide (ws.length < N) = false := by rw [decide_eq_false_iff_not]; omega
  have tb2 : decide (hs.length < N) = false := by rw [decide_eq_false_iff_not]; omega
  have tb3 : decide ((ws.length : Int) < (N : Int)) = false := by rw [decide_eq_false_iff_not]; omega
  have tb4 : decide ((hs.length : Int) < (N : Int)) = false := by rw [decide_eq_false_iff_not]; omega
  have tb6 : decide ((R : Int) < (N : Int)) = false := by rw [decide_eq_false_iff_not]; omega
  have tb7 : decide (R < N) = false := by rw [decide_eq_false_iff_not]; omega
  have tb5 : decide ((1099511627776 : Int) < (N : Int)) = false := by rw [decide_eq_false_iff_not]; omega
  go_wp2_with fail
  clear tb1 tb2 tb3 tb4 tb5 tb6 tb7
  clear o1 o2
  clear a0 a1 a2 b0 b1 b2 c0 c1 c2 c3 c4 c5
  go_loopw [15] (fun iv wr => ∃ (k : Nat) (na nb : Int) (ka kb : Nat) (Sa Sb : Int → Bool) (hv : Value) (acc : List Int), iv = .int .i64 k ∧ GR w2.heap.size w2 R N N xs ys ws hs S0 k na nb ka kb Sa Sb hv acc wr) (fun iv _ => N - (intOf iv).toNat)
  case atStart => exact ⟨0, _, _, _, _, _, _, _, _, rfl, HG0.out⟩
  case round =>
    clear HG0 hmm
    obtain ⟨k, na, nb, na2, nb2, Sa, Sb, hv, acc, rfl, hG⟩ := hrel
    obtain ⟨wo, hwo⟩ : ∃ wo, wo = wr := ⟨_, rfl⟩
    subst hwo
    obtain ⟨RH, crh, rfl⟩ := hG.g.h.shape
    have HG := Lib.hid hG
    have hk := hG.kl
    have na0 := hG.a0
    have na1 := hG.a1
    have nb0 := hG.b0
    have nb1 := hG.b1
    have ka1 := hG.ka
    have kb1 := hG.kb
    have hwz := hG.g.size
    clear hG
    by_cases hlt : k < N
    · have e1 := selJ_at (na := na) (nb := nb) (xs := remX xs Sa) (ys := remX ys Sb) (acc := acc) (ds := ws.take N) (hs := hs.take N) (k := k) (by rw [List.length_take]; omega) (by rw [List.length_take]; omega)
      have hE := HG.out.e
      rw [e1, getD_take hlt, getD_take hlt] at hE
      clear e1
      obtain ⟨wb, woff, rfl, _, _⟩ := HW2.out.il.at (by omega)
      obtain ⟨hb, hoff, rfl, _, _⟩ := HH2.out.il.at (by omega)
      have hrange := HR.out (hs.getD k 0) (by rw [List.getD_eq_getElem?_getD, List.getElem?_eq_getElem (by omega)]; exact List.getElem_mem _)
      obtain ⟨d, hd⟩ : ∃ d, ws.getD k 0 = d := ⟨_, rfl⟩
      obtain ⟨h, hh⟩ : ∃ h, hs.getD k 0 = h := ⟨_, rfl⟩
      rw [hd, hh] at hE
      rw [hh] at hrange
      have HF : Hid (∀ wx, Below wo.heap.size wo wx → (wx.cell? ⟨wb, woff + k, none⟩ = some (.int .i64 d) ∧ wx.cell? ⟨hb, hoff + k, none⟩ = some (.int .i64 h)) ∧ JB w R P (.slice A xs.length ka) R Q (.slice B ys.length kb) wx ∧ GW w2.heap.size w2 R N na nb na2 nb2 Sa Sb (.slice RH acc.length crh) acc wx) := fun wx hx => by
        have g2 := HG.out.g.later hx
        refine ⟨⟨?_, ?_⟩, HJ2.out.later g2.bl, g2⟩
        · obtain ⟨b', o', e', _, hc'⟩ := (HW2.out.later g2.bl).il.at (by omega)
          cases e'
          rw [hc' k (by omega), hd]
        · obtain ⟨b', o', e', _, hc'⟩ := (HH2.out.later g2.bl).il.at (by omega)
          cases e'
          rw [hc' k (by omega), hh]
      have HDH := Lib.hid (And.intro hd hh)
      clear hd hh
      have hki : (k : Int) < (ws.length : Int) := by omega
      have hki2 : (k : Int) < (hs.length : Int) := by omega
      have hkn : (k : Int) < (N : Int) := by omega
      have wsum : IntKind.i64.wrap (na + nb) = na + nb := IntWalk.i64_in _ (by omega)
      obtain ⟨⟨t1, t2⟩, hJr, hGr⟩ := HF.out wo (Below.refl _ _)
      obtain ⟨⟨l0, l1, _, _⟩, _⟩ := hGr.at
      clear hJr hGr
      by_cases hbad : d < 0 ∨ na + nb ≤ d
      · have E : Hid (poolsR R P xs R Q ys ws hs = (pz, 2)) := by
          show _ = _
          rw [E3.out, hE, if_pos hbad]
          rfl
        clear hE
        rcases (show d < 0 ∨ (0 ≤ d ∧ na + nb ≤ d) by omega) with hx | ⟨hx, hx2⟩
        all_goals
          clear hbad
          go_wp2_with fail
          go_quiet (fail)
          obtain ⟨_, hJq, _⟩ := HF.out _ (below_drewN (Below.refl _ wo) nq)
          generalize wo.drewN nq = wq at *
          obtain ⟨c0, c1, c2, c3, c4, c5⟩ := hJq.c.at
          have HJq := Lib.hid hJq
          clear hJq t1 t2 l0 l1
          go_wp2
          have hr := ret_err2 HJq.out E.out
          exact ret_pool (p := 8) (u := 9) rfl rfl rfl hr.1 rfl hr.2
      · rw [if_neg hbad] at hE
        have hd0 : 0 ≤ d := by omega
        have hd1 : d < na + nb := by omega
        clear hbad
        by_cases hda : d < na
        · rw [if_pos hda] at hE
          have hkap : na ≥ 1 := by omega
          go_wp2_with fail
          go_quiet (fail)
          obtain ⟨⟨u1, u2⟩, hJq, hGq⟩ := HF.out _ (below_drewN (Below.refl _ wo) nq)
          have hwq : Below wo.heap.size wo (wo.drewN nq) := below_drewN (Below.refl _ wo) nq
          generalize wo.drewN nq = wq at *
          obtain ⟨a0, a1, a2, _⟩ := hJq.a.at
          obtain ⟨b0, b1, b2, _⟩ := hJq.b.at
          have hwa := hwq.alloc hwq.size (.cells #[.int .i64 R, .int .i64 P, .slice A xs.length ka] 24)
          have hpA := PB.new wq R P (.slice A xs.length ka)
          have hpq : w2.heap.size + 5 ≤ wq.heap.size := hGq.size
          have hqo : wo.heap.size ≤ wq.heap.size := hwq.size
          clear hJq hGq t1 t2 l0 l1 u1 u2
          go_wp2_with fail
          obtain ⟨⟨t1, t2⟩, _, hGq⟩ := HF.out _ hwa
          obtain ⟨⟨l0, l1, _, _⟩, _⟩ := hGq.at
          clear hGq
          have HWA := Lib.hid hwa
          have HPA := Lib.hid hpA
          have hlp : wq.heap.size < (wq.alloc (.cells #[.int .i64 R, .int .i64 P, .slice A xs.length ka] 24)).heap.size := Bs.lt hpA
          clear hwa hpA hwq a0 a1 a2
          go_quiet (fail)
          have hwz : Below wo.heap.size wo ((wq.alloc (.cells #[.int .i64 R, .int .i64 P, .slice A xs.length ka] 24)).drewN nq) := below_drewN HWA.out nq
          have hpz : PB ((wq.alloc (.cells #[.int .i64 R, .int .i64 P, .slice A xs.length ka] 24)).drewN nq) wq.heap.size R P (.slice A xs.length ka) := HPA.out.later (below_drewN (Below.refl _ _) nq)
          generalize (wq.alloc (.cells #[.int .i64 R, .int .i64 P, .slice A xs.length ka] 24)).drewN nq = wz at *
          clear t1 t2 l0 l1 HWA HPA hlp b0 b1 b2
          obtain ⟨⟨t1, t2⟩, hJz, hGz⟩ := HF.out _ hwz
          obtain ⟨⟨l0, l1, f0, f1⟩, ⟨g0, g1⟩, _⟩ := hGz.at
          have HLK : Hid (∀ i : Nat, i < 1000 → (Instr.lookup 50 (.map (some (w2.heap.size + 1 + 1))) (.int .i64 (i : Int)) false).run Try.prog wz = .ok (.bool (Sa i)) wz) := fun i hi => hGz.ma.look (key_wf (by omega))
          obtain ⟨c0, c1, c2, c3, c4, c5⟩ := hJz.c.at
          have HJz := Lib.hid hJz
          have HGz := Lib.hid hGz
          have hp2 := hpz.at.2.2.1
          have HPz := Lib.hid hpz
          clear hJz hGz hpz
          go_wp2_with fail
          clear c0 c1 c2 c3 c4 c5
          go_loopw [18, 19, 117] (fun av sv iv wx => ∃ (i : Nat) (z : Int), i ≤ xs.length ∧ av = .int .i64 (atR i Sa h) ∧ sv = .int .i64 z ∧ SkZ h (rem i Sa).length z ∧ iv = .int .i64 i ∧ wx = wz) (fun _ _ iv _ => xs.length - (intOf iv).toNat)
          case atStart => exact ⟨0, h, Nat.zero_le _, by rw [atR_zero], rfl, ⟨hrange.1, hrange.2, .inl (by rw [rem_zero]; simp)⟩, rfl, rfl⟩
          case round =>
            obtain ⟨i, z, hi, rfl, rfl, hZ, rfl, rfl⟩ := hrel
            have hrl := rem_len i Sa
            have z0r := hZ.1
            have z1r := hZ.2.1
            by_cases hlt2 : i < xs.length
            · have hlk := HLK.out i (by omega)
              have hil2 : (i : Int) < (xs.length : Int) := by omega
              cases hSa : Sa i with
              | true =>
                rw [hSa] at hlk
                have HR1 := Lib.hid (atR_in (h := h) hSa)
                have HR2 := Lib.hid (rem_in hSa)
                have HZ := Lib.hid hZ
                clear hSa hZ
                generalize atR i Sa h = at0 at *
                go_wp2
                go_roundw
                case rel => exact ⟨i + 1, z, hlt2, by rw [HR1.out], rfl, by rw [HR2.out]; exact HZ.out, by go_num, by first | rfl | trivial⟩
                case measure => simp [intOf]; omega
              | false =>
                rw [hSa] at hlk
                have hr1 := rem_succ_len hSa
                have hz0 := hZ.zero hrange (by omega)
                by_cases hz : z = 0
                · have HR1 := Lib.hid (atR_hit hSa (hz0.1 hz))
                  have HZ : Hid (SkZ h (rem (i + 1) Sa).length (-1)) := ⟨by omega, by omega, .inl (by rw [hr1]; have := hz0.1 hz; omega)⟩
                  subst hz
                  clear hSa hZ hr1 hz0 hrl
                  generalize atR i Sa h = at0 at *
                  go_wp2
                  go_roundw
                  case rel => exact ⟨i + 1, -1, hlt2, by rw [HR1.out], rfl, HZ.out, by go_num, by first | rfl | trivial⟩
                  case measure => simp [intOf]; omega
                · have HR1 := Lib.hid (atR_miss hSa (fun e => hz (hz0.2 e)))
                  have tz : (z == 0) = false := by simp [hz]
                  by_cases hm : z = -9223372036854775808
                  · have HZ : Hid (SkZ h (rem (i + 1) Sa).length 9223372036854775807) := ⟨by omega, by omega, .inr (by rw [hr1]; obtain ⟨_, _, h3 | h3⟩ := hZ <;> omega)⟩
                    subst hm
                    clear hSa hZ hr1 hz0 hrl
                    generalize atR i Sa h = at0 at *
                    go_wp2
                    go_roundw
                    case rel => exact ⟨i + 1, 9223372036854775807, hlt2, by rw [HR1.out], by (have e : wrap64 (-9223372036854775809) = 9223372036854775807 := by decide +kernel); rw [e], HZ.out, by go_num, by first | rfl | trivial⟩
                    case measure => simp [intOf]; omega
                  · have HZ : Hid (SkZ h (rem (i + 1) Sa).length (z - 1)) := ⟨by omega, by omega, by rw [hr1]; obtain ⟨_, _, h3 | h3⟩ := hZ <;> omega⟩
                    clear hSa hZ hr1 hz0 hrl
                    have hzm : -9223372036854775808 < z := by omega
                    generalize atR i Sa h = at0 at *
                    go_wp2
                    go_roundw
                    case rel => exact ⟨i + 1, z - 1, hlt2, by rw [HR1.out], rfl, HZ.out, by go_num, by first | rfl | trivial⟩
                    case measure => simp [intOf]; omega
            · obtain rfl : i = xs.length := by omega
              have hrx := remX_len xs Sa
              by_cases hbh : h < 0 ∨ ((remX xs Sa).length : Int) ≤ h
              · have E : Hid (poolsR R P xs R Q ys ws hs = (pz, 2)) := by
                  show _ = _
                  rw [E3.out, hE, if_pos hbh]
                  rfl
                have hat := atR_bad (n := xs.length) (S := Sa) (h := h) (by rw [← hrx]; exact hbh)
                rw [hat]
                obtain ⟨c0, c1, c2, c3, c4, c5⟩ := HJz.out.c.at
                clear hat hE hZ
                go_wp2
                have hr := ret_err2 HJz.out E.out
                exact ret_pool (p := 8) (u := 9) rfl rfl rfl hr.1 rfl hr.2
              · rw [if_neg hbh] at hE
                obtain ⟨j, rfl⟩ : ∃ j : Nat, h = j := ⟨h.toNat, by omega⟩
                have hj : j < (rem xs.length Sa).length := by omega
                rw [Int.toNat_natCast, remX_at hj, ← remX_put hj] at hE
                have hat := atR_ok hj
                have hqn := rem_lt hj
                obtain ⟨q, hq⟩ : ∃ q, (rem xs.length Sa).getD j 0 = q := ⟨_, rfl⟩
                rw [hq] at hat hqn hE
                rw [hat]
                obtain ⟨y, hy⟩ : ∃ y, xs.getD q 0 = y := ⟨_, rfl⟩
                rw [hy] at hE
                have HE := Lib.hid hE
                have HY := Lib.hid hy
                clear hat hE hZ hbh hrx hq hy
                obtain ⟨wz, hwzz⟩ : ∃ wz, wz = wr := ⟨_, rfl⟩
                subst hwzz
                go_wp2_with (at_mapUpdate; refine wpList_setM rfl _ _ _ rfl (w2.heap.size + 1 + 1) na2 Sa (q : Int) rfl rfl rfl (key_wf (by omega)) HGz.out.ma (by omega) ?_; intro w5 hM5 hg5; have hG5 := HGz.out.putA hM5 hg5; obtain ⟨⟨m0, m1, n0, n1⟩, _⟩ := hG5.at; have HG5 := Lib.hid hG5; have HP5 : Hid (PB w5 wq.heap.size R P (.slice A xs.length ka)) := (hg5.block _ HPz.out.lt (fun e => by injection e; omega)).trans HPz.out; clear hM5 hg5 hG5)
                have HG6 := Lib.hid (HG5.out.setA (na - 1))
                have HP6 := Lib.hid (HP5.out.other (a := ⟨w2.heap.size + 1, 0, none⟩) (by show wq.heap.size ≠ w2.heap.size + 1; omega) (.int .i64 (na - 1)))
                have hc5 : ∀ wx, wx = w5.setCell ⟨w2.heap.size + 1, 0, none⟩ (.int .i64 (na - 1)) → True := fun _ _ => trivial
                generalize w5.setCell ⟨w2.heap.size + 1, 0, none⟩ (.int .i64 (na - 1)) = w6 at *
                clear hc5 m0 m1 n0 n1 HG5 HP5 t1 t2 l0 l1 f0 f1 g0 g1 hp2
                obtain ⟨_, _, o2, of2⟩ := HG6.out.at
                obtain ⟨_, _, p2, _⟩ := HP6.out.at
                obtain ⟨ab, aoff, eA, halt, hac⟩ := (HA2.out.later HG6.out.bl).il.at (by omega)
                have hel := hac q hqn
                rw [HY.out] at hel
                subst eA
                obtain ⟨i0, hi0, hzz0, hzz1, hzz2⟩ := info_parts info_int
                have hqi : (q : Int) < (xs.length : Int) := by omega
                have hq0 : (0 : Int) ≤ (q : Int) := by omega
                have hal : acc.length ≤ 400 := by rw [HG.out.l]; omega
                have hs6 := HG6.out.size
                have n2 := World.new_ne w6 ⟨wq.heap.size, 2, none⟩ p2
                have n3 := World.new_ne w6 ⟨ab, aoff + q, none⟩ hel
                have n4 := World.new_ne w6 ⟨w2.heap.size, 2, none⟩ o2
                clear hac n2 n3 n4
                have HO6 : Hid (OI w6.drew (w2.heap.size + 5) (.slice RH acc.length crh) acc) := HG6.out.h
                have HG7 : Hid (GW w2.heap.size w2 R N (na - 1) nb (na2 + 1) nb2 (fun z => z == (q : Int) || Sa z) Sb (.slice RH acc.length crh) acc w6.drew) := HG6.out.later (Below.refl _ _).drew
                have HEE : Hid (∀ u wx, GW w2.heap.size w2 R N (na - 1) nb (na2 + 1) nb2 (fun z => z == (q : Int) || Sa z) Sb u (acc ++ [y]) wx → GR w2.heap.size w2 R N N xs ys ws hs S0 (k + 1) (na - 1) nb (na2 + 1) nb2 (fun z => z == (q : Int) || Sa z) Sb u (acc ++ [y]) wx) := fun u wx hx => ⟨hx, by omega, by omega, by omega, by omega, by omega, by omega, by omega, by rw [List.length_append, HG.out.l]; rfl, HE.out⟩
                have hab : ab < w2.heap.size := by
                  obtain ⟨b', o', e', hb', _⟩ := HA2.out.il.at (by omega)
                  cases e'
                  exact hb'
                have HP7 : Hid (PB w6.drew wq.heap.size R P (.slice (some ⟨ab, aoff, none⟩) xs.length ka)) := HP6.out
                have HEL : Hid (w6.drew.cell? ⟨ab, aoff + q, none⟩ = some (.int .i64 y)) := hel
                have HK1 : Hid ((w6.alloc (.cells #[.int .i64 y] 3)).drew.cell? ⟨wq.heap.size, 2, none⟩ = some (.slice (some ⟨ab, aoff, none⟩) xs.length ka) ∧ (w6.alloc (.cells #[.int .i64 y] 3)).drew.cell? ⟨ab, aoff + q, none⟩ = some (.int .i64 y)) := ⟨(HP6.out.alloc _).at.2.2.1, (World.cell?_of_block (Below.heap_alloc _ _ _ (by omega))).trans hel⟩
                have o2a : (w6.alloc (.cells #[.int .i64 y] 3)).drew.cell? ⟨w2.heap.size, 2, none⟩ = some (.slice RH acc.length crh) := (HG6.out.o.alloc _).at.2.2.1
                have HO6a : Hid (OI (w6.alloc (.cells #[.int .i64 y] 3)).drew (w2.heap.size + 5) (.slice RH acc.length crh) acc) := (HG6.out.h.alloc _).drew
                have ne1 : wq.heap.size ≠ w2.heap.size := by omega
                have ne2 : ab ≠ w2.heap.size := by omega
                have HN := Lib.hid (And.intro ne1 ne2)
                clear HF HLK HJz HGz HPz HG6 HP6 HW2 HH2 HA2 HB2 HJ2 E3 HE HY HDH HR wsum of2 z0r z1r hrl ne1 ne2
                clear lxa lxb cxa cxb xl yl hrange hd0 hd1 na0 na1 nb0 nb1 ka1 kb1 hqn hwz
                obtain ⟨k1a, k1b⟩ := HK1.out
                have p2d : w6.drew.cell? ⟨wq.heap.size, 2, none⟩ = _ := HP7.out.at.2.2.1
                have eld := HEL.out
                have o2d : w6.drew.cell? ⟨w2.heap.size, 2, none⟩ = _ := o2
                go_region_law ((refine step_append_lies _ (by rfl) _ _ _ (by rfl) (w2.heap.size + 5) 3 i0 (.int .i64 0) 1 8 Try.underlying22 hi0 hzz0 hzz1 hzz2 rfl (by omega) (.slice RH acc.length crh) acc.length (ivs acc) (by rfl) HO6a.out ⟨w6.heap.size, 0, none⟩ 1 1 [.int .i64 y] (by rfl) (by rfl) (World.news_of_block (cs := #[.int .i64 y]) (t := 3) (fr := (0, 0)) (heap_alloc_new w6 _)) (by simp [Value.oneCell']) (by omega) (by unfold maxLen; omega) (by omega) (by have := HG7.out.size; simp; omega) (w6.heap.size + 1) (by simp) ?_; intro gg cap w7 hown hgrow0 hat hlt7; obtain ⟨hO7, hP7, r2, r3, hK3, hG8⟩ := gpush HG7.out HP7.out HEL.out HN.out hab hown hgrow0; obtain ⟨q0, q1, q2, y0, y1, y2⟩ := hP7.at; have HK3 := Lib.hid hK3; have HG8 := Lib.hid (HEE.out _ _ hG8); clear hown hgrow0 hat hO7 hP7 hK3 hG8))
                all_goals
                  go_wp2
                  go_roundw
                  case rel => exact ⟨k + 1, _, _, _, _, _, _, _, _, by go_num, HG8.out⟩
                  case measure => simp [intOf]; omega
        · rw [if_neg hda] at hE
          have hda2 : na ≤ d := by omega
          clear hda
          have hkap : nb ≥ 1 := by omega
          go_wp2_with fail
          go_quiet (fail)
          obtain ⟨⟨u1, u2⟩, hJq, hGq⟩ := HF.out _ (below_drewN (Below.refl _ wo) nq)
          have hwq : Below wo.heap.size wo (wo.drewN nq) := below_drewN (Below.refl _ wo) nq
          generalize wo.drewN nq = wq at *
          obtain ⟨a0, a1, a2, _⟩ := hJq.a.at
          obtain ⟨b0, b1, b2, _⟩ := hJq.b.at
          have hwa := hwq.alloc hwq.size (.cells #[.int .i64 R, .int .i64 P, .slice A xs.length ka] 24)
          have hpA := PB.new wq R P (.slice A xs.length ka)
          have hpq : w2.heap.size + 5 ≤ wq.heap.size := hGq.size
          have hqo : wo.heap.size ≤ wq.heap.size := hwq.size
          clear hJq hGq t1 t2 l0 l1 u1 u2
          go_wp2_with fail
          obtain ⟨⟨t1, t2⟩, _, hGq⟩ := HF.out _ hwa
          obtain ⟨⟨l0, l1, _, _⟩, _⟩ := hGq.at
          clear hGq
          have HWA := Lib.hid hwa
          have HPA := Lib.hid hpA
          have hlp : wq.heap.size < (wq.alloc (.cells #[.int .i64 R, .int .i64 P, .slice A xs.length ka] 24)).heap.size := Bs.lt hpA
          clear hwa hpA hwq a0 a1 a2
          go_quiet (fail)
          have hwi : Below wo.heap.size wo ((wq.alloc (.cells #[.int .i64 R, .int .i64 P, .slice A xs.length ka] 24)).drewN nq) := below_drewN HWA.out nq
          have hpi : PB ((wq.alloc (.cells #[.int .i64 R, .int .i64 P, .slice A xs.length ka] 24)).drewN nq) wq.heap.size R P (.slice A xs.length ka) := HPA.out.later (below_drewN (Below.refl _ _) nq)
          generalize (wq.alloc (.cells #[.int .i64 R, .int .i64 P, .slice A xs.length ka] 24)).drewN nq = wi at *
          clear t1 t2 l0 l1 HWA HPA hlp b0 b1 b2
          obtain ⟨b0, b1, b2, _⟩ := (HF.out wi hwi).2.1.b.at
          obtain ⟨p0, p1, p2, v0, v1, v2⟩ := hpi.at
          have hwz := ((hwi.setCell (p := ⟨wq.heap.size, 0, none⟩) hqo (.int .i64 R)).setCell (p := ⟨wq.heap.size, 1, none⟩) hqo (.int .i64 Q)).setCell (p := ⟨wq.heap.size, 2, none⟩) hqo (.slice B ys.length kb)
          have hpz := hpi.store R Q (.slice B ys.length kb)
          have HWI := Lib.hid hwi
          clear hpi hwi
          obtain ⟨⟨t1, t2⟩, hJz, hGz⟩ := HF.out _ hwz
          obtain ⟨⟨l0, l1, f0, f1⟩, ⟨g0, g1⟩, _⟩ := hGz.at
          have HLK : Hid (∀ i : Nat, i < 1000 → (Instr.lookup 50 (.map (some (w2.heap.size + 1 + 1 + 1))) (.int .i64 (i : Int)) false).run Try.prog (((wi.setCell ⟨wq.heap.size, 0, none⟩ (.int .i64 R)).setCell ⟨wq.heap.size, 1, none⟩ (.int .i64 Q)).setCell ⟨wq.heap.size, 2, none⟩ (.slice B ys.length kb)) = .ok (.bool (Sb i)) (((wi.setCell ⟨wq.heap.size, 0, none⟩ (.int .i64 R)).setCell ⟨wq.heap.size, 1, none⟩ (.int .i64 Q)).setCell ⟨wq.heap.size, 2, none⟩ (.slice B ys.length kb))) := fun i hi => hGz.mb.look (key_wf (by omega))
          obtain ⟨c0, c1, c2, c3, c4, c5⟩ := hJz.c.at
          have HJz := Lib.hid hJz
          have HGz := Lib.hid hGz
          have hp2 := hpz.at.2.2.1
          have HPz := Lib.hid hpz
          clear hJz hGz hpz
          go_wp2_with fail
          clear c0 c1 c2 c3 c4 c5
          generalize ((wi.setCell ⟨wq.heap.size, 0, none⟩ (.int .i64 R)).setCell ⟨wq.heap.size, 1, none⟩ (.int .i64 Q)).setCell ⟨wq.heap.size, 2, none⟩ (.slice B ys.length kb) = wz at *
          go_loopw [18, 19, 117] (fun av sv iv wx => ∃ (i : Nat) (z : Int), i ≤ ys.length ∧ av = .int .i64 (atR i Sb h) ∧ sv = .int .i64 z ∧ SkZ h (rem i Sb).length z ∧ iv = .int .i64 i ∧ wx = wz) (fun _ _ iv _ => ys.length - (intOf iv).toNat)
          case atStart => exact ⟨0, h, Nat.zero_le _, by rw [atR_zero], rfl, ⟨hrange.1, hrange.2, .inl (by rw [rem_zero]; simp)⟩, rfl, rfl⟩
          case round =>
            obtain ⟨i, z, hi, rfl, rfl, hZ, rfl, rfl⟩ := hrel
            have hrl := rem_len i Sb
            have z0r := hZ.1
            have z1r := hZ.2.1
            by_cases hlt2 : i < ys.length
            · have hlk := HLK.out i (by omega)
              have hil2 : (i : Int) < (ys.length : Int) := by omega
              cases hSa : Sb i with
              | true =>
                rw [hSa] at hlk
                have HR1 := Lib.hid (atR_in (h := h) hSa)
                have HR2 := Lib.hid (rem_in hSa)
                have HZ := Lib.hid hZ
                clear hSa hZ
                generalize atR i Sb h = at0 at *
                go_wp2
                go_roundw
                case rel => exact ⟨i + 1, z, hlt2, by rw [HR1.out], rfl, by rw [HR2.out]; exact HZ.out, by go_num, by first | rfl | trivial⟩
                case measure => simp [intOf]; omega
              | false =>
                rw [hSa] at hlk
                have hr1 := rem_succ_len hSa
                have hz0 := hZ.zero hrange (by omega)
                by_cases hz : z = 0
                · have HR1 := Lib.hid (atR_hit hSa (hz0.1 hz))
                  have HZ : Hid (SkZ h (rem (i + 1) Sb).length (-1)) := ⟨by omega, by omega, .inl (by rw [hr1]; have := hz0.1 hz; omega)⟩
                  subst hz
                  clear hSa hZ hr1 hz0 hrl
                  generalize atR i Sb h = at0 at *
                  go_wp2
                  go_roundw
                  case rel => exact ⟨i + 1, -1, hlt2, by rw [HR1.out], rfl, HZ.out, by go_num, by first | rfl | trivial⟩
                  case measure => simp [intOf]; omega
                · have HR1 := Lib.hid (atR_miss hSa (fun e => hz (hz0.2 e)))
                  have tz : (z == 0) = false := by simp [hz]
                  by_cases hm : z = -9223372036854775808
                  · have HZ : Hid (SkZ h (rem (i + 1) Sb).length 9223372036854775807) := ⟨by omega, by omega, .inr (by rw [hr1]; obtain ⟨_, _, h3 | h3⟩ := hZ <;> omega)⟩
                    subst hm
                    clear hSa hZ hr1 hz0 hrl
                    generalize atR i Sb h = at0 at *
                    go_wp2
                    go_roundw
                    case rel => exact ⟨i + 1, 9223372036854775807, hlt2, by rw [HR1.out], by (have e : wrap64 (-9223372036854775809) = 9223372036854775807 := by decide +kernel); rw [e], HZ.out, by go_num, by first | rfl | trivial⟩
                    case measure => simp [intOf]; omega
                  · have HZ : Hid (SkZ h (rem (i + 1) Sb).length (z - 1)) := ⟨by omega, by omega, by rw [hr1]; obtain ⟨_, _, h3 | h3⟩ := hZ <;> omega⟩
                    clear hSa hZ hr1 hz0 hrl
                    have hzm : -9223372036854775808 < z := by omega
                    generalize atR i Sb h = at0 at *
                    go_wp2
                    go_roundw
                    case rel => exact ⟨i + 1, z - 1, hlt2, by rw [HR1.out], rfl, HZ.out, by go_num, by first | rfl | trivial⟩
                    case measure => simp [intOf]; omega
            · obtain rfl : i = ys.length := by omega
              have hrx := remX_len ys Sb
              by_cases hbh : h < 0 ∨ ((remX ys Sb).length : Int) ≤ h
              · have E : Hid (poolsR R P xs R Q ys ws hs = (pz, 2)) := by
                  show _ = _
                  rw [E3.out, hE, if_pos hbh]
                  rfl
                have hat := atR_bad (n := ys.length) (S := Sb) (h := h) (by rw [← hrx]; exact hbh)
                rw [hat]
                obtain ⟨c0, c1, c2, c3, c4, c5⟩ := HJz.out.c.at
                clear hat hE hZ
                go_wp2
                have hr := ret_err2 HJz.out E.out
                exact ret_pool (p := 8) (u := 9) rfl rfl rfl hr.1 rfl hr.2
              · rw [if_neg hbh] at hE
                obtain ⟨j, rfl⟩ : ∃ j : Nat, h = j := ⟨h.toNat, by omega⟩
                have hj : j < (rem ys.length Sb).length := by omega
                rw [Int.toNat_natCast, remX_at hj, ← remX_put hj] at hE
                have hat := atR_ok hj
                have hqn := rem_lt hj
                obtain ⟨q, hq⟩ : ∃ q, (rem ys.length Sb).getD j 0 = q := ⟨_, rfl⟩
                rw [hq] at hat hqn hE
                rw [hat]
                obtain ⟨y, hy⟩ : ∃ y, ys.getD q 0 = y := ⟨_, rfl⟩
                rw [hy] at hE
                have HE := Lib.hid hE
                have HY := Lib.hid hy
                clear hat hE hZ hbh hrx hq hy
                obtain ⟨wz, hwzz⟩ : ∃ wz, wz = wr := ⟨_, rfl⟩
                subst hwzz
                go_wp2_with (at_mapUpdate; refine wpList_setM rfl _ _ _ rfl (w2.heap.size + 1 + 1 + 1) nb2 Sb (q : Int) rfl rfl rfl (key_wf (by omega)) HGz.out.mb (by omega) ?_; intro w5 hM5 hg5; have hG5 := HGz.out.putB hM5 hg5; obtain ⟨⟨m0, m1, n0, n1⟩, _⟩ := hG5.at; have HG5 := Lib.hid hG5; have HP5 : Hid (PB w5 wq.heap.size R Q (.slice B ys.length kb)) := (hg5.block _ HPz.out.lt (fun e => by injection e; omega)).trans HPz.out; clear hM5 hg5 hG5)
                have HG6 := Lib.hid (HG5.out.setB (nb - 1))
                have HP6 := Lib.hid (HP5.out.other (a := ⟨w2.heap.size + 1, 1, none⟩) (by show wq.heap.size ≠ w2.heap.size + 1; omega) (.int .i64 (nb - 1)))
                have hc5 : ∀ wx, wx = w5.setCell ⟨w2.heap.size + 1, 1, none⟩ (.int .i64 (nb - 1)) → True := fun _ _ => trivial
                generalize w5.setCell ⟨w2.heap.size + 1, 1, none⟩ (.int .i64 (nb - 1)) = w6 at *
                clear hc5 m0 m1 n0 n1 HG5 HP5 t1 t2 l0 l1 f0 f1 g0 g1 hp2
                obtain ⟨_, _, o2, of2⟩ := HG6.out.at
                obtain ⟨_, _, p2, _⟩ := HP6.out.at
                obtain ⟨ab, aoff, eA, halt, hac⟩ := (HB2.out.later HG6.out.bl).il.at (by omega)
                have hel := hac q hqn
                rw [HY.out] at hel
                subst eA
                obtain ⟨i0, hi0, hzz0, hzz1, hzz2⟩ := info_parts info_int
                have hqi : (q : Int) < (ys.length : Int) := by omega
                have hq0 : (0 : Int) ≤ (q : Int) := by omega
                have hal : acc.length ≤ 400 := by rw [HG.out.l]; omega
                have hs6 := HG6.out.size
                have n2 := World.new_ne w6 ⟨wq.heap.size, 2, none⟩ p2
                have n3 := World.new_ne w6 ⟨ab, aoff + q, none⟩ hel
                have n4 := World.new_ne w6 ⟨w2.heap.size, 2, none⟩ o2
                clear hac n2 n3 n4
                have HO6 : Hid (OI w6.drew (w2.heap.size + 5) (.slice RH acc.length crh) acc) := HG6.out.h
                have HG7 : Hid (GW w2.heap.size w2 R N na (nb - 1) na2 (nb2 + 1) Sa (fun z => z == (q : Int) || Sb z) (.slice RH acc.length crh) acc w6.drew) := HG6.out.later (Below.refl _ _).drew
                have HEE : Hid (∀ u wx, GW w2.heap.size w2 R N na (nb - 1) na2 (nb2 + 1) Sa (fun z => z == (q : Int) || Sb z) u (acc ++ [y]) wx → GR w2.heap.size w2 R N N xs ys ws hs S0 (k + 1) na (nb - 1) na2 (nb2 + 1) Sa (fun z => z == (q : Int) || Sb z) u (acc ++ [y]) wx) := fun u wx hx => ⟨hx, by omega, by omega, by omega, by omega, by omega, by omega, by omega, by rw [List.length_append, HG.out.l]; rfl, HE.out⟩
                have hab : ab < w2.heap.size := by
                  obtain ⟨b', o', e', hb', _⟩ := HB2.out.il.at (by omega)
                  cases e'
                  exact hb'
                have HP7 : Hid (PB w6.drew wq.heap.size R Q (.slice (some ⟨ab, aoff, none⟩) ys.length kb)) := HP6.out
                have HEL : Hid (w6.drew.cell? ⟨ab, aoff + q, none⟩ = some (.int .i64 y)) := hel
                have HK1 : Hid ((w6.alloc (.cells #[.int .i64 y] 3)).drew.cell? ⟨wq.heap.size, 2, none⟩ = some (.slice (some ⟨ab, aoff, none⟩) ys.length kb) ∧ (w6.alloc (.cells #[.int .i64 y] 3)).drew.cell? ⟨ab, aoff + q, none⟩ = some (.int .i64 y)) := ⟨(HP6.out.alloc _).at.2.2.1, (World.cell?_of_block (Below.heap_alloc _ _ _ (by omega))).trans hel⟩
                have o2a : (w6.alloc (.cells #[.int .i64 y] 3)).drew.cell? ⟨w2.heap.size, 2, none⟩ = some (.slice RH acc.length crh) := (HG6.out.o.alloc _).at.2.2.1
                have HO6a : Hid (OI (w6.alloc (.cells #[.int .i64 y] 3)).drew (w2.heap.size + 5) (.slice RH acc.length crh) acc) := (HG6.out.h.alloc _).drew
                have ne1 : wq.heap.size ≠ w2.heap.size := by omega
                have ne2 : ab ≠ w2.heap.size := by omega
                have HN := Lib.hid (And.intro ne1 ne2)
                clear HF HLK HJz HGz HPz HG6 HP6 HW2 HH2 HA2 HB2 HJ2 E3 HE HY HDH HR wsum of2 z0r z1r hrl ne1 ne2
                clear lxa lxb cxa cxb xl yl hrange hd0 hd1 na0 na1 nb0 nb1 ka1 kb1 hqn hwz
                obtain ⟨k1a, k1b⟩ := HK1.out
                have p2d : w6.drew.cell? ⟨wq.heap.size, 2, none⟩ = _ := HP7.out.at.2.2.1
                have eld := HEL.out
                have o2d : w6.drew.cell? ⟨w2.heap.size, 2, none⟩ = _ := o2
                go_region_law ((refine step_append_lies _ (by rfl) _ _ _ (by rfl) (w2.heap.size + 5) 3 i0 (.int .i64 0) 1 8 Try.underlying22 hi0 hzz0 hzz1 hzz2 rfl (by omega) (.slice RH acc.length crh) acc.length (ivs acc) (by rfl) HO6a.out ⟨w6.heap.size, 0, none⟩ 1 1 [.int .i64 y] (by rfl) (by rfl) (World.news_of_block (cs := #[.int .i64 y]) (t := 3) (fr := (0, 0)) (heap_alloc_new w6 _)) (by simp [Value.oneCell']) (by omega) (by unfold maxLen; omega) (by omega) (by have := HG7.out.size; simp; omega) (w6.heap.size + 1) (by simp) ?_; intro gg cap w7 hown hgrow0 hat hlt7; obtain ⟨hO7, hP7, r2, r3, hK3, hG8⟩ := gpush HG7.out HP7.out HEL.out HN.out hab hown hgrow0; obtain ⟨q0, q1, q2, y0, y1, y2⟩ := hP7.at; have HK3 := Lib.hid hK3; have HG8 := Lib.hid (HEE.out _ _ hG8); clear hown hgrow0 hat hO7 hP7 hK3 hG8))
                all_goals
                  go_wp2
                  go_roundw
                  case rel => exact ⟨k + 1, _, _, _, _, _, _, _, _, by go_num, HG8.out⟩
                  case measure => simp [intOf]; omega
    · obtain rfl : N = k := by omega
      have E : Hid (poolsR R P xs R Q ys ws hs = ((((R : Nat) : Int), ((N : Nat) : Int), acc), 0)) := by
        show _ = _
        rw [E3.out, HG.out.e, selJ_end (by rw [List.length_take]; omega)]
        rfl
      have hJq := HJ2.out.later HG.out.g.bl
      obtain ⟨c0, c1, c2, c3, c4, c5⟩ := hJq.c.at
      obtain ⟨o0, o1, o2, _⟩ := HG.out.g.o.at
      have HJq := Lib.hid hJq
      clear hJq
      go_wp2
      have hP := HJq.out.c.store (R : Nat) (N : Nat) (.slice RH acc.length crh)
      have hs6 : w.heap.size + 1 + 1 < w2.heap.size + 5 := by omega
      refine ret_pool (p := 8) (u := 9) rfl rfl rfl hP rfl (ppost_ok E.out ?_ (below_store HJq.out.bl (by omega) _ _ _))
      exact (((HG.out.g.h.apartC hs6 0 _).apartC hs6 1 _).apartC hs6 2 _).lower (by omega)
end Go.Proofs.Ytgmbhlkjnamjhaa
