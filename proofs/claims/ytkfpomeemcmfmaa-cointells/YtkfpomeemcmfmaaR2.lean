/- lotdrawerref.CToss. -/
import Derived.Test.YtkfpomeemcmfmaaR1
namespace Go.Proofs.Ytkfpomeemcmfmaa
open Go.RowKit Go.Deep

set_option maxHeartbeats 1000000 in
theorem ctoss_bad (A : Option Addr) (ca : Nat) (t : List Bool) (n d : Int) (w : World) (h : rgt n d = false) :
    Calls Try.prog 10 #[.slice A t.length ca, frac n d] w fun e w' => e = .returned (ftup (toss t n d)) ∧ Below w.heap.size w w' := by
  rw [toss_bad h]
  have hB : Hid (Below w.heap.size w (w.alloc (.cells #[.int .i64 n, .int .i64 d] 24))) := (Below.refl _ _).alloc (Nat.le_refl _) _
  have C := Lib.hid (cright_any n d (w.alloc (.cells #[.int .i64 n, .int .i64 d] 24)))
  rw [h] at C
  clear h
  unfold frac at *
  go_enter Try.func10, Try.ntmps10
  go_wp2_with fail
  refine C.out.mono ?_
  rintro e w1 ⟨rfl, hB1⟩
  have HB : Hid (Below w.heap.size w w1) := hB.out.trans (hB1.mono hB.out.size)
  clear hB1 C hB
  go_wp2
  go_ret3
  exact ⟨rfl, HB.out⟩

theorem ordI_ge {x y : Int} (h : y ≤ x) : 0 ≤ ordI x y := by unfold ordI; rw [if_neg (by omega)]; split <;> omega
theorem ordI_lt {x y : Int} (h : x < y) : ordI x y = -1 := by unfold ordI; rw [if_pos h]
theorem ordI_le {x y : Int} (h : x ≤ y) : ordI x y ≤ 0 := by
  unfold ordI
  split
  · omega
  · rw [if_neg (by omega)]; omega
theorem ordI_gt {x y : Int} (h : y < x) : ordI x y = 1 := by unfold ordI; rw [if_neg (by omega), if_pos h]
/-- The ways of a round, in whole numbers. -/
theorem krel_cases {a d k v : Nat} {t : List Bool} (h : KRel a d t k v) :
    (0 ≤ ordI ((a : Int) * 2 ^ k) ((v : Int) * (d : Int) + (d : Int)) ∧ tosG a d t = some (true, k)) ∨
    (ordI ((a : Int) * 2 ^ k) ((v : Int) * (d : Int) + (d : Int)) = -1 ∧ ((ordI ((a : Int) * 2 ^ k) ((v : Int) * (d : Int)) ≤ 0 ∧ tosG a d t = some (false, k)) ∨
      (ordI ((a : Int) * 2 ^ k) ((v : Int) * (d : Int)) = 1 ∧ ((k = t.length → tosG a d t = none) ∧ (k < t.length → KRel a d t (k + 1) (2 * v + (t.getD k false).toNat)))))) ∨
    (0 = d) := by
  have e1 : (a : Int) * 2 ^ k = ((a * 2 ^ k : Nat) : Int) := by simp
  have e2 : (v : Int) * (d : Int) = ((v * d : Nat) : Int) := by simp
  rw [e1, e2]
  by_cases hd : 0 = d
  · exact .inr (.inr hd)
  rcases h with ⟨h1, h2⟩ | ⟨h1, h2⟩ | ⟨h1, h2, r, hr, hrd, he, hT⟩
  · exact .inl ⟨ordI_ge (by omega), h2⟩
  · exact .inr (.inl ⟨ordI_lt (by omega), .inl ⟨ordI_le (by omega), h2⟩⟩)
  · refine .inr (.inl ⟨ordI_lt (by omega), .inr ⟨ordI_gt (by omega), fun hk => ?_, fun hk => krel_next hr hrd he hT hk⟩⟩)
    rw [hT, toss_none (by omega) hk]; rfl

set_option maxRecDepth 100000 in
set_option maxHeartbeats 8000000 in
theorem ctoss_core (A : Option Addr) (ca : Nat) (t : List Bool) (n d : Nat) (w : World) (ht : TP w A ca t) (hsm : t.length ≤ 140737488351232) (h1 : 1 ≤ d) (h2 : d ≤ 1099511627776) (h3 : n ≤ d) :
    Calls Try.prog 10 #[.slice A t.length ca, frac n d] w fun e w' => e = .returned (ftup (cans (tosG n d t))) ∧ Below w.heap.size w w' := by
  have hB : Hid (Below w.heap.size w (w.alloc (.cells #[.int .i64 (n : Int), .int .i64 (d : Int)] 24))) := (Below.refl _ _).alloc (Nat.le_refl _) _
  have C := Lib.hid (cright_any n d (w.alloc (.cells #[.int .i64 (n : Int), .int .i64 (d : Int)] 24)))
  have HC := Lib.hid (frac_cells w n d)
  have hsz : (w.alloc (.cells #[.int .i64 (n : Int), .int .i64 (d : Int)] 24)).heap.size = w.heap.size + 1 := by simp
  have hr : rgt n d = true := rgt_iff.2 (by omega)
  rw [hr] at C
  clear hr
  have hl := ht.short
  have H := Lib.hid ht.tp
  have K0 := Lib.hid (krel_start t h3 (by omega))
  have S0 : Hid (∀ v k, v < 2 ^ k → k ≤ t.length → CS n d v k) := fun v k hv hk => ⟨hv, by omega, by omega, by omega⟩
  clear ht
  unfold frac at *
  go_enter Try.func10, Try.ntmps10
  go_wp2_with fail
  refine C.out.mono ?_
  rintro e w1 ⟨rfl, hB1⟩
  generalize w.alloc (.cells #[.int .i64 (n : Int), .int .i64 (d : Int)] 24) = w0 at *
  have hlw : w.heap.size < w1.heap.size := by have := hB1.size; omega
  have c0 := (hB1.cell (p := ⟨w.heap.size, 0, none⟩) (by simp [hsz])).trans HC.out.1
  have c1 := (hB1.cell (p := ⟨w.heap.size, 1, none⟩) (by simp [hsz])).trans HC.out.2
  have HC1 : Hid (∀ W, Below w1.heap.size w1 W → W.cell? ⟨w.heap.size, 0, none⟩ = some (.int .i64 (n : Int)) ∧ W.cell? ⟨w.heap.size, 1, none⟩ = some (.int .i64 (d : Int))) := fun W hW => ⟨(hW.cell (p := ⟨w.heap.size, 0, none⟩) hlw).trans c0, (hW.cell (p := ⟨w.heap.size, 1, none⟩) hlw).trans c1⟩
  have HB : Hid (Below w.heap.size w w1) := hB.out.trans (hB1.mono hB.out.size)
  have H1 := Lib.hid (H.out.later HB.out)
  clear hB1 C hB c0 c1 H HC hsz
  have I0 := Lib.hid (IsI.new w1)
  have B0 := Lib.hid (below_hdr w1)
  go_wp2
  go_loopw [8] (fun kv wr => ∃ k v : Nat, k ≤ t.length ∧ kv = .int .i64 k ∧ v < 2 ^ k ∧ KRel n d t k v ∧ IsI wr w1.heap.size (v : Int) ∧ Below w1.heap.size w1 wr) (fun kv _ => t.length - (intOf kv).toNat)
  case atStart => exact ⟨0, 0, Nat.zero_le _, rfl, by simp, K0.out, I0.out, B0.out⟩
  case round =>
    clear I0 B0 K0
    obtain ⟨k, v, hk, rfl, hv, hK, hI, hBr⟩ := hrel
    have HS := Lib.hid (S0.out v k hv hk)
    have HV := Lib.hid hv
    have HK := Lib.hid hK
    have HI := Lib.hid hI
    have HBr := Lib.hid hBr
    clear hK hI hBr hv
    have hgl : w1.heap.size ≤ wr.heap.size := HBr.out.size
    have hgx : w1.heap.size < wr.heap.size := HI.out.lt
    have CN := Lib.hid (newI n (wr.alloc (.cells #[.bool false, .slice none 0 0] 45)) (by omega))
    have ea : (wr.alloc (.cells #[.bool false, .slice none 0 0] 45)).heap.size = wr.heap.size + 1 := by simp
    rw [ea] at CN
    have YH := Lib.hid (IsI.new wr)
    have XH := Lib.hid (HI.out.below (below_hdr wr))
    have BA : Hid (Below w1.heap.size w1 (wr.alloc (.cells #[.bool false, .slice none 0 0] 45))) := HBr.out.trans ((below_hdr wr).mono hgl)
    have e0 := (HC1.out _ BA.out).1
    have EA := Lib.hid ea
    clear ea
    go_wp2_with fail
    refine CN.out.mono ?_
    rintro e wb ⟨rfl, hN, hbb⟩
    have BB : Hid (Below w1.heap.size w1 wb) := BA.out.trans (hbb.mono (by omega))
    have YB := YH.out.below (by rw [EA.out]; exact hbb)
    have XB := XH.out.below (by rw [EA.out]; exact hbb)
    have lb : wr.heap.size + 1 < wb.heap.size := hN.lt
    have CL := Lib.hid (ilsh_len wr.heap.size (wr.heap.size + 1) k (n : Int) wb YB.hd hN HS.out.sa (by omega))
    have GY : Hid (∀ wc, wb.grownBy wc (some wr.heap.size) → Below w1.heap.size w1 wc ∧ IsI wc w1.heap.size (v : Int)) := fun wc hg => ⟨below_grown BB.out hg (by omega) (by omega), XB.only YB.hd (by omega) hg⟩
    clear CN YH XH BA e0 hN hbb YB XB EA
    go_wp2_with fail
    refine CL.out.mono ?_
    rintro e wc ⟨rfl, hY, hgc⟩
    have BC : Hid (Below w1.heap.size w1 wc) := (GY.out wc hgc).1
    have XC := Lib.hid (GY.out wc hgc).2
    have lc : wb.heap.size ≤ wc.heap.size := hgc.size
    have YC := Lib.hid hY
    clear CL GY BB hY hgc
    have XA2 := XC.out.below (below_hdr wc)
    have YA2 := YC.out.below (below_hdr wc)
    have ZA2 := IsI.new wc
    have BA2 : Below w1.heap.size w1 (wc.alloc (.cells #[.bool false, .slice none 0 0] 45)) := BC.out.trans ((below_hdr wc).mono (by omega))
    have CN2 := Lib.hid (newI d (wc.alloc (.cells #[.bool false, .slice none 0 0] 45)) (by omega))
    have G2 : Hid (∀ wd, Below (wc.heap.size + 1) (wc.alloc (.cells #[.bool false, .slice none 0 0] 45)) wd → Below w1.heap.size w1 wd ∧ IsI wd w1.heap.size (v : Int) ∧ IsI wd wr.heap.size ((n : Int) * 2 ^ k) ∧ IsI wd wc.heap.size 0) := fun wd hb => by
      have hb2 : Below (wc.alloc (.cells #[.bool false, .slice none 0 0] 45)).heap.size (wc.alloc (.cells #[.bool false, .slice none 0 0] 45)) wd := by
        rw [show (wc.alloc (.cells #[.bool false, .slice none 0 0] 45)).heap.size = wc.heap.size + 1 by simp]; exact hb
      exact ⟨BA2.trans (hb.mono (by omega)), XA2.below hb2, YA2.below hb2, ZA2.below hb2⟩
    rw [show (wc.alloc (.cells #[.bool false, .slice none 0 0] 45)).heap.size = wc.heap.size + 1 by simp] at CN2
    have e1 := (HC1.out _ BA2).2
    clear XA2 YA2 ZA2 BA2 BC XC YC
    go_wp2_with fail
    refine CN2.out.mono ?_
    rintro e wd ⟨rfl, hN, hbb⟩
    obtain ⟨BD, XD, YD, ZD⟩ := G2.out wd hbb
    have ld : wc.heap.size + 1 < wd.heap.size := hN.lt
    have CM := Lib.hid (imul_len wc.heap.size w1.heap.size (wc.heap.size + 1) (v : Int) (d : Int) wd ZD.hd XD hN HS.out.sv HS.out.sd)
    have G3 : Hid (∀ we, wd.grownBy we (some wc.heap.size) → Below w1.heap.size w1 we ∧ IsI we w1.heap.size (v : Int) ∧ IsI we wr.heap.size ((n : Int) * 2 ^ k)) := fun we hg => ⟨below_grown BD hg (by omega) (by omega), XD.only ZD.hd (by omega) hg, YD.only ZD.hd (by omega) hg⟩
    clear CN2 G2 e1 hN hbb BD XD YD ZD
    go_wp2_with fail
    refine CM.out.mono ?_
    rintro e we ⟨rfl, hZ, hge⟩
    obtain ⟨BE, XE, YE⟩ := G3.out we hge
    have le : wd.heap.size ≤ we.heap.size := hge.size
    have XA3 := XE.below (below_hdr we)
    have YA3 := YE.below (below_hdr we)
    have ZA3 := hZ.below (below_hdr we)
    have UA3 := IsI.new we
    have BA3 : Below w1.heap.size w1 (we.alloc (.cells #[.bool false, .slice none 0 0] 45)) := BE.trans ((below_hdr we).mono (by omega))
    have CN3 := Lib.hid (newI d (we.alloc (.cells #[.bool false, .slice none 0 0] 45)) (by omega))
    have G4 : Hid (∀ wf, Below (we.heap.size + 1) (we.alloc (.cells #[.bool false, .slice none 0 0] 45)) wf → Below w1.heap.size w1 wf ∧ IsI wf w1.heap.size (v : Int) ∧ IsI wf wr.heap.size ((n : Int) * 2 ^ k) ∧ IsI wf wc.heap.size ((v : Int) * (d : Int)) ∧ IsI wf we.heap.size 0) := fun wf hb => by
      have hb2 : Below (we.alloc (.cells #[.bool false, .slice none 0 0] 45)).heap.size (we.alloc (.cells #[.bool false, .slice none 0 0] 45)) wf := by
        rw [show (we.alloc (.cells #[.bool false, .slice none 0 0] 45)).heap.size = we.heap.size + 1 by simp]; exact hb
      exact ⟨BA3.trans (hb.mono (by omega)), XA3.below hb2, YA3.below hb2, ZA3.below hb2, UA3.below hb2⟩
    rw [show (we.alloc (.cells #[.bool false, .slice none 0 0] 45)).heap.size = we.heap.size + 1 by simp] at CN3
    have e1 := (HC1.out _ BA3).2
    clear XA3 YA3 ZA3 UA3 BA3 BE XE YE hZ hge CM G3
    go_wp2_with fail
    refine CN3.out.mono ?_
    rintro e wf ⟨rfl, hN, hbb⟩
    obtain ⟨BF, XF, YF, ZF, UF⟩ := G4.out wf hbb
    have lf : we.heap.size + 1 < wf.heap.size := hN.lt
    have CAd := Lib.hid (iadd_len we.heap.size wc.heap.size (we.heap.size + 1) ((v : Int) * (d : Int)) (d : Int) wf UF.hd ZF hN HS.out.sl (HS.out.sd.up (by omega)))
    have G5 : Hid (∀ wg, wf.grownBy wg (some we.heap.size) → Below w1.heap.size w1 wg ∧ IsI wg w1.heap.size (v : Int) ∧ IsI wg wr.heap.size ((n : Int) * 2 ^ k) ∧ IsI wg wc.heap.size ((v : Int) * (d : Int))) := fun wg hg => ⟨below_grown BF hg (by omega) (by omega), XF.only UF.hd (by omega) hg, YF.only UF.hd (by omega) hg, ZF.only UF.hd (by omega) hg⟩
    clear CN3 G4 e1 hN hbb BF XF YF ZF UF
    go_wp2_with fail
    refine CAd.out.mono ?_
    rintro e wg ⟨rfl, hU, hgg⟩
    obtain ⟨BG, XG, YG, ZG⟩ := G5.out wg hgg
    have lg : wf.heap.size ≤ wg.heap.size := hgg.size
    have CC := Lib.hid (icmp_len wr.heap.size we.heap.size _ _ wg YG hU HS.out.sy HS.out.sh)
    have G6 : Hid (∀ wh, Below wg.heap.size wg wh → Below w1.heap.size w1 wh ∧ IsI wh w1.heap.size (v : Int) ∧ IsI wh wr.heap.size ((n : Int) * 2 ^ k) ∧ IsI wh wc.heap.size ((v : Int) * (d : Int))) := fun wh hb => ⟨BG.trans (hb.mono BG.size), XG.below hb, YG.below hb, ZG.below hb⟩
    obtain ⟨c, hc⟩ : ∃ c, ordI ((n : Int) * 2 ^ k) ((v : Int) * (d : Int) + (d : Int)) = c := ⟨_, rfl⟩
    rw [hc] at CC
    have HCc := Lib.hid hc
    clear CAd G5 hU hgg BG XG YG ZG hc
    go_wp2_with fail
    refine CC.out.mono ?_
    rintro e wh ⟨rfl, hbh⟩
    obtain ⟨BH, XH, YH, ZH⟩ := G6.out wh hbh
    clear CC G6 hbh
    have hend : Hid (Below w.heap.size w wh) := HB.out.trans (BH.mono HB.out.size)
    rcases krel_cases HK.out with ⟨o1, o2⟩ | ⟨o1, o3⟩ | o4
    · rw [HCc.out] at o1
      have E := Lib.hid o2
      have q1 : decide (0 ≤ c) = true := decide_eq_true o1
      clear o2 HCc BH XH YH ZH
      go_wp2
      go_ret3
      exact ⟨by rw [E.out]; rfl, hend.out⟩
    · rw [HCc.out] at o1
      subst o1
      have CC2 := Lib.hid (icmp_len wr.heap.size wc.heap.size _ _ wh YH ZH HS.out.sy HS.out.sl)
      have G7 : Hid (∀ wi, Below wh.heap.size wh wi → Below w1.heap.size w1 wi ∧ IsI wi w1.heap.size (v : Int)) := fun wi hb => ⟨BH.trans (hb.mono BH.size), XH.below hb⟩
      obtain ⟨c2, hc2⟩ : ∃ c, ordI ((n : Int) * 2 ^ k) ((v : Int) * (d : Int)) = c := ⟨_, rfl⟩
      rw [hc2] at CC2 o3
      have HO := Lib.hid o3
      clear HCc BH XH YH ZH hc2 o3 hend
      go_wp2_with fail
      refine CC2.out.mono ?_
      rintro e wi ⟨rfl, hbi⟩
      obtain ⟨BI, XI⟩ := G7.out wi hbi
      clear CC2 G7 hbi
      have hend : Hid (Below w.heap.size w wi) := HB.out.trans (BI.mono HB.out.size)
      rcases HO.out with ⟨o1, o2⟩ | ⟨o1, o2, o3⟩
      · have E := Lib.hid o2
        have q1 : decide (c2 ≤ 0) = true := decide_eq_true o1
        clear o2 BI XI HO
        go_wp2
        go_ret3
        exact ⟨by rw [E.out]; rfl, hend.out⟩
      · subst o1
        by_cases hlt : k < t.length
        · have HN2 := Lib.hid (o3 hlt)
          have hkl : ((k : Int) == (t.length : Int)) = false := by rw [beq_eq_false_iff_ne]; omega
          have CL2 := Lib.hid (ilsh_len w1.heap.size w1.heap.size 1 (v : Int) wi XI.hd XI HS.out.sv (by omega))
          have G8 : Hid (∀ wj, wi.grownBy wj (some w1.heap.size) → Below w1.heap.size w1 wj) := fun wj hg => below_grown BI hg (by have := BI.size; omega) (by omega)
          clear o2 o3 HO BI XI hend
          go_wp2_with fail
          refine CL2.out.mono ?_
          rintro e wj ⟨rfl, hXJ, hgj⟩
          have BJ := G8.out wj hgj
          have ev : (v : Int) * 2 ^ 1 = ((2 * v : Nat) : Int) := by simp; omega
          rw [ev] at hXJ
          obtain ⟨b, off, rfl, _, hc⟩ := (H1.out.later BJ).at (by omega)
          have ck := hc k hlt
          have lj : w1.heap.size < wj.heap.size := hXJ.lt
          have v2 : 2 * v < 2 ^ (k + 1) ∧ 2 * v + 1 < 2 ^ (k + 1) := by have := HV.out; rw [Nat.pow_succ]; omega
          have V2 := Lib.hid v2
          have S2 := Lib.hid (S0.out (2 * v) (k + 1) v2.1 (by omega))
          clear hc CL2 G8 hgj ev v2
          cases hx : t.getD k false with
          | false =>
            rw [hx] at ck
            have HN3 : Hid (KRel n d t (k + 1) (2 * v)) := by have := HN2.out; rw [hx] at this; exact this
            have XJ := Lib.hid hXJ
            have HBJ := Lib.hid BJ
            clear hx HN2 hXJ BJ
            go_wp2
            go_roundw
            case rel => exact ⟨k + 1, 2 * v, by omega, by go_num, V2.out.1, HN3.out, XJ.out, HBJ.out⟩
            case measure => simp [intOf]; omega
          | true =>
            rw [hx] at ck
            have HN3 : Hid (KRel n d t (k + 1) (2 * v + 1)) := by have := HN2.out; rw [hx] at this; exact this
            have CN4 := Lib.hid (newI 1 wj (by omega))
            have G9 : Hid (∀ wk, Below wj.heap.size wj wk → Below w1.heap.size w1 wk ∧ IsI wk w1.heap.size ((2 * v : Nat) : Int)) := fun wk hb => ⟨BJ.trans (hb.mono (by omega)), hXJ.below hb⟩
            clear hx HN2 hXJ BJ
            go_wp2_with fail
            refine CN4.out.mono ?_
            rintro e wk ⟨rfl, hN, hbk⟩
            obtain ⟨BK, XK⟩ := G9.out wk hbk
            have lk : wj.heap.size < wk.heap.size := hN.lt
            have CA4 := Lib.hid (iadd_len w1.heap.size w1.heap.size wj.heap.size ((2 * v : Nat) : Int) 1 wk XK.hd XK hN (S2.out.sv.up (by omega)) ((dl_of_lt (x := 1) (m := 1) (by omega)).up (by omega)))
            have G10 : Hid (∀ wl, wk.grownBy wl (some w1.heap.size) → Below w1.heap.size w1 wl) := fun wl hg => below_grown BK hg (by omega) (by omega)
            clear CN4 G9 hN hbk BK XK
            go_wp2_with fail
            refine CA4.out.mono ?_
            rintro e wl ⟨rfl, hXL, hgl2⟩
            have HBL := Lib.hid (G10.out wl hgl2)
            have XL : Hid (IsI wl w1.heap.size ((2 * v + 1 : Nat) : Int)) := by
              have : ((2 * v : Nat) : Int) + 1 = ((2 * v + 1 : Nat) : Int) := by omega
              rw [this] at hXL; exact hXL
            clear CA4 G10 hXL hgl2
            go_wp2
            go_roundw
            case rel => exact ⟨k + 1, 2 * v + 1, by omega, by go_num, V2.out.2, HN3.out, XL.out, HBL.out⟩
            case measure => simp [intOf]; omega
        · obtain rfl : k = t.length := by omega
          have E := Lib.hid (o2 rfl)
          clear o2 o3 HO BI XI
          go_wp2
          go_ret3
          exact ⟨by rw [E.out]; rfl, hend.out⟩
    · omega

theorem ctoss_any (A : Option Addr) (ca : Nat) (t : List Bool) (n d : Int) (w : World) (ht : TP w A ca t) (hsm : t.length ≤ 140737488351232) :
    Calls Try.prog 10 #[.slice A t.length ca, frac n d] w fun e w' => e = .returned (ftup (toss t n d)) ∧ Below w.heap.size w w' := by
  cases h : rgt n d with
  | false => exact ctoss_bad A ca t n d w h
  | true =>
    have h' := rgt_iff.1 h
    obtain ⟨a, rfl⟩ : ∃ a : Nat, n = a := ⟨n.toNat, by omega⟩
    obtain ⟨b, rfl⟩ : ∃ b : Nat, d = b := ⟨d.toNat, by omega⟩
    rw [toss_good (by omega) (by omega) (by omega)]
    exact ctoss_core A ca t a b w ht hsm (by omega) (by omega) (by omega)
end Go.Proofs.Ytkfpomeemcmfmaa
