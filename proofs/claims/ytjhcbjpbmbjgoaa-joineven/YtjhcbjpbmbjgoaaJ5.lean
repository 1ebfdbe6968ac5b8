/- join.draw. -/
import Derived.Test.YtjhcbjpbmbjgoaaJ4
import Derived.Deep.QuietTactic
import Derived.BigQuiet
import Derived.WalkSmall
import Derived.IntWalk
namespace Go.Proofs.Ytjhcbjpbmbjgoaa
open Go.RowKit Go.Deep

/-- Where the loop stands. -/
structure DR (B G : Nat) (w0 : World) (ws hs : List Int) (R0 : List Int × Int) (k : Nat) (na nb : Int) (va vb hv : Value) (xs ys acc : List Int) (w : World) : Prop where
  d : DW B G w0 na nb va vb hv xs ys acc w
  kl : k ≤ ws.length
  a0 : 0 ≤ na
  a1 : na ≤ 1099511627776
  b0 : 0 ≤ nb
  b1 : nb ≤ 1099511627776
  xl : xs.length ≤ 400
  yl : ys.length ≤ 400
  l : acc.length = k
  e : R0 = selJ na nb xs ys acc (ws.drop k) (hs.drop k)
def DrPost (w0 : World) (r : List Int × Int) (e : Ending) (w' : World) : Prop := ∃ v, e = .returned (.tuple #[v, .int .i64 r.2]) ∧ OI w' w0.heap.size v r.1 ∧ Below w0.heap.size w0 w'
theorem drp_err {w0 w' : World} {r : List Int × Int} (E : r = ([], 2)) (h : Below w0.heap.size w0 w') : DrPost w0 r (.returned (.tuple #[.slice none 0 0, .int .i64 2])) w' := by
  subst E
  exact ⟨_, rfl, OI.nil _ _, h⟩
theorem drp_ok {w0 w' : World} {r : List Int × Int} {v : Value} {acc : List Int} (E : r = (acc, 0)) (h : Below w0.heap.size w0 w') (hO : OI w' w0.heap.size v acc) : DrPost w0 r (.returned (.tuple #[v, .int .i64 0])) w' := by
  subst E
  exact ⟨_, rfl, hO, h⟩
set_option maxRecDepth 100000 in
set_option maxHeartbeats 8000000 in
theorem draw_any (NA NB : Int) (VA VB : Value) (XS YS : List Int) (W H : Option Addr) (wc hc : Nat) (ws hs : List Int) (w0 w : World) (hW : IP w0 W wc ws) (hH : IP w0 H hc hs) (hl : hs.length = ws.length) (hl4 : ws.length ≤ 400) (hB : Below w0.heap.size w0 w)
    (hA : OI w w0.heap.size VA XS) (hVB : OI w w0.heap.size VB YS) (hap : apartV VA VB) (a0 : 0 ≤ NA) (a1 : NA ≤ 1099511627776) (b0 : 0 ≤ NB) (b1 : NB ≤ 1099511627776) (xl : XS.length ≤ 400) (yl : YS.length ≤ 400) :
    Calls Try.prog 34 #[sv2 NA VA NB VB, .slice W ws.length wc, .slice H hs.length hc] w (DrPost w0 (selJ NA NB XS YS [] ws hs)) := by
  obtain ⟨RA, cra, rfl⟩ := hA.shape
  obtain ⟨RB, crb, rfl⟩ := hVB.shape
  have hD : DR w0.heap.size w.heap.size w0 ws hs (selJ NA NB XS YS [] ws hs) 0 NA NB (.slice RA XS.length cra) (.slice RB YS.length crb) (.slice (some ⟨w.heap.size + 1, 0, none⟩) 0 ws.length) XS YS [] ((w.alloc (.cells #[.int .i64 NA, .slice RA XS.length cra, .int .i64 NB, .slice RB YS.length crb] 70)).alloc (.cells (madeCells #[.int .i64 0] ws.length) 3)) := by
    have hm := OI.made (w.alloc (.cells #[.int .i64 NA, .slice RA XS.length cra, .int .i64 NB, .slice RB YS.length crb] 70)) ws.length (by omega)
    rw [show (w.alloc (.cells #[.int .i64 NA, .slice RA XS.length cra, .int .i64 NB, .slice RB YS.length crb] 70)).heap.size = w.heap.size + 1 by simp] at hm
    have hs0 := hB.size
    refine ⟨⟨(hA.alloc _).alloc _, (hVB.alloc _).alloc _, hm.lower (by omega), hap, ?_, ?_, ?_, hs0, (hB.alloc hs0 _).alloc (by simp; omega) _⟩, Nat.zero_le _, a0, a1, b0, b1, xl, yl, rfl, rfl⟩
    · intro g h1 h2
      simp only [Value.ownBlock] at h2
      injection h2 with h2
      have := (World.ownsRow.lt hA g h1).2
      omega
    · intro g h1 h2
      simp only [Value.ownBlock] at h2
      injection h2 with h2
      have := (World.ownsRow.lt hVB g h1).2
      omega
    · have h1 : QB (w.alloc (.cells #[.int .i64 NA, .slice RA XS.length cra, .int .i64 NB, .slice RB YS.length crb] 70)) w.heap.size NA (.slice RA XS.length cra) NB (.slice RB YS.length crb) := heap_alloc_new w _
      exact (Below.heap_alloc _ _ _ (Bs.lt h1)).trans h1
  have HD0 := Lib.hid hD
  have HW := Lib.hid hW
  have HH := Lib.hid hH
  have hcw := hW.cap
  have hch := hH.cap
  have HS0 := Lib.hid hB.size
  have HL := Lib.hid hl
  clear hD hW hH hA hVB hap a0 a1 b0 b1 hB hl
  have hmk := run_make0 ws.length (by omega)
  unfold sv2
  go_enter Try.func34, Try.ntmps34
  go_wp2_with fail
  go_loopw [8, 20] (fun hv iv wr => ∃ (k : Nat) (na nb : Int) (va vb : Value) (xs ys acc : List Int), iv = .int .i64 k ∧ DR w0.heap.size w.heap.size w0 ws hs (selJ NA NB XS YS [] ws hs) k na nb va vb hv xs ys acc wr) (fun _ iv _ => ws.length - (intOf iv).toNat)
  case atStart => exact ⟨0, _, _, _, _, _, _, _, rfl, HD0.out⟩
  case round =>
    clear HD0 hmk
    obtain ⟨k, na, nb, va, vb, xs, ys, acc, rfl, hD⟩ := hrel
    obtain ⟨RA, cra, rfl⟩ := hD.d.a.shape
    obtain ⟨RB, crb, rfl⟩ := hD.d.b.shape
    obtain ⟨RH, crh, rfl⟩ := hD.d.h.shape
    have HD := Lib.hid hD
    have HACC := Lib.hid hD.l
    have hk := hD.kl
    have hsz := hD.d.bl.size
    have x4 := hD.xl
    have y4 := hD.yl
    have na0 := hD.a0
    have na1 := hD.a1
    have nb0 := hD.b0
    have nb1 := hD.b1
    obtain ⟨c0, c1, c2, c3, _⟩ := hD.d.q.at
    clear hD
    by_cases hlt : k < ws.length
    · have e1 := selJ_at (na := na) (nb := nb) (xs := xs) (ys := ys) (acc := acc) (ds := ws) (hs := hs) (k := k) hlt (by rw [HL.out]; exact hlt)
      have hE := HD.out.e
      rw [e1] at hE
      clear e1
      obtain ⟨wb, woff, rfl, _, hwc⟩ := (HW.out.later HD.out.d.bl).il.at (by omega)
      have hwk := hwc k hlt
      obtain ⟨d, hd⟩ : ∃ d, ws.getD k 0 = d := ⟨_, rfl⟩
      obtain ⟨h, hh⟩ : ∃ h, hs.getD k 0 = h := ⟨_, rfl⟩
      rw [hd] at hwk hE
      rw [hh] at hE
      have HHE := Lib.hid hh
      clear hwc hd hh
      have C := Lib.hid (pick_any na nb d (.slice RA xs.length cra) (.slice RB ys.length crb) wr na0 nb0 na1 nb1)
      have hki : (k : Int) < (ws.length : Int) := by omega
      have hki2 : (k : Int) < (hs.length : Int) := by have := HL.out; omega
      unfold sv2 at C
      have hsum : na + nb ≤ 2199023255552 := by omega
      by_cases hbad : d < 0 ∨ na + nb ≤ d
      · have E : Hid (selJ NA NB XS YS [] ws hs = ([], 2)) := hE.trans (if_pos hbad)
        have ep : pickR na nb d = (0, 2) := if_pos hbad
        rw [ep] at C
        clear hE hbad ep
        unfold ptup at C
        go_wp2_with fail
        refine C.out.mono ?_
        rintro e w1 ⟨rfl, hB1⟩
        have HB1 : Hid (Below w0.heap.size w0 w1) := HD.out.d.bl.trans (hB1.mono hsz)
        clear hB1 C
        go_wp2
        go_ret2
        exact drp_err E.out HB1.out
      · rw [if_neg hbad] at hE
        have hbad1 : 0 ≤ d := by omega
        have hbad2 : d < na + nb := by omega
        by_cases hda : d < na
        · have ep : pickR na nb d = (0, 0) := (if_neg hbad).trans (if_pos hda)
          rw [if_pos hda] at hE
          rw [ep] at C
          clear ep hbad
          by_cases hbh : h < 0 ∨ (xs.length : Int) ≤ h
          · have E : Hid (selJ NA NB XS YS [] ws hs = ([], 2)) := hE.trans (if_pos hbh)
            clear hE c0 c1 c2 c3
            unfold ptup at C
            obtain ⟨c0, c1, c2, c3, _⟩ := HD.out.d.q.at
            go_wp2_with fail
            refine C.out.mono ?_
            rintro e w1 ⟨rfl, hB1⟩
            have hD1 := HD.out.d.later hsz hB1
            obtain ⟨d0, d1, d2, d3, _⟩ := hD1.q.at
            obtain ⟨hb, hoff, rfl, _, hhc⟩ := (HH.out.later hD1.bl).il.at (by have := HL.out; omega)
            have hhk := hhc k (by have := HL.out; omega)
            rw [HHE.out] at hhk
            have HB1 := Lib.hid hD1.bl
            clear hB1 C hD1 hhc c0 c1 c2 c3
            go_wp2_with fail
            go_quiet (fail)
            rcases (show h < 0 ∨ (0 ≤ h ∧ (xs.length : Int) ≤ h) by omega) with hbh | ⟨hbh0, hbh⟩
            · go_wp2
              go_ret2
              exact drp_err E.out (below_drewN HB1.out _)
            · go_wp2
              go_ret2
              exact drp_err E.out (below_drewN HB1.out _)
          · rw [if_neg hbh] at hE
            obtain ⟨j, rfl⟩ : ∃ j : Nat, h = j := ⟨h.toNat, by omega⟩
            have hj : j < xs.length := by omega
            rw [Int.toNat_natCast] at hE
            have HE := Lib.hid hE
            clear hE hbh c0 c1 c2 c3
            unfold ptup at C
            obtain ⟨c0, c1, c2, c3, _⟩ := HD.out.d.q.at
            go_wp2_with fail
            refine C.out.mono ?_
            rintro e w1 ⟨rfl, hB1⟩
            have hD1 := HD.out.d.later hsz hB1
            obtain ⟨d0, d1, d2, d3, _⟩ := hD1.q.at
            obtain ⟨hb, hoff, rfl, _, hhc⟩ := (HH.out.later hD1.bl).il.at (by have := HL.out; omega)
            have hhk := hhc k (by have := HL.out; omega)
            rw [HHE.out] at hhk
            obtain ⟨gx, cx, hvx, hgx, _, _, hcx1, hxc, _, _⟩ := hD1.a.form rfl (by omega)
            injection hvx with hR _ hcr
            subst hR
            subst hcr
            have HD1 := Lib.hid hD1
            have hsz1 : w0.heap.size ≤ w1.heap.size := hD1.bl.size
            have hji : (j : Int) < (xs.length : Int) := by omega
            have hj0 : (0 : Int) ≤ (j : Int) := by omega
            have ew : IntKind.i64.wrap ((j : Int) + 1) = (j : Int) + 1 := IntWalk.i64_in _ (by omega)
            have ew2 : IntKind.i64.wrap (na - 1) = na - 1 := IntWalk.i64_in _ (by omega)
            have HX := Lib.hid hxc
            obtain ⟨y, hy⟩ : ∃ y, xs.getD j 0 = y := ⟨_, rfl⟩
            rw [hy] at HE
            have HY := Lib.hid hy
            have hal : acc.length < 17592186044416 := by rw [HACC.out]; omega
            have HAL := Lib.hid hal
            clear hB1 C hD1 hhc c0 c1 c2 c3 hxc hal hy HD
            go_wp2_with fail
            go_quiet (fail)
            have HD2 := Lib.hid (HD1.out.later hsz1 (below_drewN (Below.refl _ w1) nq))
            generalize w1.drewN nq = w1q at *
            have hsz2 : w0.heap.size ≤ w1q.heap.size := HD2.out.bl.size
            have hxj := HD2.out.a.at hj
            rw [HY.out] at hxj
            go_wp2_with (at_builtin; refine wpList_pushL rfl _ _ rfl w0.heap.size (.slice RH acc.length crh) acc y rfl HD2.out.h rfl HAL.out hsz2 HD2.out.bl ?_)
            intro g cap w2 ho2 hB2 hg2 hlo hlt2
            have hD3 := (HD2.out.push ho2 hB2 hg2 hlo)
            have HD3 := Lib.hid hD3
            obtain ⟨p0, p1, p2, p3, f0, f1, f2, f3⟩ := hD3.q.at
            clear ho2 hB2 hg2 hlo hlt2 hD3 HD2 HD1
            have HD4 := Lib.hid HD3.out.drew
            have hel : (xs.eraseIdx j).length ≤ 400 := Nat.le_trans (List.length_eraseIdx_le _ _) (by omega)
            have HR : Hid (∀ (v u : Value) (wx : World), DW w0.heap.size w.heap.size w0 (na - 1) nb v (.slice RB ys.length crb) u (xs.eraseIdx j) ys (acc ++ [y]) wx → DR w0.heap.size w.heap.size w0 ws hs (selJ NA NB XS YS [] ws hs) (k + 1) (na - 1) nb v (.slice RB ys.length crb) u (xs.eraseIdx j) ys (acc ++ [y]) wx) := fun v u wx hx => ⟨hx, by omega, by omega, by omega, by omega, by omega, by omega, by omega, by rw [List.length_append, HACC.out]; rfl, HE.out⟩
            clear HD3 HE hel HACC
            go_wp2_with fail
            go_region_with ((go_at_call 43; refine (delete_own (.slice (some ⟨gx, 0, none⟩) xs.length cra) w0.heap.size j xs _ HD4.out.a hj).mono ?_; rintro e w3 ⟨v, rfl, hO, ho, hb3, hk3⟩; obtain ⟨RV, cv, rfl⟩ := hO.shape; obtain ⟨hq, hDD⟩ := HD4.out.delA hO ho hb3 hk3; obtain ⟨q0, q1, q2, q3, z0, z1, z2, z3⟩ := hq.at; have HDD := Lib.hid hDD; clear hO ho hb3 hk3 hq hDD))
            all_goals
              go_wp2
              go_roundw
              case rel => exact ⟨k + 1, _, _, _, _, _, _, _, by go_num, HR.out _ _ _ (HDD.out _)⟩
              case measure => simp [intOf]; omega
        · have ep : pickR na nb d = (1, 0) := (if_neg hbad).trans (if_neg hda)
          rw [if_neg hda] at hE
          rw [ep] at C
          clear ep hbad
          by_cases hbh : h < 0 ∨ (ys.length : Int) ≤ h
          · have E : Hid (selJ NA NB XS YS [] ws hs = ([], 2)) := hE.trans (if_pos hbh)
            clear hE c0 c1 c2 c3
            unfold ptup at C
            obtain ⟨c0, c1, c2, c3, _⟩ := HD.out.d.q.at
            go_wp2_with fail
            refine C.out.mono ?_
            rintro e w1 ⟨rfl, hB1⟩
            have hD1 := HD.out.d.later hsz hB1
            obtain ⟨d0, d1, d2, d3, _⟩ := hD1.q.at
            obtain ⟨hb, hoff, rfl, _, hhc⟩ := (HH.out.later hD1.bl).il.at (by have := HL.out; omega)
            have hhk := hhc k (by have := HL.out; omega)
            rw [HHE.out] at hhk
            have HB1 := Lib.hid hD1.bl
            clear hB1 C hD1 hhc c0 c1 c2 c3
            go_wp2_with fail
            go_quiet (fail)
            rcases (show h < 0 ∨ (0 ≤ h ∧ (ys.length : Int) ≤ h) by omega) with hbh | ⟨hbh0, hbh⟩
            · go_wp2
              go_ret2
              exact drp_err E.out (below_drewN HB1.out _)
            · go_wp2
              go_ret2
              exact drp_err E.out (below_drewN HB1.out _)
          · rw [if_neg hbh] at hE
            obtain ⟨j, rfl⟩ : ∃ j : Nat, h = j := ⟨h.toNat, by omega⟩
            have hj : j < ys.length := by omega
            rw [Int.toNat_natCast] at hE
            have HE := Lib.hid hE
            clear hE hbh c0 c1 c2 c3
            unfold ptup at C
            obtain ⟨c0, c1, c2, c3, _⟩ := HD.out.d.q.at
            go_wp2_with fail
            refine C.out.mono ?_
            rintro e w1 ⟨rfl, hB1⟩
            have hD1 := HD.out.d.later hsz hB1
            obtain ⟨d0, d1, d2, d3, _⟩ := hD1.q.at
            obtain ⟨hb, hoff, rfl, _, hhc⟩ := (HH.out.later hD1.bl).il.at (by have := HL.out; omega)
            have hhk := hhc k (by have := HL.out; omega)
            rw [HHE.out] at hhk
            obtain ⟨gx, cx, hvx, hgx, _, _, hcx1, hxc, _, _⟩ := hD1.b.form rfl (by omega)
            injection hvx with hR _ hcr
            subst hR
            subst hcr
            have HD1 := Lib.hid hD1
            have hsz1 : w0.heap.size ≤ w1.heap.size := hD1.bl.size
            have hji : (j : Int) < (ys.length : Int) := by omega
            have hj0 : (0 : Int) ≤ (j : Int) := by omega
            have ew : IntKind.i64.wrap ((j : Int) + 1) = (j : Int) + 1 := IntWalk.i64_in _ (by omega)
            have ew2 : IntKind.i64.wrap (nb - 1) = nb - 1 := IntWalk.i64_in _ (by omega)
            have HX := Lib.hid hxc
            obtain ⟨y, hy⟩ : ∃ y, ys.getD j 0 = y := ⟨_, rfl⟩
            rw [hy] at HE
            have HY := Lib.hid hy
            have hal : acc.length < 17592186044416 := by rw [HACC.out]; omega
            have HAL := Lib.hid hal
            clear hB1 C hD1 hhc c0 c1 c2 c3 hxc hal hy HD
            go_wp2_with fail
            go_quiet (fail)
            have HD2 := Lib.hid (HD1.out.later hsz1 (below_drewN (Below.refl _ w1) nq))
            generalize w1.drewN nq = w1q at *
            have hsz2 : w0.heap.size ≤ w1q.heap.size := HD2.out.bl.size
            have hxj := HD2.out.b.at hj
            rw [HY.out] at hxj
            go_wp2_with (at_builtin; refine wpList_pushL rfl _ _ rfl w0.heap.size (.slice RH acc.length crh) acc y rfl HD2.out.h rfl HAL.out hsz2 HD2.out.bl ?_)
            intro g cap w2 ho2 hB2 hg2 hlo hlt2
            have hD3 := (HD2.out.push ho2 hB2 hg2 hlo)
            have HD3 := Lib.hid hD3
            obtain ⟨p0, p1, p2, p3, f0, f1, f2, f3⟩ := hD3.q.at
            clear ho2 hB2 hg2 hlo hlt2 hD3 HD2 HD1
            have HD4 := Lib.hid HD3.out.drew
            have hel : (ys.eraseIdx j).length ≤ 400 := Nat.le_trans (List.length_eraseIdx_le _ _) (by omega)
            have HR : Hid (∀ (v u : Value) (wx : World), DW w0.heap.size w.heap.size w0 na (nb - 1) (.slice RA xs.length cra) v u xs (ys.eraseIdx j) (acc ++ [y]) wx → DR w0.heap.size w.heap.size w0 ws hs (selJ NA NB XS YS [] ws hs) (k + 1) na (nb - 1) (.slice RA xs.length cra) v u xs (ys.eraseIdx j) (acc ++ [y]) wx) := fun v u wx hx => ⟨hx, by omega, by omega, by omega, by omega, by omega, by omega, by omega, by rw [List.length_append, HACC.out]; rfl, HE.out⟩
            clear HD3 HE hel HACC
            go_wp2_with fail
            go_region_with ((go_at_call 43; refine (delete_own (.slice (some ⟨gx, 0, none⟩) ys.length crb) w0.heap.size j ys _ HD4.out.b hj).mono ?_; rintro e w3 ⟨v, rfl, hO, ho, hb3, hk3⟩; obtain ⟨RV, cv, rfl⟩ := hO.shape; obtain ⟨hq, hDD⟩ := HD4.out.delB hO ho hb3 hk3; obtain ⟨q0, q1, q2, q3, z0, z1, z2, z3⟩ := hq.at; have HDD := Lib.hid hDD; clear hO ho hb3 hk3 hq hDD))
            all_goals
              go_wp2
              go_roundw
              case rel => exact ⟨k + 1, _, _, _, _, _, _, _, by go_num, HR.out _ _ _ (HDD.out _)⟩
              case measure => simp [intOf]; omega
    · obtain rfl : ws.length = k := by omega
      have E : Hid (selJ NA NB XS YS [] ws hs = (acc, 0)) := HD.out.e.trans (selJ_end (Nat.le_refl _))
      have HO := Lib.hid HD.out.d.h
      have HB1 := Lib.hid HD.out.d.bl
      clear HD c0 c1 c2 c3
      go_wp2
      go_ret2
      exact drp_ok E.out HB1.out HO.out
end Go.Proofs.Ytjhcbjpbmbjgoaa
