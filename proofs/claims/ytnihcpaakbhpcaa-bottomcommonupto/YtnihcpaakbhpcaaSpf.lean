/- slices.pdqsortOrdered of words (made by a program). -/
import Derived.Test.YtnihcpaakbhpcaaSo3
import Derived.Test.YtnihcpaakbhpcaaSo5
import Derived.Test.YtnihcpaakbhpcaaSo8
import Derived.Test.YtnihcpaakbhpcaaSo9
import Derived.Test.YtnihcpaakbhpcaaSpb
import Derived.Test.YtnihcpaakbhpcaaSpe
import Derived.Deep.CutRange
namespace Go.Proofs.Ytnihcpaakbhpcaa
open Go.RowKit Go.Deep

/-- The contract for parts of less than d words. -/
def PdqC (B g cap n d : Nat) : Prop := ∀ (a b lm : Nat) (l : List W64) (w : World), OU w B (.slice (some ⟨g, 0, none⟩) n cap) l → l.length = n → g < w.heap.size → a ≤ b → b ≤ n → lm ≤ 64 → Lo l a b → b - a < d →
  Calls Try.prog 58 #[(.slice (some ⟨g, 0, none⟩) n cap), .int .i64 a, .int .i64 b, .int .i64 lm] w (SPost w B (.slice (some ⟨g, 0, none⟩) n cap) a b l fun l' => Srt l' a b)

set_option maxRecDepth 100000 in
set_option maxHeartbeats 64000000 in
theorem pdq_step (B g cap n d : Nat) (hB : B ≤ g) (hs : n ≤ 17592186044416) (IH : PdqC B g cap n d) : PdqC B g cap n (d + 1) := by
  intro a b lm l w hO hn hg hab hb hlm hlo hd
  have IH := Lib.hid IH
  have HO := Lib.hid hO
  have HN := Lib.hid hn
  have HGB := Lib.hid hB
  have HG := Lib.hid hg
  have HLo := Lib.hid hlo
  clear hO hn hB hg hlo
  go_enter Try.func58, Try.ntmps58
  go_wp2_with fail
  go_loopw [1, 2, 3, 8, 9] (fun av bv mv xv yv wr => ∃ (a' b' lm : Nat) (wb wp : Bool) (l' : List W64), a ≤ a' ∧ a' ≤ b' ∧ b' ≤ b ∧ av = .int .i64 a' ∧ bv = .int .i64 b' ∧ mv = .int .i64 lm ∧ xv = .bool wb ∧ yv = .bool wp ∧ Sw a b l l' ∧ Jn l' a b a' b' ∧ OU wr B (.slice (some ⟨g, 0, none⟩) n cap) l' ∧ Below B w wr ∧ lm ≤ 64) (fun av bv _ _ _ _ => (intOf bv).toNat - (intOf av).toNat)
  case atStart => exact ⟨a, b, lm, true, true, l, Nat.le_refl _, hab, Nat.le_refl _, rfl, rfl, rfl, rfl, rfl, .refl _, Jn.start l a b, HO.out, Below.refl _ _, hlm⟩
  case round =>
    clear HO hlm
    obtain ⟨a', b', lm, wb, wp, l1, ha1, hab1, hb1, rfl, rfl, rfl, rfl, rfl, hS, hJ, hO1, hbb, hlm⟩ := hrel
    have HS := Lib.hid hS
    have HJ := Lib.hid hJ
    have HO1 := Lib.hid hO1
    have HB1 := Lib.hid hbb
    have HL := Lib.hid (hS.len.trans HN.out)
    clear hS hJ hO1 hbb
    obtain ⟨L, hL⟩ : ∃ L : Nat, L = b' - a' := ⟨_, rfl⟩
    have e1 : (b' : Int) - (a' : Int) = (L : Int) := by omega
    have e2 : IntKind.i64.wrap (L : Int) = (L : Int) := IntWalk.i64_in _ (by omega)
    by_cases h12 : L ≤ 12
    · have d1 : decide ((L : Int) ≤ 12) = true := decide_eq_true (by omega)
      have K := Lib.hid (insertion_any B g cap n a' b' l1 wr HO1.out HL.out HGB.out hab1 (by omega) hs)
      clear hL
      go_wp2_with fail
      refine K.out.mono ?_
      rintro e w2 ⟨l2, rfl, hs2, ht2, ho2, hb2⟩
      have HR := Lib.hid (Jn.done (Jn.keep HJ.out hs2 ha1 hb1) ht2)
      have HS2 := Lib.hid (HS.out.trans (hs2.mono ha1 hb1 (by have := HL.out; omega)))
      have HO2 := Lib.hid ho2
      have HB2 := Lib.hid (HB1.out.trans hb2)
      clear hs2 ht2 ho2 hb2 K
      go_wp2
      go_end0
      exact ⟨l2, rfl, HS2.out, HR.out, HO2.out, HB2.out⟩
    · have d1 : decide ((L : Int) ≤ 12) = false := decide_eq_false (by omega)
      have hLL : a' + 12 < b' := by omega
      obtain ⟨q8, hq8⟩ : ∃ q8 : Nat, q8 = L / 8 := ⟨_, rfl⟩
      have e60 : Int.tdiv (L : Int) 8 = (q8 : Int) := by rw [hq8]; simp
      have e61 : IntKind.i64.wrap (q8 : Int) = (q8 : Int) := IntWalk.i64_in _ (by omega)
      clear hL h12 hq8
      rcases lm with _ | t
      · have K := Lib.hid (heap_any B g cap n a' b' l1 wr HO1.out HL.out HGB.out (by omega) (by omega) hs)
        rw [show ((0 : Nat) : Int) = 0 from rfl]
        go_wp2_with fail
        refine K.out.mono ?_
        rintro e w2 ⟨l2, rfl, hs2, ht2, ho2, hb2⟩
        have HR := Lib.hid (Jn.done (Jn.keep HJ.out hs2 ha1 hb1) ht2)
        have HS2 := Lib.hid (HS.out.trans (hs2.mono ha1 hb1 (by have := HL.out; omega)))
        have HO2 := Lib.hid ho2
        have HB2 := Lib.hid (HB1.out.trans hb2)
        clear hs2 ht2 ho2 hb2 K
        go_wp2
        go_end0
        exact ⟨l2, rfl, HS2.out, HR.out, HO2.out, HB2.out⟩
      · obtain ⟨lm, hlm2⟩ : ∃ lm, lm = t + 1 := ⟨_, rfl⟩
        rw [← hlm2]
        have t0 : ((lm : Int) == 0) = false := by simp; omega
        have hlm3 : lm ≤ 64 := by omega
        have e70 : (lm : Int) - 1 = (t : Int) := by omega
        have e71 : IntKind.i64.wrap (t : Int) = (t : Int) := IntWalk.i64_in _ (by omega)
        clear hlm2
        go_upto_if 35 with fail
        go_cut [3] from 19 to 133 (fun mv wx => ∃ (lm2 : Nat) (l2 : List W64), mv = .int .i64 lm2 ∧ lm2 ≤ 64 ∧ Sw a b l l2 ∧ Jn l2 a b a' b' ∧ OU wx B (.slice (some ⟨g, 0, none⟩) n cap) l2 ∧ Below B w wx)
        case first =>
          cases wb
          · have HG3 : Hid (g < wr.heap.size) := by have := HG.out; have := HB1.out.size; show _ < _; omega
            have K := Lib.hid (break_any B g cap n a' b' l1 wr HO1.out HL.out HGB.out HG3.out hLL (by omega) hs)
            go_wp2_with fail
            refine K.out.mono ?_
            rintro e w3 ⟨l2, rfl, hs2, _, ho2, hb2⟩
            have HL2 := Lib.hid (hs2.len.trans HL.out)
            have HS2 := Lib.hid (HS.out.trans (hs2.mono ha1 hb1 (by have := HL.out; omega)))
            have HJ2 := Lib.hid (Jn.keep HJ.out hs2 ha1 hb1)
            have HO2 := Lib.hid ho2
            have HB2 := Lib.hid (HB1.out.trans hb2)
            clear HS HJ HO1 HB1 HL
            obtain ⟨HS, HJ, HO1, HB1, HL⟩ := And.intro HS2 (And.intro HJ2 (And.intro HO2 (And.intro HB2 HL2)))
            clear HS2 HJ2 HO2 HB2 HL2
            clear hs2 ho2 hb2 K
            go_wp2
            go_meet
            case rel => exact ⟨t, l2, by go_num, by omega, HS.out, HJ.out, HO1.out, HB1.out⟩
          · go_wp2
            go_meet
            case rel => exact ⟨lm, l1, rfl, hlm3, HS.out, HJ.out, HO1.out, HB1.out⟩
        case rest =>
          clear HS HJ HO1 HB1 HL t0 e70 e71
          obtain ⟨lm2, l2, rfl, hlm2, hS, hJ, hO1, hbb⟩ := hcut
          have HS := Lib.hid hS
          have HJ := Lib.hid hJ
          have HO1 := Lib.hid hO1
          have HB1 := Lib.hid hbb
          have HL := Lib.hid (hS.len.trans HN.out)
          clear hS hJ hO1 hbb
          have HG4 : Hid (g < wc.heap.size) := by have := HG.out; have := HB1.out.size; show _ < _; omega
          have K := Lib.hid (pivot_any B g cap n a' b' l2 wc HO1.out HL.out HG4.out (by omega) (by omega) hs)
          go_wp2_with fail
          refine K.out.mono ?_
          rintro e w4 ⟨x, h, rfl, hx1, hx2, hb4⟩
          have HO2 := Lib.hid (HO1.out.later hb4)
          have HB2 := Lib.hid (HB1.out.trans (hb4.mono (by have := HG4.out; have := HGB.out; omega)))
          clear HO1 HB1 hb4 K
          obtain ⟨HO1, HB1⟩ := And.intro HO2 HB2
          clear HO2 HB2
          go_upto_if 50 with fail
          go_cut [11, 12] from 19 to 133 (fun pv hv wx => ∃ (p : Nat) (h' : Int) (l3 : List W64), pv = .int .i64 p ∧ hv = .int .i64 h' ∧ a' ≤ p ∧ p < b' ∧ Sw a b l l3 ∧ Jn l3 a b a' b' ∧ OU wx B (.slice (some ⟨g, 0, none⟩) n cap) l3 ∧ Below B w wx)
          case first =>
            by_cases h2 : h = 2
            · subst h2
              obtain ⟨bm, hbm⟩ : ∃ bm : Nat, bm = b' - 1 := ⟨_, rfl⟩
              obtain ⟨xa, hxa⟩ : ∃ xa : Nat, xa = x - a' := ⟨_, rfl⟩
              obtain ⟨y, hy⟩ : ∃ y : Nat, y = bm - xa := ⟨_, rfl⟩
              have e50 : (b' : Int) - 1 = (bm : Int) := by omega
              have e51 : IntKind.i64.wrap (bm : Int) = (bm : Int) := IntWalk.i64_in _ (by omega)
              have e52 : (x : Int) - (a' : Int) = (xa : Int) := by omega
              have e53 : IntKind.i64.wrap (xa : Int) = (xa : Int) := IntWalk.i64_in _ (by omega)
              have e54 : (bm : Int) - (xa : Int) = (y : Int) := by omega
              have e55 : IntKind.i64.wrap (y : Int) = (y : Int) := IntWalk.i64_in _ (by omega)
              have hy1 : a' ≤ y := by omega
              have hy2 : y < b' := by omega
              clear hbm hxa hy
              have K := Lib.hid (reverseR_any B g cap n a' b' l2 w4 HO1.out HL.out HGB.out (by omega) (by omega) hs)
              go_wp2_with fail
              refine K.out.mono ?_
              rintro e w5 ⟨l3, rfl, hs3, _, ho3, hb3⟩
              have HL2 := Lib.hid (hs3.len.trans HL.out)
              have HS2 := Lib.hid (HS.out.trans (hs3.mono ha1 hb1 (by have := HL.out; omega)))
              have HJ2 := Lib.hid (Jn.keep HJ.out hs3 ha1 hb1)
              have HO2 := Lib.hid ho3
              have HB2 := Lib.hid (HB1.out.trans hb3)
              clear HS HJ HO1 HB1 HL
              obtain ⟨HS, HJ, HO1, HB1, HL⟩ := And.intro HS2 (And.intro HJ2 (And.intro HO2 (And.intro HB2 HL2)))
              clear HS2 HJ2 HO2 HB2 HL2
              clear hs3 ho3 hb3 K
              go_wp2
              go_meet
              case rel => exact ⟨y, _, l3, rfl, rfl, hy1, hy2, HS.out, HJ.out, HO1.out, HB1.out⟩
            · have t2 : (h == 2) = false := by simp; exact h2
              go_wp2
              go_meet
              case rel => exact ⟨x, _, l2, rfl, rfl, hx1, hx2, HS.out, HJ.out, HO1.out, HB1.out⟩
          case rest =>
            clear HS HJ HO1 HB1 HL hx1 hx2
            obtain ⟨p, h', l3, rfl, rfl, hx1, hx2, hS, hJ, hO1, hbb⟩ := hcut
            have HS := Lib.hid hS
            have HJ := Lib.hid hJ
            have HO1 := Lib.hid hO1
            have HB1 := Lib.hid hbb
            have HL := Lib.hid (hS.len.trans HN.out)
            clear hS hJ hO1 hbb
            by_cases hP : wb = true ∧ wp = true ∧ h' = 1
            · obtain ⟨rfl, rfl, rfl⟩ := hP
              have K := Lib.hid (partial_any B g cap n a' b' l3 wc HO1.out HL.out HGB.out (by omega) (by omega) hs (Jn.lo HJ.out (HLo.out.keep HS.out) ha1 hb1))
              go_wp2_with fail
              refine K.out.mono ?_
              rintro e w6 ⟨l4, s4, rfl, hs4, ht4, ho4, hb4⟩
              have HL2 := Lib.hid (hs4.len.trans HL.out)
              have HS2 := Lib.hid (HS.out.trans (hs4.mono ha1 hb1 (by have := HL.out; omega)))
              have HJ2 := Lib.hid (Jn.keep HJ.out hs4 ha1 hb1)
              have HO2 := Lib.hid ho4
              have HB2 := Lib.hid (HB1.out.trans hb4)
              clear HS HJ HO1 HB1 HL
              obtain ⟨HS, HJ, HO1, HB1, HL⟩ := And.intro HS2 (And.intro HJ2 (And.intro HO2 (And.intro HB2 HL2)))
              clear HS2 HJ2 HO2 HB2 HL2
              cases s4
              · clear ht4 hs4 ho4 hb4 K
                have HLo2 := Lib.hid (Jn.lo HJ.out (HLo.out.keep HS.out) ha1 hb1)
                by_cases ha0 : 0 < a'
                · have d6 : decide ((0 : Int) < (a' : Int)) = true := decide_eq_true (by omega)
                  obtain ⟨am, ham⟩ : ∃ am : Nat, a' = am + 1 := ⟨a' - 1, by omega⟩
                  have e33 : (a' : Int) - 1 = (am : Int) := by omega
                  have e34 : IntKind.i64.wrap (am : Int) = (am : Int) := IntWalk.i64_in _ (by omega)
                  have hLm : ∀ k, a' ≤ k → k < b' → ky l4 am ≤ ky l4 k := by
                    rcases HLo2.out with h | h
                    · omega
                    · rw [show a' - 1 = am by omega] at h; exact h
                  have HLm := Lib.hid hLm
                  clear hLm
                  have c1 := HO1.out.at (i := am) (by have := HL.out; omega)
                  have c2 := HO1.out.at (i := p) (by have := HL.out; omega)
                  have i1 : (am : Int) < (n : Int) := by omega
                  have i2 : (p : Int) < (n : Int) := by omega
                  have HAM := Lib.hid (show a' = am + 1 from ham)
                  clear ham
                  by_cases hc : ky l4 am < ky l4 p
                  · have t1 : decide ((l4.getD am 0).toNat < (l4.getD p 0).toNat) = true := decide_eq_true hc
                    clear hc
                    generalize l4.getD am 0 = u1 at *
                    generalize l4.getD p 0 = u2 at *
                    go_wp2_with fail
                    go_quiet (first | (go_at_call 74; exact Calls.quiet_of_same (less_any _ _ _)))
                    have HO9 := HO1
                    have HB9 := Lib.hid (below_drewN HB1.out nq)
                    clear HO1 HB1 t1 c1 c2
                    go_wp2_with fail
                    have K := Lib.hid (part_any B g cap n a' b' p l4 (w6.drewN nq) HO9.out HL.out HGB.out hx1 hx2 (by omega) hs)
                    refine K.out.mono ?_
                    rintro e w8 ⟨l5, m, s5, rfl, hs5, hm1, hm2, hp5, ho5, hb5⟩
                    have HB1 := HB9
                    have HO1 := HO9
                    have HL2 := Lib.hid (hs5.len.trans HL.out)
                    have HS2 := Lib.hid (HS.out.trans (hs5.mono ha1 hb1 (by have := HL.out; omega)))
                    have HJ2 := Lib.hid (Jn.keep HJ.out hs5 ha1 hb1)
                    have HO2 := Lib.hid ho5
                    have HB2 := Lib.hid (HB1.out.trans hb5)
                    clear HS HJ HO1 HB1 HL
                    obtain ⟨HS, HJ, HO1, HB1, HL⟩ := And.intro HS2 (And.intro HJ2 (And.intro HO2 (And.intro HB2 HL2)))
                    clear HS2 HJ2 HO2 HB2 HL2
                    have HP := Lib.hid hp5
                    clear hs5 ho5 hb5 hp5 K HO9 HB9
                    obtain ⟨ll, hll⟩ : ∃ ll : Nat, ll = m - a' := ⟨_, rfl⟩
                    obtain ⟨rl, hrl⟩ : ∃ rl : Nat, rl = b' - m := ⟨_, rfl⟩
                    have e40 : (m : Int) - (a' : Int) = (ll : Int) := by omega
                    have e41 : IntKind.i64.wrap (ll : Int) = (ll : Int) := IntWalk.i64_in _ (by omega)
                    have e42 : (b' : Int) - (m : Int) = (rl : Int) := by omega
                    have e43 : IntKind.i64.wrap (rl : Int) = (rl : Int) := IntWalk.i64_in _ (by omega)
                    have HLo5 := Lib.hid (Jn.lo HJ.out (HLo.out.keep HS.out) ha1 hb1)
                    have HG5 : Hid (g < w8.heap.size) := by have := HG.out; have := HB1.out.size; show _ < _; omega
                    clear hll hrl
                    by_cases hlr : ll < rl
                    · have d8 : decide ((ll : Int) < (rl : Int)) = true := decide_eq_true (by omega)
                      have K := Lib.hid (IH.out a' m lm2 l5 w8 HO1.out HL.out HG5.out hm1 (by omega) (by omega) (by rcases HLo5.out with h | h; exact .inl h; exact .inr (fun k k1 k2 => h k k1 (by omega))) (by omega))
                      go_wp2_with fail
                      refine K.out.mono ?_
                      rintro e w9 ⟨l6, rfl, hs6, ht6, ho6, hb6⟩
                      have HJ6 := Lib.hid (Jn.right (Jn.keep HJ.out (hs6.mono (Nat.le_refl _) (by omega) (by have := HL.out; omega)) ha1 hb1) (HP.out.keepL hs6 hm2) ht6 ha1 hb1 hm1 hm2)
                      have HS6 := Lib.hid (HS.out.trans (hs6.mono ha1 (by omega) (by have := HL.out; omega)))
                      have HO6 := Lib.hid ho6
                      have HB6 := Lib.hid (HB1.out.trans hb6)
                      clear hs6 ht6 ho6 hb6 K
                      go_wp2
                      go_roundw
                      case rel => exact ⟨m + 1, b', lm2, _, _, l6, by omega, by omega, by omega, by go_num, rfl, by go_num, rfl, rfl, HS6.out, HJ6.out, HO6.out, HB6.out, by omega⟩
                      case measure => simp [intOf]; omega
                    · have d8 : decide ((ll : Int) < (rl : Int)) = false := decide_eq_false (by omega)
                      have HPm := HP.out.2
                      have K := IH.out (m + 1) b' lm2 l5 w8 HO1.out HL.out HG5.out (by omega) (by omega) (by omega) (.inr (fun k k1 k2 => by rw [Nat.add_sub_cancel]; exact HPm k (by omega) k2)) (by omega)
                      rw [show ((m + 1 : Nat) : Int) = (m : Int) + 1 by omega] at K
                      have K := Lib.hid K
                      clear HPm
                      go_wp2_with fail
                      refine K.out.mono ?_
                      rintro e w9 ⟨l6, rfl, hs6, ht6, ho6, hb6⟩
                      have HJ6 := Lib.hid (Jn.left (Jn.keep HJ.out (hs6.mono (by omega) (Nat.le_refl _) (by have := HL.out; omega)) ha1 hb1) (HP.out.keepR hs6) ht6 ha1 hb1 hm1 hm2)
                      have HS6 := Lib.hid (HS.out.trans (hs6.mono (by omega) hb1 (by have := HL.out; omega)))
                      have HO6 := Lib.hid ho6
                      have HB6 := Lib.hid (HB1.out.trans hb6)
                      clear hs6 ht6 ho6 hb6 K
                      go_wp2
                      go_roundw
                      case rel => exact ⟨a', m, lm2, _, _, l6, by omega, by omega, by omega, rfl, rfl, by go_num, rfl, rfl, HS6.out, HJ6.out, HO6.out, HB6.out, by omega⟩
                      case measure => simp [intOf]; omega
                  · have t1 : decide ((l4.getD am 0).toNat < (l4.getD p 0).toNat) = false := decide_eq_false hc
                    have HC := Lib.hid hc
                    clear hc
                    generalize l4.getD am 0 = u1 at *
                    generalize l4.getD p 0 = u2 at *
                    go_wp2_with fail
                    go_quiet (first | (go_at_call 74; exact Calls.quiet_of_same (less_any _ _ _)))
                    clear t1 c1 c2
                    go_wp2_with fail
                    refine (partEq_any B g cap n a' b' p l4 (w6.drewN nq) HO1.out HL.out HGB.out hx1 hx2 (by omega) hs).mono ?_
                    rintro e w8 ⟨l5, m, rfl, hs5, hm1, hm2, he5, hg5, ho5, hb5⟩
                    have HJ5 := Lib.hid (Jn.equal (Jn.keep HJ.out hs5 ha1 hb1) (ky l4 p) he5 (fun k k1 k2 => Nat.le_of_lt (hg5 k k1 k2)) (fun k k1 k2 => hs5.all (Nat.le_refl _) (Nat.le_refl _) (P := fun z => ky l4 p ≤ z) (fun k k1 k2 => by have := HLm.out k k1 k2; have := HC.out; omega) k k1 k2) hm2)
                    have HS5 := Lib.hid (HS.out.trans (hs5.mono ha1 hb1 (by have := HL.out; omega)))
                    have HO5 := Lib.hid ho5
                    have HB5 := Lib.hid ((below_drewN HB1.out nq).trans hb5)
                    clear hs5 he5 hg5 ho5 hb5
                    go_wp2
                    go_roundw
                    case rel => exact ⟨m, b', lm2, _, _, l5, by omega, by omega, by omega, rfl, rfl, by go_num, rfl, rfl, HS5.out, HJ5.out, HO5.out, HB5.out, by omega⟩
                    case measure => simp [intOf]; omega
                · have d6 : decide ((0 : Int) < (a' : Int)) = false := decide_eq_false (by omega)
                  go_wp2_with fail
                  go_quiet (fail)
                  have HO9 := HO1
                  have HB9 := Lib.hid (below_drewN HB1.out nq)
                  clear HO1 HB1
                  go_wp2_with fail
                  have K := Lib.hid (part_any B g cap n a' b' p l4 (w6.drewN nq) HO9.out HL.out HGB.out hx1 hx2 (by omega) hs)
                  refine K.out.mono ?_
                  rintro e w8 ⟨l5, m, s5, rfl, hs5, hm1, hm2, hp5, ho5, hb5⟩
                  have HB1 := HB9
                  have HO1 := HO9
                  have HL2 := Lib.hid (hs5.len.trans HL.out)
                  have HS2 := Lib.hid (HS.out.trans (hs5.mono ha1 hb1 (by have := HL.out; omega)))
                  have HJ2 := Lib.hid (Jn.keep HJ.out hs5 ha1 hb1)
                  have HO2 := Lib.hid ho5
                  have HB2 := Lib.hid (HB1.out.trans hb5)
                  clear HS HJ HO1 HB1 HL
                  obtain ⟨HS, HJ, HO1, HB1, HL⟩ := And.intro HS2 (And.intro HJ2 (And.intro HO2 (And.intro HB2 HL2)))
                  clear HS2 HJ2 HO2 HB2 HL2
                  have HP := Lib.hid hp5
                  clear hs5 ho5 hb5 hp5 K HO9 HB9
                  obtain ⟨ll, hll⟩ : ∃ ll : Nat, ll = m - a' := ⟨_, rfl⟩
                  obtain ⟨rl, hrl⟩ : ∃ rl : Nat, rl = b' - m := ⟨_, rfl⟩
                  have e40 : (m : Int) - (a' : Int) = (ll : Int) := by omega
                  have e41 : IntKind.i64.wrap (ll : Int) = (ll : Int) := IntWalk.i64_in _ (by omega)
                  have e42 : (b' : Int) - (m : Int) = (rl : Int) := by omega
                  have e43 : IntKind.i64.wrap (rl : Int) = (rl : Int) := IntWalk.i64_in _ (by omega)
                  have HLo5 := Lib.hid (Jn.lo HJ.out (HLo.out.keep HS.out) ha1 hb1)
                  have HG5 : Hid (g < w8.heap.size) := by have := HG.out; have := HB1.out.size; show _ < _; omega
                  clear hll hrl
                  by_cases hlr : ll < rl
                  · have d8 : decide ((ll : Int) < (rl : Int)) = true := decide_eq_true (by omega)
                    have K := Lib.hid (IH.out a' m lm2 l5 w8 HO1.out HL.out HG5.out hm1 (by omega) (by omega) (by rcases HLo5.out with h | h; exact .inl h; exact .inr (fun k k1 k2 => h k k1 (by omega))) (by omega))
                    go_wp2_with fail
                    refine K.out.mono ?_
                    rintro e w9 ⟨l6, rfl, hs6, ht6, ho6, hb6⟩
                    have HJ6 := Lib.hid (Jn.right (Jn.keep HJ.out (hs6.mono (Nat.le_refl _) (by omega) (by have := HL.out; omega)) ha1 hb1) (HP.out.keepL hs6 hm2) ht6 ha1 hb1 hm1 hm2)
                    have HS6 := Lib.hid (HS.out.trans (hs6.mono ha1 (by omega) (by have := HL.out; omega)))
                    have HO6 := Lib.hid ho6
                    have HB6 := Lib.hid (HB1.out.trans hb6)
                    clear hs6 ht6 ho6 hb6 K
                    go_wp2
                    go_roundw
                    case rel => exact ⟨m + 1, b', lm2, _, _, l6, by omega, by omega, by omega, by go_num, rfl, by go_num, rfl, rfl, HS6.out, HJ6.out, HO6.out, HB6.out, by omega⟩
                    case measure => simp [intOf]; omega
                  · have d8 : decide ((ll : Int) < (rl : Int)) = false := decide_eq_false (by omega)
                    have HPm := HP.out.2
                    have K := IH.out (m + 1) b' lm2 l5 w8 HO1.out HL.out HG5.out (by omega) (by omega) (by omega) (.inr (fun k k1 k2 => by rw [Nat.add_sub_cancel]; exact HPm k (by omega) k2)) (by omega)
                    rw [show ((m + 1 : Nat) : Int) = (m : Int) + 1 by omega] at K
                    have K := Lib.hid K
                    clear HPm
                    go_wp2_with fail
                    refine K.out.mono ?_
                    rintro e w9 ⟨l6, rfl, hs6, ht6, ho6, hb6⟩
                    have HJ6 := Lib.hid (Jn.left (Jn.keep HJ.out (hs6.mono (by omega) (Nat.le_refl _) (by have := HL.out; omega)) ha1 hb1) (HP.out.keepR hs6) ht6 ha1 hb1 hm1 hm2)
                    have HS6 := Lib.hid (HS.out.trans (hs6.mono (by omega) hb1 (by have := HL.out; omega)))
                    have HO6 := Lib.hid ho6
                    have HB6 := Lib.hid (HB1.out.trans hb6)
                    clear hs6 ht6 ho6 hb6 K
                    go_wp2
                    go_roundw
                    case rel => exact ⟨a', m, lm2, _, _, l6, by omega, by omega, by omega, rfl, rfl, by go_num, rfl, rfl, HS6.out, HJ6.out, HO6.out, HB6.out, by omega⟩
                    case measure => simp [intOf]; omega
              · have HR := Lib.hid (Jn.done HJ.out (ht4 rfl))
                go_wp2
                go_end0
                exact ⟨l4, rfl, HS.out, HR.out, HO1.out, HB1.out⟩
            · cases wb
              · clear hP
                have HLo2 := Lib.hid (Jn.lo HJ.out (HLo.out.keep HS.out) ha1 hb1)
                by_cases ha0 : 0 < a'
                · have d6 : decide ((0 : Int) < (a' : Int)) = true := decide_eq_true (by omega)
                  obtain ⟨am, ham⟩ : ∃ am : Nat, a' = am + 1 := ⟨a' - 1, by omega⟩
                  have e33 : (a' : Int) - 1 = (am : Int) := by omega
                  have e34 : IntKind.i64.wrap (am : Int) = (am : Int) := IntWalk.i64_in _ (by omega)
                  have hLm : ∀ k, a' ≤ k → k < b' → ky l3 am ≤ ky l3 k := by
                    rcases HLo2.out with h | h
                    · omega
                    · rw [show a' - 1 = am by omega] at h; exact h
                  have HLm := Lib.hid hLm
                  clear hLm
                  have c1 := HO1.out.at (i := am) (by have := HL.out; omega)
                  have c2 := HO1.out.at (i := p) (by have := HL.out; omega)
                  have i1 : (am : Int) < (n : Int) := by omega
                  have i2 : (p : Int) < (n : Int) := by omega
                  have HAM := Lib.hid (show a' = am + 1 from ham)
                  clear ham
                  by_cases hc : ky l3 am < ky l3 p
                  · have t1 : decide ((l3.getD am 0).toNat < (l3.getD p 0).toNat) = true := decide_eq_true hc
                    clear hc
                    generalize l3.getD am 0 = u1 at *
                    generalize l3.getD p 0 = u2 at *
                    go_wp2_with fail
                    go_quiet (first | (go_at_call 74; exact Calls.quiet_of_same (less_any _ _ _)))
                    have HO9 := HO1
                    have HB9 := Lib.hid (below_drewN HB1.out nq)
                    clear HO1 HB1 t1 c1 c2
                    go_wp2_with fail
                    have K := Lib.hid (part_any B g cap n a' b' p l3 (wc.drewN nq) HO9.out HL.out HGB.out hx1 hx2 (by omega) hs)
                    refine K.out.mono ?_
                    rintro e w8 ⟨l5, m, s5, rfl, hs5, hm1, hm2, hp5, ho5, hb5⟩
                    have HB1 := HB9
                    have HO1 := HO9
                    have HL2 := Lib.hid (hs5.len.trans HL.out)
                    have HS2 := Lib.hid (HS.out.trans (hs5.mono ha1 hb1 (by have := HL.out; omega)))
                    have HJ2 := Lib.hid (Jn.keep HJ.out hs5 ha1 hb1)
                    have HO2 := Lib.hid ho5
                    have HB2 := Lib.hid (HB1.out.trans hb5)
                    clear HS HJ HO1 HB1 HL
                    obtain ⟨HS, HJ, HO1, HB1, HL⟩ := And.intro HS2 (And.intro HJ2 (And.intro HO2 (And.intro HB2 HL2)))
                    clear HS2 HJ2 HO2 HB2 HL2
                    have HP := Lib.hid hp5
                    clear hs5 ho5 hb5 hp5 K HO9 HB9
                    obtain ⟨ll, hll⟩ : ∃ ll : Nat, ll = m - a' := ⟨_, rfl⟩
                    obtain ⟨rl, hrl⟩ : ∃ rl : Nat, rl = b' - m := ⟨_, rfl⟩
                    have e40 : (m : Int) - (a' : Int) = (ll : Int) := by omega
                    have e41 : IntKind.i64.wrap (ll : Int) = (ll : Int) := IntWalk.i64_in _ (by omega)
                    have e42 : (b' : Int) - (m : Int) = (rl : Int) := by omega
                    have e43 : IntKind.i64.wrap (rl : Int) = (rl : Int) := IntWalk.i64_in _ (by omega)
                    have HLo5 := Lib.hid (Jn.lo HJ.out (HLo.out.keep HS.out) ha1 hb1)
                    have HG5 : Hid (g < w8.heap.size) := by have := HG.out; have := HB1.out.size; show _ < _; omega
                    clear hll hrl
                    by_cases hlr : ll < rl
                    · have d8 : decide ((ll : Int) < (rl : Int)) = true := decide_eq_true (by omega)
                      have K := Lib.hid (IH.out a' m lm2 l5 w8 HO1.out HL.out HG5.out hm1 (by omega) (by omega) (by rcases HLo5.out with h | h; exact .inl h; exact .inr (fun k k1 k2 => h k k1 (by omega))) (by omega))
                      go_wp2_with fail
                      refine K.out.mono ?_
                      rintro e w9 ⟨l6, rfl, hs6, ht6, ho6, hb6⟩
                      have HJ6 := Lib.hid (Jn.right (Jn.keep HJ.out (hs6.mono (Nat.le_refl _) (by omega) (by have := HL.out; omega)) ha1 hb1) (HP.out.keepL hs6 hm2) ht6 ha1 hb1 hm1 hm2)
                      have HS6 := Lib.hid (HS.out.trans (hs6.mono ha1 (by omega) (by have := HL.out; omega)))
                      have HO6 := Lib.hid ho6
                      have HB6 := Lib.hid (HB1.out.trans hb6)
                      clear hs6 ht6 ho6 hb6 K
                      go_wp2
                      go_roundw
                      case rel => exact ⟨m + 1, b', lm2, _, _, l6, by omega, by omega, by omega, by go_num, rfl, by go_num, rfl, rfl, HS6.out, HJ6.out, HO6.out, HB6.out, by omega⟩
                      case measure => simp [intOf]; omega
                    · have d8 : decide ((ll : Int) < (rl : Int)) = false := decide_eq_false (by omega)
                      have HPm := HP.out.2
                      have K := IH.out (m + 1) b' lm2 l5 w8 HO1.out HL.out HG5.out (by omega) (by omega) (by omega) (.inr (fun k k1 k2 => by rw [Nat.add_sub_cancel]; exact HPm k (by omega) k2)) (by omega)
                      rw [show ((m + 1 : Nat) : Int) = (m : Int) + 1 by omega] at K
                      have K := Lib.hid K
                      clear HPm
                      go_wp2_with fail
                      refine K.out.mono ?_
                      rintro e w9 ⟨l6, rfl, hs6, ht6, ho6, hb6⟩
                      have HJ6 := Lib.hid (Jn.left (Jn.keep HJ.out (hs6.mono (by omega) (Nat.le_refl _) (by have := HL.out; omega)) ha1 hb1) (HP.out.keepR hs6) ht6 ha1 hb1 hm1 hm2)
                      have HS6 := Lib.hid (HS.out.trans (hs6.mono (by omega) hb1 (by have := HL.out; omega)))
                      have HO6 := Lib.hid ho6
                      have HB6 := Lib.hid (HB1.out.trans hb6)
                      clear hs6 ht6 ho6 hb6 K
                      go_wp2
                      go_roundw
                      case rel => exact ⟨a', m, lm2, _, _, l6, by omega, by omega, by omega, rfl, rfl, by go_num, rfl, rfl, HS6.out, HJ6.out, HO6.out, HB6.out, by omega⟩
                      case measure => simp [intOf]; omega
                  · have t1 : decide ((l3.getD am 0).toNat < (l3.getD p 0).toNat) = false := decide_eq_false hc
                    have HC := Lib.hid hc
                    clear hc
                    generalize l3.getD am 0 = u1 at *
                    generalize l3.getD p 0 = u2 at *
                    go_wp2_with fail
                    go_quiet (first | (go_at_call 74; exact Calls.quiet_of_same (less_any _ _ _)))
                    clear t1 c1 c2
                    go_wp2_with fail
                    refine (partEq_any B g cap n a' b' p l3 (wc.drewN nq) HO1.out HL.out HGB.out hx1 hx2 (by omega) hs).mono ?_
                    rintro e w8 ⟨l5, m, rfl, hs5, hm1, hm2, he5, hg5, ho5, hb5⟩
                    have HJ5 := Lib.hid (Jn.equal (Jn.keep HJ.out hs5 ha1 hb1) (ky l3 p) he5 (fun k k1 k2 => Nat.le_of_lt (hg5 k k1 k2)) (fun k k1 k2 => hs5.all (Nat.le_refl _) (Nat.le_refl _) (P := fun z => ky l3 p ≤ z) (fun k k1 k2 => by have := HLm.out k k1 k2; have := HC.out; omega) k k1 k2) hm2)
                    have HS5 := Lib.hid (HS.out.trans (hs5.mono ha1 hb1 (by have := HL.out; omega)))
                    have HO5 := Lib.hid ho5
                    have HB5 := Lib.hid ((below_drewN HB1.out nq).trans hb5)
                    clear hs5 he5 hg5 ho5 hb5
                    go_wp2
                    go_roundw
                    case rel => exact ⟨m, b', lm2, _, _, l5, by omega, by omega, by omega, rfl, rfl, by go_num, rfl, rfl, HS5.out, HJ5.out, HO5.out, HB5.out, by omega⟩
                    case measure => simp [intOf]; omega
                · have d6 : decide ((0 : Int) < (a' : Int)) = false := decide_eq_false (by omega)
                  go_wp2_with fail
                  go_quiet (fail)
                  have HO9 := HO1
                  have HB9 := Lib.hid (below_drewN HB1.out nq)
                  clear HO1 HB1
                  go_wp2_with fail
                  have K := Lib.hid (part_any B g cap n a' b' p l3 (wc.drewN nq) HO9.out HL.out HGB.out hx1 hx2 (by omega) hs)
                  refine K.out.mono ?_
                  rintro e w8 ⟨l5, m, s5, rfl, hs5, hm1, hm2, hp5, ho5, hb5⟩
                  have HB1 := HB9
                  have HO1 := HO9
                  have HL2 := Lib.hid (hs5.len.trans HL.out)
                  have HS2 := Lib.hid (HS.out.trans (hs5.mono ha1 hb1 (by have := HL.out; omega)))
                  have HJ2 := Lib.hid (Jn.keep HJ.out hs5 ha1 hb1)
                  have HO2 := Lib.hid ho5
                  have HB2 := Lib.hid (HB1.out.trans hb5)
                  clear HS HJ HO1 HB1 HL
                  obtain ⟨HS, HJ, HO1, HB1, HL⟩ := And.intro HS2 (And.intro HJ2 (And.intro HO2 (And.intro HB2 HL2)))
                  clear HS2 HJ2 HO2 HB2 HL2
                  have HP := Lib.hid hp5
                  clear hs5 ho5 hb5 hp5 K HO9 HB9
                  obtain ⟨ll, hll⟩ : ∃ ll : Nat, ll = m - a' := ⟨_, rfl⟩
                  obtain ⟨rl, hrl⟩ : ∃ rl : Nat, rl = b' - m := ⟨_, rfl⟩
                  have e40 : (m : Int) - (a' : Int) = (ll : Int) := by omega
                  have e41 : IntKind.i64.wrap (ll : Int) = (ll : Int) := IntWalk.i64_in _ (by omega)
                  have e42 : (b' : Int) - (m : Int) = (rl : Int) := by omega
                  have e43 : IntKind.i64.wrap (rl : Int) = (rl : Int) := IntWalk.i64_in _ (by omega)
                  have HLo5 := Lib.hid (Jn.lo HJ.out (HLo.out.keep HS.out) ha1 hb1)
                  have HG5 : Hid (g < w8.heap.size) := by have := HG.out; have := HB1.out.size; show _ < _; omega
                  clear hll hrl
                  by_cases hlr : ll < rl
                  · have d8 : decide ((ll : Int) < (rl : Int)) = true := decide_eq_true (by omega)
                    have K := Lib.hid (IH.out a' m lm2 l5 w8 HO1.out HL.out HG5.out hm1 (by omega) (by omega) (by rcases HLo5.out with h | h; exact .inl h; exact .inr (fun k k1 k2 => h k k1 (by omega))) (by omega))
                    go_wp2_with fail
                    refine K.out.mono ?_
                    rintro e w9 ⟨l6, rfl, hs6, ht6, ho6, hb6⟩
                    have HJ6 := Lib.hid (Jn.right (Jn.keep HJ.out (hs6.mono (Nat.le_refl _) (by omega) (by have := HL.out; omega)) ha1 hb1) (HP.out.keepL hs6 hm2) ht6 ha1 hb1 hm1 hm2)
                    have HS6 := Lib.hid (HS.out.trans (hs6.mono ha1 (by omega) (by have := HL.out; omega)))
                    have HO6 := Lib.hid ho6
                    have HB6 := Lib.hid (HB1.out.trans hb6)
                    clear hs6 ht6 ho6 hb6 K
                    go_wp2
                    go_roundw
                    case rel => exact ⟨m + 1, b', lm2, _, _, l6, by omega, by omega, by omega, by go_num, rfl, by go_num, rfl, rfl, HS6.out, HJ6.out, HO6.out, HB6.out, by omega⟩
                    case measure => simp [intOf]; omega
                  · have d8 : decide ((ll : Int) < (rl : Int)) = false := decide_eq_false (by omega)
                    have HPm := HP.out.2
                    have K := IH.out (m + 1) b' lm2 l5 w8 HO1.out HL.out HG5.out (by omega) (by omega) (by omega) (.inr (fun k k1 k2 => by rw [Nat.add_sub_cancel]; exact HPm k (by omega) k2)) (by omega)
                    rw [show ((m + 1 : Nat) : Int) = (m : Int) + 1 by omega] at K
                    have K := Lib.hid K
                    clear HPm
                    go_wp2_with fail
                    refine K.out.mono ?_
                    rintro e w9 ⟨l6, rfl, hs6, ht6, ho6, hb6⟩
                    have HJ6 := Lib.hid (Jn.left (Jn.keep HJ.out (hs6.mono (by omega) (Nat.le_refl _) (by have := HL.out; omega)) ha1 hb1) (HP.out.keepR hs6) ht6 ha1 hb1 hm1 hm2)
                    have HS6 := Lib.hid (HS.out.trans (hs6.mono (by omega) hb1 (by have := HL.out; omega)))
                    have HO6 := Lib.hid ho6
                    have HB6 := Lib.hid (HB1.out.trans hb6)
                    clear hs6 ht6 ho6 hb6 K
                    go_wp2
                    go_roundw
                    case rel => exact ⟨a', m, lm2, _, _, l6, by omega, by omega, by omega, rfl, rfl, by go_num, rfl, rfl, HS6.out, HJ6.out, HO6.out, HB6.out, by omega⟩
                    case measure => simp [intOf]; omega
              · cases wp
                · clear hP
                  have HLo2 := Lib.hid (Jn.lo HJ.out (HLo.out.keep HS.out) ha1 hb1)
                  by_cases ha0 : 0 < a'
                  · have d6 : decide ((0 : Int) < (a' : Int)) = true := decide_eq_true (by omega)
                    obtain ⟨am, ham⟩ : ∃ am : Nat, a' = am + 1 := ⟨a' - 1, by omega⟩
                    have e33 : (a' : Int) - 1 = (am : Int) := by omega
                    have e34 : IntKind.i64.wrap (am : Int) = (am : Int) := IntWalk.i64_in _ (by omega)
                    have hLm : ∀ k, a' ≤ k → k < b' → ky l3 am ≤ ky l3 k := by
                      rcases HLo2.out with h | h
                      · omega
                      · rw [show a' - 1 = am by omega] at h; exact h
                    have HLm := Lib.hid hLm
                    clear hLm
                    have c1 := HO1.out.at (i := am) (by have := HL.out; omega)
                    have c2 := HO1.out.at (i := p) (by have := HL.out; omega)
                    have i1 : (am : Int) < (n : Int) := by omega
                    have i2 : (p : Int) < (n : Int) := by omega
                    have HAM := Lib.hid (show a' = am + 1 from ham)
                    clear ham
                    by_cases hc : ky l3 am < ky l3 p
                    · have t1 : decide ((l3.getD am 0).toNat < (l3.getD p 0).toNat) = true := decide_eq_true hc
                      clear hc
                      generalize l3.getD am 0 = u1 at *
                      generalize l3.getD p 0 = u2 at *
                      go_wp2_with fail
                      go_quiet (first | (go_at_call 74; exact Calls.quiet_of_same (less_any _ _ _)))
                      have HO9 := HO1
                      have HB9 := Lib.hid (below_drewN HB1.out nq)
                      clear HO1 HB1 t1 c1 c2
                      go_wp2_with fail
                      have K := Lib.hid (part_any B g cap n a' b' p l3 (wc.drewN nq) HO9.out HL.out HGB.out hx1 hx2 (by omega) hs)
                      refine K.out.mono ?_
                      rintro e w8 ⟨l5, m, s5, rfl, hs5, hm1, hm2, hp5, ho5, hb5⟩
                      have HB1 := HB9
                      have HO1 := HO9
                      have HL2 := Lib.hid (hs5.len.trans HL.out)
                      have HS2 := Lib.hid (HS.out.trans (hs5.mono ha1 hb1 (by have := HL.out; omega)))
                      have HJ2 := Lib.hid (Jn.keep HJ.out hs5 ha1 hb1)
                      have HO2 := Lib.hid ho5
                      have HB2 := Lib.hid (HB1.out.trans hb5)
                      clear HS HJ HO1 HB1 HL
                      obtain ⟨HS, HJ, HO1, HB1, HL⟩ := And.intro HS2 (And.intro HJ2 (And.intro HO2 (And.intro HB2 HL2)))
                      clear HS2 HJ2 HO2 HB2 HL2
                      have HP := Lib.hid hp5
                      clear hs5 ho5 hb5 hp5 K HO9 HB9
                      obtain ⟨ll, hll⟩ : ∃ ll : Nat, ll = m - a' := ⟨_, rfl⟩
                      obtain ⟨rl, hrl⟩ : ∃ rl : Nat, rl = b' - m := ⟨_, rfl⟩
                      have e40 : (m : Int) - (a' : Int) = (ll : Int) := by omega
                      have e41 : IntKind.i64.wrap (ll : Int) = (ll : Int) := IntWalk.i64_in _ (by omega)
                      have e42 : (b' : Int) - (m : Int) = (rl : Int) := by omega
                      have e43 : IntKind.i64.wrap (rl : Int) = (rl : Int) := IntWalk.i64_in _ (by omega)
                      have HLo5 := Lib.hid (Jn.lo HJ.out (HLo.out.keep HS.out) ha1 hb1)
                      have HG5 : Hid (g < w8.heap.size) := by have := HG.out; have := HB1.out.size; show _ < _; omega
                      clear hll hrl
                      by_cases hlr : ll < rl
                      · have d8 : decide ((ll : Int) < (rl : Int)) = true := decide_eq_true (by omega)
                        have K := Lib.hid (IH.out a' m lm2 l5 w8 HO1.out HL.out HG5.out hm1 (by omega) (by omega) (by rcases HLo5.out with h | h; exact .inl h; exact .inr (fun k k1 k2 => h k k1 (by omega))) (by omega))
                        go_wp2_with fail
                        refine K.out.mono ?_
                        rintro e w9 ⟨l6, rfl, hs6, ht6, ho6, hb6⟩
                        have HJ6 := Lib.hid (Jn.right (Jn.keep HJ.out (hs6.mono (Nat.le_refl _) (by omega) (by have := HL.out; omega)) ha1 hb1) (HP.out.keepL hs6 hm2) ht6 ha1 hb1 hm1 hm2)
                        have HS6 := Lib.hid (HS.out.trans (hs6.mono ha1 (by omega) (by have := HL.out; omega)))
                        have HO6 := Lib.hid ho6
                        have HB6 := Lib.hid (HB1.out.trans hb6)
                        clear hs6 ht6 ho6 hb6 K
                        go_wp2
                        go_roundw
                        case rel => exact ⟨m + 1, b', lm2, _, _, l6, by omega, by omega, by omega, by go_num, rfl, by go_num, rfl, rfl, HS6.out, HJ6.out, HO6.out, HB6.out, by omega⟩
                        case measure => simp [intOf]; omega
                      · have d8 : decide ((ll : Int) < (rl : Int)) = false := decide_eq_false (by omega)
                        have HPm := HP.out.2
                        have K := IH.out (m + 1) b' lm2 l5 w8 HO1.out HL.out HG5.out (by omega) (by omega) (by omega) (.inr (fun k k1 k2 => by rw [Nat.add_sub_cancel]; exact HPm k (by omega) k2)) (by omega)
                        rw [show ((m + 1 : Nat) : Int) = (m : Int) + 1 by omega] at K
                        have K := Lib.hid K
                        clear HPm
                        go_wp2_with fail
                        refine K.out.mono ?_
                        rintro e w9 ⟨l6, rfl, hs6, ht6, ho6, hb6⟩
                        have HJ6 := Lib.hid (Jn.left (Jn.keep HJ.out (hs6.mono (by omega) (Nat.le_refl _) (by have := HL.out; omega)) ha1 hb1) (HP.out.keepR hs6) ht6 ha1 hb1 hm1 hm2)
                        have HS6 := Lib.hid (HS.out.trans (hs6.mono (by omega) hb1 (by have := HL.out; omega)))
                        have HO6 := Lib.hid ho6
                        have HB6 := Lib.hid (HB1.out.trans hb6)
                        clear hs6 ht6 ho6 hb6 K
                        go_wp2
                        go_roundw
                        case rel => exact ⟨a', m, lm2, _, _, l6, by omega, by omega, by omega, rfl, rfl, by go_num, rfl, rfl, HS6.out, HJ6.out, HO6.out, HB6.out, by omega⟩
                        case measure => simp [intOf]; omega
                    · have t1 : decide ((l3.getD am 0).toNat < (l3.getD p 0).toNat) = false := decide_eq_false hc
                      have HC := Lib.hid hc
                      clear hc
                      generalize l3.getD am 0 = u1 at *
                      generalize l3.getD p 0 = u2 at *
                      go_wp2_with fail
                      go_quiet (first | (go_at_call 74; exact Calls.quiet_of_same (less_any _ _ _)))
                      clear t1 c1 c2
                      go_wp2_with fail
                      refine (partEq_any B g cap n a' b' p l3 (wc.drewN nq) HO1.out HL.out HGB.out hx1 hx2 (by omega) hs).mono ?_
                      rintro e w8 ⟨l5, m, rfl, hs5, hm1, hm2, he5, hg5, ho5, hb5⟩
                      have HJ5 := Lib.hid (Jn.equal (Jn.keep HJ.out hs5 ha1 hb1) (ky l3 p) he5 (fun k k1 k2 => Nat.le_of_lt (hg5 k k1 k2)) (fun k k1 k2 => hs5.all (Nat.le_refl _) (Nat.le_refl _) (P := fun z => ky l3 p ≤ z) (fun k k1 k2 => by have := HLm.out k k1 k2; have := HC.out; omega) k k1 k2) hm2)
                      have HS5 := Lib.hid (HS.out.trans (hs5.mono ha1 hb1 (by have := HL.out; omega)))
                      have HO5 := Lib.hid ho5
                      have HB5 := Lib.hid ((below_drewN HB1.out nq).trans hb5)
                      clear hs5 he5 hg5 ho5 hb5
                      go_wp2
                      go_roundw
                      case rel => exact ⟨m, b', lm2, _, _, l5, by omega, by omega, by omega, rfl, rfl, by go_num, rfl, rfl, HS5.out, HJ5.out, HO5.out, HB5.out, by omega⟩
                      case measure => simp [intOf]; omega
                  · have d6 : decide ((0 : Int) < (a' : Int)) = false := decide_eq_false (by omega)
                    go_wp2_with fail
                    go_quiet (fail)
                    have HO9 := HO1
                    have HB9 := Lib.hid (below_drewN HB1.out nq)
                    clear HO1 HB1
                    go_wp2_with fail
                    have K := Lib.hid (part_any B g cap n a' b' p l3 (wc.drewN nq) HO9.out HL.out HGB.out hx1 hx2 (by omega) hs)
                    refine K.out.mono ?_
                    rintro e w8 ⟨l5, m, s5, rfl, hs5, hm1, hm2, hp5, ho5, hb5⟩
                    have HB1 := HB9
                    have HO1 := HO9
                    have HL2 := Lib.hid (hs5.len.trans HL.out)
                    have HS2 := Lib.hid (HS.out.trans (hs5.mono ha1 hb1 (by have := HL.out; omega)))
                    have HJ2 := Lib.hid (Jn.keep HJ.out hs5 ha1 hb1)
                    have HO2 := Lib.hid ho5
                    have HB2 := Lib.hid (HB1.out.trans hb5)
                    clear HS HJ HO1 HB1 HL
                    obtain ⟨HS, HJ, HO1, HB1, HL⟩ := And.intro HS2 (And.intro HJ2 (And.intro HO2 (And.intro HB2 HL2)))
                    clear HS2 HJ2 HO2 HB2 HL2
                    have HP := Lib.hid hp5
                    clear hs5 ho5 hb5 hp5 K HO9 HB9
                    obtain ⟨ll, hll⟩ : ∃ ll : Nat, ll = m - a' := ⟨_, rfl⟩
                    obtain ⟨rl, hrl⟩ : ∃ rl : Nat, rl = b' - m := ⟨_, rfl⟩
                    have e40 : (m : Int) - (a' : Int) = (ll : Int) := by omega
                    have e41 : IntKind.i64.wrap (ll : Int) = (ll : Int) := IntWalk.i64_in _ (by omega)
                    have e42 : (b' : Int) - (m : Int) = (rl : Int) := by omega
                    have e43 : IntKind.i64.wrap (rl : Int) = (rl : Int) := IntWalk.i64_in _ (by omega)
                    have HLo5 := Lib.hid (Jn.lo HJ.out (HLo.out.keep HS.out) ha1 hb1)
                    have HG5 : Hid (g < w8.heap.size) := by have := HG.out; have := HB1.out.size; show _ < _; omega
                    clear hll hrl
                    by_cases hlr : ll < rl
                    · have d8 : decide ((ll : Int) < (rl : Int)) = true := decide_eq_true (by omega)
                      have K := Lib.hid (IH.out a' m lm2 l5 w8 HO1.out HL.out HG5.out hm1 (by omega) (by omega) (by rcases HLo5.out with h | h; exact .inl h; exact .inr (fun k k1 k2 => h k k1 (by omega))) (by omega))
                      go_wp2_with fail
                      refine K.out.mono ?_
                      rintro e w9 ⟨l6, rfl, hs6, ht6, ho6, hb6⟩
                      have HJ6 := Lib.hid (Jn.right (Jn.keep HJ.out (hs6.mono (Nat.le_refl _) (by omega) (by have := HL.out; omega)) ha1 hb1) (HP.out.keepL hs6 hm2) ht6 ha1 hb1 hm1 hm2)
                      have HS6 := Lib.hid (HS.out.trans (hs6.mono ha1 (by omega) (by have := HL.out; omega)))
                      have HO6 := Lib.hid ho6
                      have HB6 := Lib.hid (HB1.out.trans hb6)
                      clear hs6 ht6 ho6 hb6 K
                      go_wp2
                      go_roundw
                      case rel => exact ⟨m + 1, b', lm2, _, _, l6, by omega, by omega, by omega, by go_num, rfl, by go_num, rfl, rfl, HS6.out, HJ6.out, HO6.out, HB6.out, by omega⟩
                      case measure => simp [intOf]; omega
                    · have d8 : decide ((ll : Int) < (rl : Int)) = false := decide_eq_false (by omega)
                      have HPm := HP.out.2
                      have K := IH.out (m + 1) b' lm2 l5 w8 HO1.out HL.out HG5.out (by omega) (by omega) (by omega) (.inr (fun k k1 k2 => by rw [Nat.add_sub_cancel]; exact HPm k (by omega) k2)) (by omega)
                      rw [show ((m + 1 : Nat) : Int) = (m : Int) + 1 by omega] at K
                      have K := Lib.hid K
                      clear HPm
                      go_wp2_with fail
                      refine K.out.mono ?_
                      rintro e w9 ⟨l6, rfl, hs6, ht6, ho6, hb6⟩
                      have HJ6 := Lib.hid (Jn.left (Jn.keep HJ.out (hs6.mono (by omega) (Nat.le_refl _) (by have := HL.out; omega)) ha1 hb1) (HP.out.keepR hs6) ht6 ha1 hb1 hm1 hm2)
                      have HS6 := Lib.hid (HS.out.trans (hs6.mono (by omega) hb1 (by have := HL.out; omega)))
                      have HO6 := Lib.hid ho6
                      have HB6 := Lib.hid (HB1.out.trans hb6)
                      clear hs6 ht6 ho6 hb6 K
                      go_wp2
                      go_roundw
                      case rel => exact ⟨a', m, lm2, _, _, l6, by omega, by omega, by omega, rfl, rfl, by go_num, rfl, rfl, HS6.out, HJ6.out, HO6.out, HB6.out, by omega⟩
                      case measure => simp [intOf]; omega
                · have t4 : (h' == 1) = false := by simp; exact fun h => hP ⟨rfl, rfl, h⟩
                  clear hP
                  have HLo2 := Lib.hid (Jn.lo HJ.out (HLo.out.keep HS.out) ha1 hb1)
                  by_cases ha0 : 0 < a'
                  · have d6 : decide ((0 : Int) < (a' : Int)) = true := decide_eq_true (by omega)
                    obtain ⟨am, ham⟩ : ∃ am : Nat, a' = am + 1 := ⟨a' - 1, by omega⟩
                    have e33 : (a' : Int) - 1 = (am : Int) := by omega
                    have e34 : IntKind.i64.wrap (am : Int) = (am : Int) := IntWalk.i64_in _ (by omega)
                    have hLm : ∀ k, a' ≤ k → k < b' → ky l3 am ≤ ky l3 k := by
                      rcases HLo2.out with h | h
                      · omega
                      · rw [show a' - 1 = am by omega] at h; exact h
                    have HLm := Lib.hid hLm
                    clear hLm
                    have c1 := HO1.out.at (i := am) (by have := HL.out; omega)
                    have c2 := HO1.out.at (i := p) (by have := HL.out; omega)
                    have i1 : (am : Int) < (n : Int) := by omega
                    have i2 : (p : Int) < (n : Int) := by omega
                    have HAM := Lib.hid (show a' = am + 1 from ham)
                    clear ham
                    by_cases hc : ky l3 am < ky l3 p
                    · have t1 : decide ((l3.getD am 0).toNat < (l3.getD p 0).toNat) = true := decide_eq_true hc
                      clear hc
                      generalize l3.getD am 0 = u1 at *
                      generalize l3.getD p 0 = u2 at *
                      go_wp2_with fail
                      go_quiet (first | (go_at_call 74; exact Calls.quiet_of_same (less_any _ _ _)))
                      have HO9 := HO1
                      have HB9 := Lib.hid (below_drewN HB1.out nq)
                      clear HO1 HB1 t1 c1 c2
                      go_wp2_with fail
                      have K := Lib.hid (part_any B g cap n a' b' p l3 (wc.drewN nq) HO9.out HL.out HGB.out hx1 hx2 (by omega) hs)
                      refine K.out.mono ?_
                      rintro e w8 ⟨l5, m, s5, rfl, hs5, hm1, hm2, hp5, ho5, hb5⟩
                      have HB1 := HB9
                      have HO1 := HO9
                      have HL2 := Lib.hid (hs5.len.trans HL.out)
                      have HS2 := Lib.hid (HS.out.trans (hs5.mono ha1 hb1 (by have := HL.out; omega)))
                      have HJ2 := Lib.hid (Jn.keep HJ.out hs5 ha1 hb1)
                      have HO2 := Lib.hid ho5
                      have HB2 := Lib.hid (HB1.out.trans hb5)
                      clear HS HJ HO1 HB1 HL
                      obtain ⟨HS, HJ, HO1, HB1, HL⟩ := And.intro HS2 (And.intro HJ2 (And.intro HO2 (And.intro HB2 HL2)))
                      clear HS2 HJ2 HO2 HB2 HL2
                      have HP := Lib.hid hp5
                      clear hs5 ho5 hb5 hp5 K HO9 HB9
                      obtain ⟨ll, hll⟩ : ∃ ll : Nat, ll = m - a' := ⟨_, rfl⟩
                      obtain ⟨rl, hrl⟩ : ∃ rl : Nat, rl = b' - m := ⟨_, rfl⟩
                      have e40 : (m : Int) - (a' : Int) = (ll : Int) := by omega
                      have e41 : IntKind.i64.wrap (ll : Int) = (ll : Int) := IntWalk.i64_in _ (by omega)
                      have e42 : (b' : Int) - (m : Int) = (rl : Int) := by omega
                      have e43 : IntKind.i64.wrap (rl : Int) = (rl : Int) := IntWalk.i64_in _ (by omega)
                      have HLo5 := Lib.hid (Jn.lo HJ.out (HLo.out.keep HS.out) ha1 hb1)
                      have HG5 : Hid (g < w8.heap.size) := by have := HG.out; have := HB1.out.size; show _ < _; omega
                      clear hll hrl
                      by_cases hlr : ll < rl
                      · have d8 : decide ((ll : Int) < (rl : Int)) = true := decide_eq_true (by omega)
                        have K := Lib.hid (IH.out a' m lm2 l5 w8 HO1.out HL.out HG5.out hm1 (by omega) (by omega) (by rcases HLo5.out with h | h; exact .inl h; exact .inr (fun k k1 k2 => h k k1 (by omega))) (by omega))
                        go_wp2_with fail
                        refine K.out.mono ?_
                        rintro e w9 ⟨l6, rfl, hs6, ht6, ho6, hb6⟩
                        have HJ6 := Lib.hid (Jn.right (Jn.keep HJ.out (hs6.mono (Nat.le_refl _) (by omega) (by have := HL.out; omega)) ha1 hb1) (HP.out.keepL hs6 hm2) ht6 ha1 hb1 hm1 hm2)
                        have HS6 := Lib.hid (HS.out.trans (hs6.mono ha1 (by omega) (by have := HL.out; omega)))
                        have HO6 := Lib.hid ho6
                        have HB6 := Lib.hid (HB1.out.trans hb6)
                        clear hs6 ht6 ho6 hb6 K
                        go_wp2
                        go_roundw
                        case rel => exact ⟨m + 1, b', lm2, _, _, l6, by omega, by omega, by omega, by go_num, rfl, by go_num, rfl, rfl, HS6.out, HJ6.out, HO6.out, HB6.out, by omega⟩
                        case measure => simp [intOf]; omega
                      · have d8 : decide ((ll : Int) < (rl : Int)) = false := decide_eq_false (by omega)
                        have HPm := HP.out.2
                        have K := IH.out (m + 1) b' lm2 l5 w8 HO1.out HL.out HG5.out (by omega) (by omega) (by omega) (.inr (fun k k1 k2 => by rw [Nat.add_sub_cancel]; exact HPm k (by omega) k2)) (by omega)
                        rw [show ((m + 1 : Nat) : Int) = (m : Int) + 1 by omega] at K
                        have K := Lib.hid K
                        clear HPm
                        go_wp2_with fail
                        refine K.out.mono ?_
                        rintro e w9 ⟨l6, rfl, hs6, ht6, ho6, hb6⟩
                        have HJ6 := Lib.hid (Jn.left (Jn.keep HJ.out (hs6.mono (by omega) (Nat.le_refl _) (by have := HL.out; omega)) ha1 hb1) (HP.out.keepR hs6) ht6 ha1 hb1 hm1 hm2)
                        have HS6 := Lib.hid (HS.out.trans (hs6.mono (by omega) hb1 (by have := HL.out; omega)))
                        have HO6 := Lib.hid ho6
                        have HB6 := Lib.hid (HB1.out.trans hb6)
                        clear hs6 ht6 ho6 hb6 K
                        go_wp2
                        go_roundw
                        case rel => exact ⟨a', m, lm2, _, _, l6, by omega, by omega, by omega, rfl, rfl, by go_num, rfl, rfl, HS6.out, HJ6.out, HO6.out, HB6.out, by omega⟩
                        case measure => simp [intOf]; omega
                    · have t1 : decide ((l3.getD am 0).toNat < (l3.getD p 0).toNat) = false := decide_eq_false hc
                      have HC := Lib.hid hc
                      clear hc
                      generalize l3.getD am 0 = u1 at *
                      generalize l3.getD p 0 = u2 at *
                      go_wp2_with fail
                      go_quiet (first | (go_at_call 74; exact Calls.quiet_of_same (less_any _ _ _)))
                      clear t1 c1 c2
                      go_wp2_with fail
                      refine (partEq_any B g cap n a' b' p l3 (wc.drewN nq) HO1.out HL.out HGB.out hx1 hx2 (by omega) hs).mono ?_
                      rintro e w8 ⟨l5, m, rfl, hs5, hm1, hm2, he5, hg5, ho5, hb5⟩
                      have HJ5 := Lib.hid (Jn.equal (Jn.keep HJ.out hs5 ha1 hb1) (ky l3 p) he5 (fun k k1 k2 => Nat.le_of_lt (hg5 k k1 k2)) (fun k k1 k2 => hs5.all (Nat.le_refl _) (Nat.le_refl _) (P := fun z => ky l3 p ≤ z) (fun k k1 k2 => by have := HLm.out k k1 k2; have := HC.out; omega) k k1 k2) hm2)
                      have HS5 := Lib.hid (HS.out.trans (hs5.mono ha1 hb1 (by have := HL.out; omega)))
                      have HO5 := Lib.hid ho5
                      have HB5 := Lib.hid ((below_drewN HB1.out nq).trans hb5)
                      clear hs5 he5 hg5 ho5 hb5
                      go_wp2
                      go_roundw
                      case rel => exact ⟨m, b', lm2, _, _, l5, by omega, by omega, by omega, rfl, rfl, by go_num, rfl, rfl, HS5.out, HJ5.out, HO5.out, HB5.out, by omega⟩
                      case measure => simp [intOf]; omega
                  · have d6 : decide ((0 : Int) < (a' : Int)) = false := decide_eq_false (by omega)
                    go_wp2_with fail
                    go_quiet (fail)
                    have HO9 := HO1
                    have HB9 := Lib.hid (below_drewN HB1.out nq)
                    clear HO1 HB1
                    go_wp2_with fail
                    have K := Lib.hid (part_any B g cap n a' b' p l3 (wc.drewN nq) HO9.out HL.out HGB.out hx1 hx2 (by omega) hs)
                    refine K.out.mono ?_
                    rintro e w8 ⟨l5, m, s5, rfl, hs5, hm1, hm2, hp5, ho5, hb5⟩
                    have HB1 := HB9
                    have HO1 := HO9
                    have HL2 := Lib.hid (hs5.len.trans HL.out)
                    have HS2 := Lib.hid (HS.out.trans (hs5.mono ha1 hb1 (by have := HL.out; omega)))
                    have HJ2 := Lib.hid (Jn.keep HJ.out hs5 ha1 hb1)
                    have HO2 := Lib.hid ho5
                    have HB2 := Lib.hid (HB1.out.trans hb5)
                    clear HS HJ HO1 HB1 HL
                    obtain ⟨HS, HJ, HO1, HB1, HL⟩ := And.intro HS2 (And.intro HJ2 (And.intro HO2 (And.intro HB2 HL2)))
                    clear HS2 HJ2 HO2 HB2 HL2
                    have HP := Lib.hid hp5
                    clear hs5 ho5 hb5 hp5 K HO9 HB9
                    obtain ⟨ll, hll⟩ : ∃ ll : Nat, ll = m - a' := ⟨_, rfl⟩
                    obtain ⟨rl, hrl⟩ : ∃ rl : Nat, rl = b' - m := ⟨_, rfl⟩
                    have e40 : (m : Int) - (a' : Int) = (ll : Int) := by omega
                    have e41 : IntKind.i64.wrap (ll : Int) = (ll : Int) := IntWalk.i64_in _ (by omega)
                    have e42 : (b' : Int) - (m : Int) = (rl : Int) := by omega
                    have e43 : IntKind.i64.wrap (rl : Int) = (rl : Int) := IntWalk.i64_in _ (by omega)
                    have HLo5 := Lib.hid (Jn.lo HJ.out (HLo.out.keep HS.out) ha1 hb1)
                    have HG5 : Hid (g < w8.heap.size) := by have := HG.out; have := HB1.out.size; show _ < _; omega
                    clear hll hrl
                    by_cases hlr : ll < rl
                    · have d8 : decide ((ll : Int) < (rl : Int)) = true := decide_eq_true (by omega)
                      have K := Lib.hid (IH.out a' m lm2 l5 w8 HO1.out HL.out HG5.out hm1 (by omega) (by omega) (by rcases HLo5.out with h | h; exact .inl h; exact .inr (fun k k1 k2 => h k k1 (by omega))) (by omega))
                      go_wp2_with fail
                      refine K.out.mono ?_
                      rintro e w9 ⟨l6, rfl, hs6, ht6, ho6, hb6⟩
                      have HJ6 := Lib.hid (Jn.right (Jn.keep HJ.out (hs6.mono (Nat.le_refl _) (by omega) (by have := HL.out; omega)) ha1 hb1) (HP.out.keepL hs6 hm2) ht6 ha1 hb1 hm1 hm2)
                      have HS6 := Lib.hid (HS.out.trans (hs6.mono ha1 (by omega) (by have := HL.out; omega)))
                      have HO6 := Lib.hid ho6
                      have HB6 := Lib.hid (HB1.out.trans hb6)
                      clear hs6 ht6 ho6 hb6 K
                      go_wp2
                      go_roundw
                      case rel => exact ⟨m + 1, b', lm2, _, _, l6, by omega, by omega, by omega, by go_num, rfl, by go_num, rfl, rfl, HS6.out, HJ6.out, HO6.out, HB6.out, by omega⟩
                      case measure => simp [intOf]; omega
                    · have d8 : decide ((ll : Int) < (rl : Int)) = false := decide_eq_false (by omega)
                      have HPm := HP.out.2
                      have K := IH.out (m + 1) b' lm2 l5 w8 HO1.out HL.out HG5.out (by omega) (by omega) (by omega) (.inr (fun k k1 k2 => by rw [Nat.add_sub_cancel]; exact HPm k (by omega) k2)) (by omega)
                      rw [show ((m + 1 : Nat) : Int) = (m : Int) + 1 by omega] at K
                      have K := Lib.hid K
                      clear HPm
                      go_wp2_with fail
                      refine K.out.mono ?_
                      rintro e w9 ⟨l6, rfl, hs6, ht6, ho6, hb6⟩
                      have HJ6 := Lib.hid (Jn.left (Jn.keep HJ.out (hs6.mono (by omega) (Nat.le_refl _) (by have := HL.out; omega)) ha1 hb1) (HP.out.keepR hs6) ht6 ha1 hb1 hm1 hm2)
                      have HS6 := Lib.hid (HS.out.trans (hs6.mono (by omega) hb1 (by have := HL.out; omega)))
                      have HO6 := Lib.hid ho6
                      have HB6 := Lib.hid (HB1.out.trans hb6)
                      clear hs6 ht6 ho6 hb6 K
                      go_wp2
                      go_roundw
                      case rel => exact ⟨a', m, lm2, _, _, l6, by omega, by omega, by omega, rfl, rfl, by go_num, rfl, rfl, HS6.out, HJ6.out, HO6.out, HB6.out, by omega⟩
                      case measure => simp [intOf]; omega

theorem pdq_all (B g cap n : Nat) (hB : B ≤ g) (hs : n ≤ 17592186044416) (d : Nat) : PdqC B g cap n d := by
  induction d with
  | zero => intro a b lm l w _ _ _ _ _ _ _ hd; omega
  | succ d ih => exact pdq_step B g cap n d hB hs ih
end Go.Proofs.Ytnihcpaakbhpcaa
