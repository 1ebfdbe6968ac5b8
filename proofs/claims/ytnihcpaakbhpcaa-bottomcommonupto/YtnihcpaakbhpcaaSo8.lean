/- slices.heapSortOrdered of words. -/
import Derived.Test.YtnihcpaakbhpcaaSo7
namespace Go.Proofs.Ytnihcpaakbhpcaa
open Go.RowKit Go.Deep

set_option maxRecDepth 100000 in
set_option maxHeartbeats 4000000 in
theorem heap_any (B g cap n a b : Nat) (l : List W64) (w : World) (hO : OU w B (.slice (some ⟨g, 0, none⟩) n cap) l) (hn : l.length = n) (hB : B ≤ g) (hab : a < b) (hb : b ≤ n) (hs : n ≤ 17592186044416) :
    Calls Try.prog 69 #[.slice (some ⟨g, 0, none⟩) n cap, .int .i64 a, .int .i64 b] w (SPost w B (.slice (some ⟨g, 0, none⟩) n cap) a b l fun l' => Srt l' a b) := by
  have HO := Lib.hid hO
  have HN := Lib.hid hn
  have HGB := Lib.hid hB
  obtain ⟨h, hh⟩ : ∃ h : Nat, h = b - a := ⟨_, rfl⟩
  obtain ⟨q, hq⟩ : ∃ q : Nat, q = (h - 1) / 2 := ⟨_, rfl⟩
  have e1 : (b : Int) - (a : Int) = (h : Int) := by omega
  have e2 : IntKind.i64.wrap (h : Int) = (h : Int) := IntWalk.i64_in _ (by omega)
  obtain ⟨h1, hh1⟩ : ∃ h1 : Nat, h1 = h - 1 := ⟨_, rfl⟩
  have e3 : (h : Int) - 1 = (h1 : Int) := by omega
  have e4 : IntKind.i64.wrap (h1 : Int) = (h1 : Int) := IntWalk.i64_in _ (by omega)
  have e5 : Int.tdiv (h1 : Int) 2 = (q : Int) := by rw [hq, hh1]; simp
  have e6 : IntKind.i64.wrap (q : Int) = (q : Int) := IntWalk.i64_in _ (by omega)
  have HH := Lib.hid (show h = b - a ∧ h1 = h - 1 ∧ q = (h - 1) / 2 from ⟨hh, hh1, hq⟩)
  clear hO hn hB hh hh1 hq
  go_enter Try.func69, Try.ntmps69
  go_wp2_with fail
  go_loopw [9] (fun iv wr => ∃ (s : Nat) (l' : List W64), s ≤ h ∧ iv = .int .i64 ((s : Int) - 1) ∧ Sw a b l l' ∧ Hp l' a s h ∧ OU wr B (.slice (some ⟨g, 0, none⟩) n cap) l' ∧ Below B w wr) (fun iv _ => (intOf iv + 1).toNat)
  case atStart => exact ⟨q + 1, l, by have := HH.out; omega, by have := HH.out; congr 1; omega, .refl _, Hp.none (by have := HH.out; omega), HO.out, Below.refl _ _⟩
  case round =>
    clear HO
    obtain ⟨s, l1, hs1, rfl, hS, hX, hO1, hb1⟩ := hrel
    have HS := Lib.hid hS
    have HX := Lib.hid hX
    have HO1 := Lib.hid hO1
    have HB1 := Lib.hid hb1
    have HL := Lib.hid (hS.len.trans HN.out)
    clear hS hX hO1 hb1
    rcases s with _ | t
    · rw [show ((0 : Nat) : Int) - 1 = -1 from rfl]
      have HJ : Hid (Jn l1 a b a (a + h)) := by
        have e : a + h = b := by have := HH.out; omega
        rw [e]; exact Jn.start l1 a b
      go_wp2_with fail
      clear e5 e6
      go_loopw [10] (fun iv wr => ∃ (s : Nat) (l' : List W64), s ≤ h ∧ iv = .int .i64 ((s : Int) - 1) ∧ Sw a b l l' ∧ Hp l' a 0 s ∧ Jn l' a b a (a + s) ∧ OU wr B (.slice (some ⟨g, 0, none⟩) n cap) l' ∧ Below B w wr) (fun iv _ => (intOf iv + 1).toNat)
      case atStart => exact ⟨h, l1, Nat.le_refl _, by have := HH.out; congr 1; omega, HS.out, HX.out, HJ.out, HO1.out, HB1.out⟩
      case round =>
        clear HS HX HJ HO1 HB1 HL
        obtain ⟨s, l1, hs1, rfl, hS, hX, hJ, hO1, hb1⟩ := hrel
        have HS := Lib.hid hS
        have HX := Lib.hid hX
        have HJ := Lib.hid hJ
        have HO1 := Lib.hid hO1
        have HB1 := Lib.hid hb1
        have HL := Lib.hid (hS.len.trans HN.out)
        clear hS hX hJ hO1 hb1
        rcases s with _ | t
        · rw [show ((0 : Nat) : Int) - 1 = -1 from rfl]
          have HR := Lib.hid (HJ.out.done (fun p q p1 p2 p3 => by omega))
          go_wp2
          go_end0
          exact ⟨l1, rfl, HS.out, HR.out, HO1.out, HB1.out⟩
        · have e7 : ((t + 1 : Nat) : Int) - 1 = (t : Int) := by omega
          rw [e7]
          have d1 : decide ((0 : Int) ≤ (t : Int)) = true := decide_eq_true (by omega)
          obtain ⟨u, hu⟩ : ∃ u : Nat, u = a + t := ⟨_, rfl⟩
          have e8 : (a : Int) + (t : Int) = (u : Int) := by omega
          have e9 : IntKind.i64.wrap (u : Int) = (u : Int) := IntWalk.i64_in _ (by have := HH.out; omega)
          have HJ2 := Lib.hid (HJ.out.pop HX.out (by have := HH.out; omega) (by have := HL.out; omega))
          have HX2 := Lib.hid (HX.out.pop (by have := HH.out; have := HL.out; omega))
          rw [← hu] at HJ2 HX2
          have hub : u < b ∧ b ≤ l1.length := by have := HH.out; have := HL.out; omega
          have HS2 := Lib.hid (HS.out.step (i := a) (j := u) (by omega) (by omega) (by omega) (by omega) (by omega))
          have HF := Lib.hid (OU.swapF (w := wr) (i := a) (j := u) HO1.out (by omega) (by omega))
          have c1 := HO1.out.at (i := a) (by omega)
          have c2 := HO1.out.at (i := u) (by omega)
          have f1 := HO1.out.frozen a
          have f3 := HO1.out.frozen u
          have HO2 := Lib.hid (HO1.out.swap a u)
          have HL2 := Lib.hid ((sw_len l1 a u).trans HL.out)
          have i1 : (a : Int) < (n : Int) := by omega
          have i2 : (u : Int) < (n : Int) := by omega
          have HU := Lib.hid (show u = a + t ∧ u < b from ⟨hu, hub.1⟩)
          clear e7 hu hub HS HX HJ
          generalize sw l1 a u = l2 at *
          generalize l1.getD a 0 = x at *
          generalize l1.getD u 0 = z at *
          go_wp2_with fail
          obtain ⟨_, _, _, f2, y, c3⟩ := HF.out
          go_region
          have HB2 := Lib.hid ((below_swap HB1.out HGB.out a u (.int .u64 (z.toNat : Int)) (.int .u64 (x.toNat : Int))).drew)
          have HO2 := Lib.hid (HO2.out.drew)
          clear f1 f2 f3 c1 c2 c3 HF HO1 HB1
          generalize World.drew _ = w3 at *
          have K := sift_any B g cap n 0 t a l2 w3 HO2.out HL2.out HGB.out (by omega) (by have := HU.out; omega) hs HX2.out
          rw [show ((0 : Nat) : Int) = 0 from rfl] at K
          have K := Lib.hid K
          go_wp2_with fail
          refine K.out.mono ?_
          rintro e w1 ⟨l3, rfl, hs2, hx2, ho2, hb2⟩
          have HJ3 := Lib.hid (Jn.keep (c := a) (d := a + t) (by have := HU.out.1; rw [← this]; exact HJ2.out) hs2 (Nat.le_refl _) (by have := HU.out; omega))
          have HS3 := Lib.hid (HS2.out.trans (hs2.mono (Nat.le_refl _) (by have := HU.out; omega) (by have := HL2.out; omega)))
          have HX3 := Lib.hid hx2
          have HO3 := Lib.hid ho2
          have HB3 := Lib.hid (HB2.out.trans hb2)
          clear hs2 hx2 ho2 hb2 K HX2 HS2 HO2 HB2 HJ2
          go_wp2
          go_roundw
          case rel => exact ⟨t, l3, by omega, by go_num, HS3.out, HX3.out, HJ3.out, HO3.out, HB3.out⟩
          case measure => simp [intOf]
    · have e7 : ((t + 1 : Nat) : Int) - 1 = (t : Int) := by omega
      rw [e7]
      have d1 : decide ((0 : Int) ≤ (t : Int)) = true := decide_eq_true (by omega)
      have K := Lib.hid (sift_any B g cap n t h a l1 wr HO1.out HL.out HGB.out (by omega) (by have := HH.out; omega) hs HX.out)
      clear e7
      go_wp2_with fail
      refine K.out.mono ?_
      rintro e w1 ⟨l2, rfl, hs2, hx2, ho2, hb2⟩
      have HS2 := Lib.hid (HS.out.trans (hs2.mono (Nat.le_refl _) (by have := HH.out; omega) (by have := HL.out; omega)))
      have HX2 := Lib.hid hx2
      have HO2 := Lib.hid ho2
      have HB2 := Lib.hid (HB1.out.trans hb2)
      clear hs2 hx2 ho2 hb2 K HX HS HO1 HB1
      go_wp2
      go_roundw
      case rel => exact ⟨t, l2, by omega, by go_num, HS2.out, HX2.out, HO2.out, HB2.out⟩
      case measure => simp [intOf]
end Go.Proofs.Ytnihcpaakbhpcaa
