/- slices.partitionOrdered of words (made by a program out of one text for both pairs of loops). -/
import Derived.Test.YtnihcpaakbhpcaaSo4
namespace Go.Proofs.Ytnihcpaakbhpcaa
open Go.RowKit Go.Deep

/-- What partition leaves. -/
def QPost (w : World) (B : Nat) (v : Value) (a b : Nat) (l : List W64) (e : Ending) (w' : World) : Prop := ∃ (l' : List W64) (m : Nat) (s : Bool), e = .returned (.tuple #[.int .i64 m, .bool s]) ∧ Sw a b l l' ∧ a ≤ m ∧ m < b ∧ Pt l' a b m ∧ OU w' B v l' ∧ Below B w w'

set_option maxRecDepth 100000 in
set_option maxHeartbeats 8000000 in
theorem part_any (B g cap n a b p : Nat) (l : List W64) (w : World) (hO : OU w B (.slice (some ⟨g, 0, none⟩) n cap) l) (hn : l.length = n) (hB : B ≤ g) (hp1 : a ≤ p) (hp2 : p < b) (hb : b ≤ n) (hs : n ≤ 17592186044416) :
    Calls Try.prog 76 #[.slice (some ⟨g, 0, none⟩) n cap, .int .i64 a, .int .i64 b, .int .i64 p] w (QPost w B (.slice (some ⟨g, 0, none⟩) n cap) a b l) := by
  have HGB := Lib.hid hB
  have HP := Lib.hid (PtS.start (L := (· < (l.getD p 0).toNat)) (H := ((l.getD p 0).toNat ≤ ·)) hp1 hp2 (by omega : b ≤ l.length))
  have HF2 := Lib.hid (OU.swapF (w := w) (i := a) (j := p) hO (by omega) (by omega))
  have f1 := hO.frozen a
  have f3 := hO.frozen p
  have c1 := hO.at (i := a) (by omega)
  have c2 := hO.at (i := p) (by omega)
  have HO1 := Lib.hid (hO.swap a p)
  have i1 : (a : Int) < (n : Int) := by omega
  have i2 : (p : Int) < (n : Int) := by omega
  have HN := Lib.hid hn
  clear hO hB hn
  generalize sw l a p = l1 at *
  generalize l.getD p 0 = P at *
  generalize l.getD a 0 = z at *
  obtain ⟨i, hi⟩ : ∃ i : Nat, i = a + 1 := ⟨_, rfl⟩
  obtain ⟨j, hj⟩ : ∃ j : Nat, j = b - 1 := ⟨_, rfl⟩
  rw [← hi, ← hj] at HP
  have WI : Hid ((a : Int) + 1 = (i : Int)) := by show _ = _; omega
  have WJ : Hid ((b : Int) - 1 = (j : Int)) := by show _ = _; omega
  clear hi hj
  go_enter Try.func76, Try.ntmps76
  go_wp2
  obtain ⟨_, _, _, f2, y, c3⟩ := HF2.out
  go_region
  have HB1 := Lib.hid ((below_swap (Below.refl B w) HGB.out a p (.int .u64 (P.toNat : Int)) (.int .u64 (z.toNat : Int))).drew)
  clear f1 f2 f3 c1 c2 c3 HF2
  go_wp2_with fail
  rw [WI.out, WJ.out]
  clear WI WJ
  go_loopw [10] (fun iv wr => ∃ i' : Nat, i ≤ i' ∧ iv = .int .i64 i' ∧ PtS (· < P.toNat) (P.toNat ≤ ·) l l1 a b i' j P ∧ OU wr B (.slice (some ⟨g, 0, none⟩) n cap) l1 ∧ Below B w wr) (fun iv _ => j + 1 - (intOf iv).toNat)
  case atStart => exact ⟨i, Nat.le_refl _, by go_num, HP.out, HO1.out, HB1.out⟩
  case round =>
    clear HP HO1 HB1
    obtain ⟨i', hii, rfl, hP, hO1, hb1⟩ := hrel
    have HP := Lib.hid hP
    have HO1 := Lib.hid hO1
    have HB1 := Lib.hid hb1
    have HL := Lib.hid (hP.sw.len.trans HN.out)
    have q1 := hP.i1
    have q2 := hP.ij
    have q3 := hP.jb
    clear hP hO1 hb1
    by_cases hx : i' ≤ j ∧ ky l1 i' < P.toNat
    · obtain ⟨hij, hx⟩ := hx
      have c1 := HO1.out.at (i := a) (by have := HL.out; omega)
      rw [HP.out.p] at c1
      have c2 := HO1.out.at (i := i') (by have := HL.out; omega)
      have HP2 := Lib.hid (HP.out.incI hij hx)
      have hx2 : (l1.getD i' 0).toNat < P.toNat := hx
      clear hx
      generalize l1.getD i' 0 = x at *
      have i3 : (i' : Int) < (n : Int) := by omega
      have d1 : decide ((i' : Int) ≤ (j : Int)) = true := decide_eq_true (by omega)
      have t1 : decide (x.toNat < P.toNat) = true := decide_eq_true (by omega)
      clear hx2
      go_wp2_with fail
      go_quiet (first | (go_at_call 74; exact Calls.quiet_of_same (less_any _ _ _)))
      go_wp2
      go_roundw
      case rel => exact ⟨i' + 1, by omega, by go_num, HP2.out, HO1.out, below_drewN HB1.out _⟩
      case measure => simp [intOf]; omega
    · have HX : Hid (i' ≤ j → P.toNat ≤ ky l1 i') := fun h => by omega
      clear hx
      by_cases hij : i' ≤ j
      case' pos =>
        have c1 := HO1.out.at (i := a) (by have := HL.out; omega)
        rw [HP.out.p] at c1
        have c2 := HO1.out.at (i := i') (by have := HL.out; omega)
        have hx2 : P.toNat ≤ (l1.getD i' 0).toNat := HX.out hij
        generalize l1.getD i' 0 = x at *
        have i3 : (i' : Int) < (n : Int) := by omega
        have d1 : decide ((i' : Int) ≤ (j : Int)) = true := decide_eq_true (by omega)
        have t1 : decide (x.toNat < P.toNat) = false := decide_eq_false (by omega)
        clear hx2
        go_wp2_with fail
        go_quiet (first | (go_at_call 74; exact Calls.quiet_of_same (less_any _ _ _)))
        clear c1 c2 i3 d1 t1
      case' neg =>
        have d1 : decide ((i' : Int) ≤ (j : Int)) = false := decide_eq_false (by omega)
        go_wp2_with fail
        go_quiet (fail)
        clear d1
      all_goals
        clear hij
        go_wp2_with fail
        go_loopw [11] (fun jv wr => ∃ j' : Nat, j' ≤ j ∧ jv = .int .i64 j' ∧ PtS (· < P.toNat) (P.toNat ≤ ·) l l1 a b i' j' P ∧ OU wr B (.slice (some ⟨g, 0, none⟩) n cap) l1 ∧ Below B w wr) (fun jv _ => (intOf jv).toNat)
        case atStart => exact ⟨j, Nat.le_refl _, rfl, HP.out, HO1.out, below_drewN HB1.out _⟩
        case round =>
          clear HP HO1 HB1 q2 q3
          obtain ⟨j', hjj, rfl, hP, hO1, hb1⟩ := hrel
          have HP := Lib.hid hP
          have HO1 := Lib.hid hO1
          have HB1 := Lib.hid hb1
          have q2 := hP.ij
          have q3 := hP.jb
          clear hP hO1 hb1
          by_cases hij : i' ≤ j'
          · have c1 := HO1.out.at (i := a) (by have := HL.out; omega)
            rw [HP.out.p] at c1
            have c2 := HO1.out.at (i := j') (by have := HL.out; omega)
            have i3 : (j' : Int) < (n : Int) := by omega
            have d1 : decide ((i' : Int) ≤ (j' : Int)) = true := decide_eq_true (by omega)
            by_cases hx : P.toNat ≤ ky l1 j'
            · have HP2 := Lib.hid (HP.out.decJ hij hx)
              have hx2 : P.toNat ≤ (l1.getD j' 0).toNat := hx
              clear hx
              generalize l1.getD j' 0 = x at *
              have t1 : decide (x.toNat < P.toNat) = false := decide_eq_false (by omega)
              clear hx2
              go_wp2_with fail
              go_quiet (first | (go_at_call 74; exact Calls.quiet_of_same (less_any _ _ _)))
              go_wp2
              go_roundw
              case rel => exact ⟨j' - 1, by omega, by go_num, HP2.out, HO1.out, below_drewN HB1.out _⟩
              case measure => simp [intOf]; omega
            · have hx1 : P.toNat ≤ ky l1 i' := HX.out (by omega)
              have hne : i' < j' := by
                rcases Nat.lt_or_ge i' j' with h | h
                · exact h
                · obtain rfl : i' = j' := by omega
                  omega
              have HP2 := Lib.hid (HP.out.swap hne hx1 (by omega) (by have := HN.out; omega))
              have hx2 : ¬ P.toNat ≤ (l1.getD j' 0).toNat := hx
              have c3 := HO1.out.at (i := i') (by have := HL.out; omega)
              have HF := Lib.hid (fun q => OU.swapF (w := wr.drewN q) (i := i') (j := j') HO1.out (by have := HL.out; omega) (by have := HL.out; omega))
              have HO3 := Lib.hid (HO1.out.swap i' j')
              clear hx hx1
              generalize sw l1 i' j' = l3 at *
              generalize l1.getD j' 0 = x at *
              generalize l1.getD i' 0 = u at *
              have i4 : (i' : Int) < (n : Int) := by omega
              have t1 : decide (x.toNat < P.toNat) = true := decide_eq_true (by omega)
              have d2 : decide ((j' : Int) < (i' : Int)) = false := decide_eq_false (by omega)
              clear hx2
              go_wp2_with fail
              go_quiet (first | (go_at_call 74; exact Calls.quiet_of_same (less_any _ _ _)))
              go_wp2
              obtain ⟨_, _, f1, f2, y, c4⟩ := HF.out (nq + 1)
              go_region
              have HB9 := Lib.hid (below_swap (below_drewN HB1.out (nq + 1)) HGB.out i' j' (.int .u64 (x.toNat : Int)) (.int .u64 (u.toNat : Int)))
              clear f1 f2 c4 c1 c2 c3 HF t1 d2 d1 i3 i4 HX HP HO1 HB1
              go_wp2_with fail
              go_loopw [10, 11] (fun iv jv wr => ∃ (i j : Nat) (l' : List W64), iv = .int .i64 i ∧ jv = .int .i64 j ∧ PtS (· < P.toNat) (P.toNat ≤ ·) l l' a b i j P ∧ OU wr B (.slice (some ⟨g, 0, none⟩) n cap) l' ∧ Below B w wr) (fun iv jv _ => (intOf jv).toNat + 1 - (intOf iv).toNat)
              case atStart => exact ⟨i' + 1, j' - 1, l3, by go_num, by go_num, HP2.out, HO3.out, HB9.out⟩
              case round =>
                clear HP2 HO3 HB9 HL
                obtain ⟨i, j, l1, rfl, rfl, hP, hO1, hb1⟩ := hrel
                have HP := Lib.hid hP
                have HO1 := Lib.hid hO1
                have HB1 := Lib.hid hb1
                clear hP hO1 hb1
                obtain ⟨w0, hw0⟩ : ∃ w0, w0 = wr := ⟨_, rfl⟩
                subst hw0
                go_wp2_with fail
                go_loopw [10] (fun iv wr => ∃ i' : Nat, i ≤ i' ∧ iv = .int .i64 i' ∧ PtS (· < P.toNat) (P.toNat ≤ ·) l l1 a b i' j P ∧ OU wr B (.slice (some ⟨g, 0, none⟩) n cap) l1 ∧ Below B w wr) (fun iv _ => j + 1 - (intOf iv).toNat)
                case atStart => exact ⟨i, Nat.le_refl _, by go_num, HP.out, HO1.out, HB1.out⟩
                case round =>
                  clear HP HO1 HB1
                  obtain ⟨i', hii, rfl, hP, hO1, hb1⟩ := hrel
                  have HP := Lib.hid hP
                  have HO1 := Lib.hid hO1
                  have HB1 := Lib.hid hb1
                  have HL := Lib.hid (hP.sw.len.trans HN.out)
                  have q1 := hP.i1
                  have q2 := hP.ij
                  have q3 := hP.jb
                  clear hP hO1 hb1
                  by_cases hx : i' ≤ j ∧ ky l1 i' < P.toNat
                  · obtain ⟨hij, hx⟩ := hx
                    have c1 := HO1.out.at (i := a) (by have := HL.out; omega)
                    rw [HP.out.p] at c1
                    have c2 := HO1.out.at (i := i') (by have := HL.out; omega)
                    have HP2 := Lib.hid (HP.out.incI hij hx)
                    have hx2 : (l1.getD i' 0).toNat < P.toNat := hx
                    clear hx
                    generalize l1.getD i' 0 = x at *
                    have i3 : (i' : Int) < (n : Int) := by omega
                    have d1 : decide ((i' : Int) ≤ (j : Int)) = true := decide_eq_true (by omega)
                    have t1 : decide (x.toNat < P.toNat) = true := decide_eq_true (by omega)
                    clear hx2
                    go_wp2_with fail
                    go_quiet (first | (go_at_call 74; exact Calls.quiet_of_same (less_any _ _ _)))
                    go_wp2
                    go_roundw
                    case rel => exact ⟨i' + 1, by omega, by go_num, HP2.out, HO1.out, below_drewN HB1.out _⟩
                    case measure => simp [intOf]; omega
                  · have HX : Hid (i' ≤ j → P.toNat ≤ ky l1 i') := fun h => by omega
                    clear hx
                    by_cases hij : i' ≤ j
                    case' pos =>
                      have c1 := HO1.out.at (i := a) (by have := HL.out; omega)
                      rw [HP.out.p] at c1
                      have c2 := HO1.out.at (i := i') (by have := HL.out; omega)
                      have hx2 : P.toNat ≤ (l1.getD i' 0).toNat := HX.out hij
                      generalize l1.getD i' 0 = x at *
                      have i3 : (i' : Int) < (n : Int) := by omega
                      have d1 : decide ((i' : Int) ≤ (j : Int)) = true := decide_eq_true (by omega)
                      have t1 : decide (x.toNat < P.toNat) = false := decide_eq_false (by omega)
                      clear hx2
                      go_wp2_with fail
                      go_quiet (first | (go_at_call 74; exact Calls.quiet_of_same (less_any _ _ _)))
                      clear c1 c2 i3 d1 t1
                    case' neg =>
                      have d1 : decide ((i' : Int) ≤ (j : Int)) = false := decide_eq_false (by omega)
                      go_wp2_with fail
                      go_quiet (fail)
                      clear d1
                    all_goals
                      clear hij
                      go_wp2_with fail
                      go_loopw [11] (fun jv wr => ∃ j' : Nat, j' ≤ j ∧ jv = .int .i64 j' ∧ PtS (· < P.toNat) (P.toNat ≤ ·) l l1 a b i' j' P ∧ OU wr B (.slice (some ⟨g, 0, none⟩) n cap) l1 ∧ Below B w wr) (fun jv _ => (intOf jv).toNat)
                      case atStart => exact ⟨j, Nat.le_refl _, rfl, HP.out, HO1.out, below_drewN HB1.out _⟩
                      case round =>
                        clear HP HO1 HB1 q2 q3
                        obtain ⟨j', hjj, rfl, hP, hO1, hb1⟩ := hrel
                        have HP := Lib.hid hP
                        have HO1 := Lib.hid hO1
                        have HB1 := Lib.hid hb1
                        have q2 := hP.ij
                        have q3 := hP.jb
                        clear hP hO1 hb1
                        by_cases hij : i' ≤ j'
                        · have c1 := HO1.out.at (i := a) (by have := HL.out; omega)
                          rw [HP.out.p] at c1
                          have c2 := HO1.out.at (i := j') (by have := HL.out; omega)
                          have i3 : (j' : Int) < (n : Int) := by omega
                          have d1 : decide ((i' : Int) ≤ (j' : Int)) = true := decide_eq_true (by omega)
                          by_cases hx : P.toNat ≤ ky l1 j'
                          · have HP2 := Lib.hid (HP.out.decJ hij hx)
                            have hx2 : P.toNat ≤ (l1.getD j' 0).toNat := hx
                            clear hx
                            generalize l1.getD j' 0 = x at *
                            have t1 : decide (x.toNat < P.toNat) = false := decide_eq_false (by omega)
                            clear hx2
                            go_wp2_with fail
                            go_quiet (first | (go_at_call 74; exact Calls.quiet_of_same (less_any _ _ _)))
                            go_wp2
                            go_roundw
                            case rel => exact ⟨j' - 1, by omega, by go_num, HP2.out, HO1.out, below_drewN HB1.out _⟩
                            case measure => simp [intOf]; omega
                          · have hx1 : P.toNat ≤ ky l1 i' := HX.out (by omega)
                            have hne : i' < j' := by
                              rcases Nat.lt_or_ge i' j' with h | h
                              · exact h
                              · obtain rfl : i' = j' := by omega
                                omega
                            have HP2 := Lib.hid (HP.out.swap hne hx1 (by omega) (by have := HN.out; omega))
                            have hx2 : ¬ P.toNat ≤ (l1.getD j' 0).toNat := hx
                            have c3 := HO1.out.at (i := i') (by have := HL.out; omega)
                            have HF := Lib.hid (fun q => OU.swapF (w := wr.drewN q) (i := i') (j := j') HO1.out (by have := HL.out; omega) (by have := HL.out; omega))
                            have HO3 := Lib.hid (HO1.out.swap i' j')
                            clear hx hx1
                            generalize sw l1 i' j' = l3 at *
                            generalize l1.getD j' 0 = x at *
                            generalize l1.getD i' 0 = u at *
                            have i4 : (i' : Int) < (n : Int) := by omega
                            have t1 : decide (x.toNat < P.toNat) = true := decide_eq_true (by omega)
                            have d2 : decide ((j' : Int) < (i' : Int)) = false := decide_eq_false (by omega)
                            clear hx2
                            go_wp2_with fail
                            go_quiet (first | (go_at_call 74; exact Calls.quiet_of_same (less_any _ _ _)))
                            go_wp2
                            obtain ⟨_, _, f1, f2, y, c4⟩ := HF.out (nq + 1)
                            go_region
                            go_wp2
                            go_roundw
                            case rel => exact ⟨i' + 1, j' - 1, l3, by go_num, by go_num, HP2.out, HO3.out, below_swap (below_drewN HB1.out _) HGB.out _ _ _ _⟩
                            case measure => simp [intOf]; omega
                        · have hLL : l1.length = n := HL.out
                          have HE := Lib.hid (HP.out.last (by omega) (by have := HN.out; omega))
                          have c1 := HO1.out.at (i := a) (by omega)
                          have c2 := HO1.out.at (i := j') (by omega)
                          have HF := Lib.hid (fun q => OU.swapF (w := wr.drewN q) (i := j') (j := a) HO1.out (by omega) (by omega))
                          have HO3 := Lib.hid (HO1.out.swap j' a)
                          have q1' : a ≤ j' := by omega
                          have i3 : (j' : Int) < (n : Int) := by omega
                          clear hLL
                          generalize sw l1 j' a = l3 at *
                          generalize l1.getD j' 0 = x at *
                          generalize l1.getD a 0 = u at *
                          have d1 : decide ((i' : Int) ≤ (j' : Int)) = false := decide_eq_false (by omega)
                          have d2 : decide ((j' : Int) < (i' : Int)) = true := decide_eq_true (by omega)
                          go_wp2_with fail
                          go_quiet (fail)
                          go_wp2
                          obtain ⟨_, _, f1, f2, y, c4⟩ := HF.out (nq + 1)
                          go_region
                          go_wp2
                          go_ret2
                          exact ⟨l3, j', false, rfl, HE.out.1, by omega, by omega, HE.out.2, HO3.out, below_swap (below_drewN HB1.out _) HGB.out _ _ _ _⟩
          · have hLL : l1.length = n := HL.out
            have HE := Lib.hid (HP.out.last (by omega) (by have := HN.out; omega))
            have c1 := HO1.out.at (i := a) (by omega)
            have c2 := HO1.out.at (i := j') (by omega)
            have HF := Lib.hid (fun q => OU.swapF (w := wr.drewN q) (i := j') (j := a) HO1.out (by omega) (by omega))
            have HO3 := Lib.hid (HO1.out.swap j' a)
            have q1' : a ≤ j' := by omega
            have i3 : (j' : Int) < (n : Int) := by omega
            clear hLL
            generalize sw l1 j' a = l3 at *
            generalize l1.getD j' 0 = x at *
            generalize l1.getD a 0 = u at *
            have d1 : decide ((i' : Int) ≤ (j' : Int)) = false := decide_eq_false (by omega)
            have d2 : decide ((j' : Int) < (i' : Int)) = true := decide_eq_true (by omega)
            go_wp2_with fail
            go_quiet (fail)
            go_wp2
            obtain ⟨_, _, f1, f2, y, c4⟩ := HF.out (nq + 1)
            go_region
            go_wp2
            go_ret2
            exact ⟨l3, j', true, rfl, HE.out.1, by omega, by omega, HE.out.2, HO3.out, below_swap (below_drewN HB1.out _) HGB.out _ _ _ _⟩
end Go.Proofs.Ytnihcpaakbhpcaa
