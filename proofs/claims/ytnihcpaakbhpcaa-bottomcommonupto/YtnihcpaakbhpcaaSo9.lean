/- slices.partialInsertionSortOrdered of words (made by a program). -/
import Derived.Test.YtnihcpaakbhpcaaSo2
namespace Go.Proofs.Ytnihcpaakbhpcaa
open Go.RowKit Go.Deep

/-- What partialInsertionSort leaves. -/
def IPost (w : World) (B : Nat) (v : Value) (a b : Nat) (l : List W64) (e : Ending) (w' : World) : Prop := ∃ (l' : List W64) (s : Bool), e = .returned (.bool s) ∧ Sw a b l l' ∧ (s = true → Srt l' a b) ∧ OU w' B v l' ∧ Below B w w'

set_option maxRecDepth 100000 in
set_option maxHeartbeats 16000000 in
theorem partial_any (B g cap n a b : Nat) (l : List W64) (w : World) (hO : OU w B (.slice (some ⟨g, 0, none⟩) n cap) l) (hn : l.length = n) (hB : B ≤ g) (hab : a < b) (hb : b ≤ n) (hs : n ≤ 17592186044416) (hlo : Lo l a b) :
    Calls Try.prog 73 #[.slice (some ⟨g, 0, none⟩) n cap, .int .i64 a, .int .i64 b] w (IPost w B (.slice (some ⟨g, 0, none⟩) n cap) a b l) := by
  have HO := Lib.hid hO
  have HN := Lib.hid hn
  have HGB := Lib.hid hB
  have HLo := Lib.hid hlo
  clear hO hn hB hlo
  go_enter Try.func73, Try.ntmps73
  go_wp2_with fail
  go_loopw [7, 8] (fun iv jv wr => ∃ (i s : Nat) (l' : List W64), a + 1 ≤ i ∧ i ≤ b ∧ s ≤ 5 ∧ iv = .int .i64 i ∧ jv = .int .i64 s ∧ Sw a b l l' ∧ Srt l' a i ∧ OU wr B (.slice (some ⟨g, 0, none⟩) n cap) l' ∧ Below B w wr) (fun _ jv _ => 5 - (intOf jv).toNat)
  case atStart => exact ⟨a + 1, 0, l, by omega, by omega, by omega, by go_num, rfl, .refl _, fun p q h1 h2 h3 => by omega, HO.out, Below.refl _ _⟩
  case round =>
    clear HO
    obtain ⟨i, s, l1, hi1, hi2, hs1, rfl, rfl, hS, hT, hO1, hb1⟩ := hrel
    have HS := Lib.hid hS
    have HT := Lib.hid hT
    have HO1 := Lib.hid hO1
    have HB1 := Lib.hid hb1
    have HL := Lib.hid (hS.len.trans HN.out)
    clear hS hT hO1 hb1
    by_cases hs5 : s < 5
    · have d1 : decide ((s : Int) < 5) = true := decide_eq_true (by omega)
      obtain ⟨w0, hw0⟩ : ∃ w0, w0 = wr := ⟨_, rfl⟩
      subst hw0
      go_wp2_with fail
      go_loopw [7] (fun iv wr => ∃ i' : Nat, a + 1 ≤ i' ∧ i' ≤ b ∧ iv = .int .i64 i' ∧ Srt l1 a i' ∧ OU wr B (.slice (some ⟨g, 0, none⟩) n cap) l1 ∧ Below B w wr) (fun iv _ => b - (intOf iv).toNat)
      case atStart => exact ⟨i, hi1, hi2, rfl, HT.out, HO1.out, HB1.out⟩
      case round =>
        clear HT HO1 HB1
        obtain ⟨i', hi1', hi2', rfl, hT, hO1, hb1⟩ := hrel
        have HT := Lib.hid hT
        have HO1 := Lib.hid hO1
        have HB1 := Lib.hid hb1
        clear hT hO1 hb1
        by_cases hib : i' < b
        · obtain ⟨m, hm⟩ : ∃ m, i' = m + 1 := ⟨i' - 1, by omega⟩
          have hm1 : i' - 1 = m := by omega
          have hw2 : (i' : Int) - 1 = (m : Int) := by omega
          have HF := Lib.hid (fun q => OU.swapF (w := wr.drewN q) (i := i') (j := m) HO1.out (by have := HL.out; omega) (by have := HL.out; omega))
          have c1 := HO1.out.at (i := i') (by have := HL.out; omega)
          have c2 := HO1.out.at (i := m) (by have := HL.out; omega)
          have HO3 := Lib.hid (HO1.out.swap i' m)
          have i3 : (i' : Int) < (n : Int) := by omega
          have i4 : (m : Int) < (n : Int) := by omega
          have HSt := Lib.hid (fun (h : ¬ ky l1 i' < ky l1 m) => show Srt l1 a (i' + 1) from Ins.done (Ins.start HT.out) (.inr (by rw [hm1]; omega)))
          have HIt := Lib.hid (fun (h : ky l1 i' < ky l1 m) => by have h9 := Ins.swap (Ins.start HT.out) (by omega) (by omega) (by have := HL.out; omega) (by rw [hm1]; exact h); rw [hm1] at h9; exact h9)
          have HS2 := Lib.hid (HS.out.step (i := i') (j := m) (by omega) (by omega) (by omega) (by omega) (by have := HL.out; omega))
          clear hm1
          by_cases hc : ky l1 i' < ky l1 m
          · have h9 := HIt.out hc
            have HI2 : Hid (Ins (sw l1 i' m) a i' (i' - 1)) := by
              show Ins _ _ _ _
              rw [show i' - 1 = m by omega]
              exact fun p q p1 p2 p3 p4 => h9 p q p1 p2 (by omega) p4
            have HT2 : Hid (i' = a + 1 → Srt (sw l1 i' m) a i') := fun h p q p1 p2 p3 => by omega
            have hc2 : (l1.getD i' 0).toNat < (l1.getD m 0).toNat := hc
            clear h9 hc HIt HSt hm
            generalize sw l1 i' m = l3 at *
            generalize l1.getD i' 0 = x at *
            generalize l1.getD m 0 = z at *
            have t1 : decide (x.toNat < z.toNat) = true := decide_eq_true hc2
            have d2 : decide ((i' : Int) < (b : Int)) = true := decide_eq_true (by omega)
            have d3 : ((i' : Int) == (b : Int)) = false := by simp; omega
            clear hc2
            by_cases h50 : (b : Int) - (a : Int) < 50
            · have d4 : decide ((b : Int) - (a : Int) < 50) = true := decide_eq_true h50
              clear h50
              go_wp2_with fail
              go_quiet (first | (go_at_call 74; exact Calls.quiet_of_same (less_any _ _ _)))
              go_wp2
              go_ret
              exact ⟨l1, false, rfl, HS.out, (fun h => by simp at h), HO1.out, below_drewN HB1.out _⟩
            · have d4 : decide ((b : Int) - (a : Int) < 50) = false := decide_eq_false h50
              clear h50
              go_wp2_with fail
              go_quiet (first | (go_at_call 74; exact Calls.quiet_of_same (less_any _ _ _)))
              go_wp2
              obtain ⟨_, _, f1, f2, y, c3⟩ := HF.out (nq + 1)
              go_region
              have HB2 := Lib.hid (below_swap (below_drewN HB1.out (nq + 1)) HGB.out i' m (.int .u64 (z.toNat : Int)) (.int .u64 (x.toNat : Int)))
              have HO2 := HO3
              clear HF f1 f2 c1 c2 c3 t1 d2 d3 d4 i3 i4 hw2 HO1 HB1 HS HT HO3
              by_cases h2 : a + 2 ≤ i'
              · have d6 : decide ((2 : Int) ≤ (i' : Int) - (a : Int)) = true := decide_eq_true (by omega)
                go_wp2_with fail
                go_loopw [9] (fun jv wr => ∃ (j : Nat) (l' : List W64), a ≤ j ∧ j + 1 ≤ i' ∧ jv = .int .i64 j ∧ Sw a b l l' ∧ Ins l' a i' j ∧ OU wr B (.slice (some ⟨g, 0, none⟩) n cap) l' ∧ Below B w wr) (fun jv _ => (intOf jv).toNat)
                case atStart => exact ⟨i' - 1, l3, by omega, by omega, by go_num, HS2.out, HI2.out, HO2.out, HB2.out⟩
                case round =>
                  clear HS2 HI2 HO2 HB2 HT2 HL
                  obtain ⟨j, l4, hj1, hj2, rfl, hS, hI, hO1, hb1⟩ := hrel
                  have HS := Lib.hid hS
                  have HI := Lib.hid hI
                  have HO1 := Lib.hid hO1
                  have HB1 := Lib.hid hb1
                  have HL := Lib.hid (hS.len.trans HN.out)
                  have HLo2 := Lib.hid (HLo.out.keep hS)
                  clear hS hI hO1 hb1
                  by_cases h0 : j = 0
                  · subst h0
                    have HT := Lib.hid (Ins.done HI.out (.inl (by omega)))
                    by_cases h3 : i' + 2 ≤ b
                    · have d5 : decide ((2 : Int) ≤ (b : Int) - (i' : Int)) = true := decide_eq_true (by omega)
                      go_wp2_with fail
                      go_loopw [10] (fun jv wr => ∃ (j : Nat) (l' : List W64), i' + 1 ≤ j ∧ j ≤ b ∧ jv = .int .i64 j ∧ Sw a b l l' ∧ Srt l' a i' ∧ OU wr B (.slice (some ⟨g, 0, none⟩) n cap) l' ∧ Below B w wr) (fun jv _ => b - (intOf jv).toNat)
                      case atStart => exact ⟨i' + 1, l4, by omega, by omega, by go_num, HS.out, HT.out, HO1.out, HB1.out⟩
                      case round =>
                        obtain ⟨j, l5, hj1, hj2, rfl, hS, hT, hO1, hb1⟩ := hrel
                        have HS := Lib.hid hS
                        have HT := Lib.hid hT
                        have HO1 := Lib.hid hO1
                        have HB1 := Lib.hid hb1
                        have HL := Lib.hid (hS.len.trans HN.out)
                        clear hS hT hO1 hb1
                        by_cases hj : j < b
                        · obtain ⟨m, hm⟩ : ∃ m, j = m + 1 := ⟨j - 1, by omega⟩
                          have hw2 : (j : Int) - 1 = (m : Int) := by omega
                          have HF := Lib.hid (fun q => OU.swapF (w := wr.drewN q) (i := j) (j := m) HO1.out (by have := HL.out; omega) (by have := HL.out; omega))
                          have c1 := HO1.out.at (i := j) (by have := HL.out; omega)
                          have c2 := HO1.out.at (i := m) (by have := HL.out; omega)
                          have HO3 := Lib.hid (HO1.out.swap j m)
                          have HS3 := Lib.hid (HS.out.step (i := j) (j := m) (by omega) (by omega) (by omega) (by omega) (by have := HL.out; omega))
                          have HT3 := Lib.hid (show Srt (sw l5 j m) a i' from fun p q h1 h2 h3 => by rw [sw_ky (by have := HL.out; omega) (by have := HL.out; omega), sw_ky (by have := HL.out; omega) (by have := HL.out; omega), if_neg (by omega), if_neg (by omega), if_neg (by omega), if_neg (by omega)]; exact HT.out p q h1 h2 h3)
                          have i3 : (j : Int) < (n : Int) := by omega
                          have i4 : (m : Int) < (n : Int) := by omega
                          clear hm
                          generalize sw l5 j m = l6 at *
                          generalize l5.getD j 0 = x at *
                          generalize l5.getD m 0 = z at *
                          by_cases hc : x.toNat < z.toNat
                          · have t1 : decide (x.toNat < z.toNat) = true := decide_eq_true hc
                            clear hc
                            go_wp2_with fail
                            go_quiet (first | (go_at_call 74; exact Calls.quiet_of_same (less_any _ _ _)))
                            go_wp2
                            obtain ⟨_, _, f1, f2, y, c3⟩ := HF.out (nq + 1)
                            go_region
                            go_wp2
                            go_roundw
                            case rel => exact ⟨j + 1, l6, by omega, by omega, by go_num, HS3.out, HT3.out, HO3.out, below_swap (below_drewN HB1.out _) HGB.out _ _ _ _⟩
                            case measure => simp [intOf]; omega
                          · have t1 : decide (x.toNat < z.toNat) = false := decide_eq_false hc
                            clear hc
                            go_wp2_with fail
                            go_quiet (first | (go_at_call 74; exact Calls.quiet_of_same (less_any _ _ _)))
                            go_wp2
                            go_roundw
                            case rel => exact ⟨i', s + 1, l5, by omega, by omega, by omega, by go_num, by go_num, HS.out, HT.out, HO1.out, below_drewN HB1.out _⟩
                            case measure => simp [intOf]; omega
                        · go_wp2
                          go_roundw
                          case rel => exact ⟨i', s + 1, l5, by omega, by omega, by omega, by go_num, by go_num, HS.out, HT.out, HO1.out, HB1.out⟩
                          case measure => simp [intOf]; omega
                    · have d5 : decide ((2 : Int) ≤ (b : Int) - (i' : Int)) = false := decide_eq_false (by omega)
                      go_wp2
                      go_roundw
                      case rel => exact ⟨i', s + 1, l4, by omega, by omega, by omega, by go_num, by go_num, HS.out, HT.out, HO1.out, HB1.out⟩
                      case measure => simp [intOf]; omega
                  · obtain ⟨m, hm⟩ : ∃ m, j = m + 1 := ⟨j - 1, by omega⟩
                    have hw2 : (j : Int) - 1 = (m : Int) := by omega
                    have d7 : decide ((1 : Int) ≤ (j : Int)) = true := decide_eq_true (by omega)
                    have HF := Lib.hid (fun q => OU.swapF (w := wr.drewN q) (i := j) (j := m) HO1.out (by have := HL.out; omega) (by have := HL.out; omega))
                    have c1 := HO1.out.at (i := j) (by have := HL.out; omega)
                    have c2 := HO1.out.at (i := m) (by have := HL.out; omega)
                    have HO3 := Lib.hid (HO1.out.swap j m)
                    have hm1 : j - 1 = m := by omega
                    have HA : Hid (ky l4 j < ky l4 m → a < j) := fun h => by
                      rcases Nat.lt_or_ge a j with h4 | h4
                      · exact h4
                      · exfalso
                        rcases HLo2.out with h5 | h5
                        · omega
                        · obtain rfl : j = a := by omega
                          have := h5 j (Nat.le_refl _) (by omega)
                          rw [hm1] at this
                          omega
                    have HI3 := Lib.hid (fun (h : ky l4 j < ky l4 m) => by have h9 := Ins.swap HI.out (HA.out h) (by omega) (by have := HL.out; omega) (by rw [hm1]; exact h); rw [hm1] at h9; exact h9)
                    have HD := Lib.hid (fun (h : ¬ ky l4 j < ky l4 m) => Ins.done HI.out (.inr (by rw [hm1]; omega)))
                    have HS3 := Lib.hid (fun (h : ky l4 j < ky l4 m) => HS.out.step (i := j) (j := m) (by omega) (by omega) (by have := HA.out h; omega) (by omega) (by have := HL.out; omega))
                    have i3 : (j : Int) < (n : Int) := by omega
                    have i4 : (m : Int) < (n : Int) := by omega
                    have HK1 : Hid (ky l4 j = (l4.getD j 0).toNat) := rfl
                    have HK2 : Hid (ky l4 m = (l4.getD m 0).toNat) := rfl
                    clear hm1
                    by_cases hc : ky l4 j < ky l4 m
                    · have ha := HA.out hc
                      have HI4 := Lib.hid (HI3.out hc)
                      have HS4 := Lib.hid (HS3.out hc)
                      rw [HK1.out, HK2.out] at hc
                      clear HI3 HS3 HD HA HK1 HK2
                      have hmj : a ≤ m ∧ m + 1 ≤ i' := by omega
                      have HM := Lib.hid (show m + 1 = j from hm.symm)
                      clear hm
                      generalize sw l4 j m = l6 at *
                      generalize l4.getD j 0 = x at *
                      generalize l4.getD m 0 = z at *
                      have t1 : decide (x.toNat < z.toNat) = true := decide_eq_true hc
                      clear hc
                      go_wp2_with fail
                      go_quiet (first | (go_at_call 74; exact Calls.quiet_of_same (less_any _ _ _)))
                      go_wp2
                      obtain ⟨_, _, f1, f2, y, c3⟩ := HF.out (nq + 1)
                      go_region
                      go_wp2
                      go_roundw
                      case rel => exact ⟨m, l6, hmj.1, hmj.2, by go_num, HS4.out, HI4.out, HO3.out, below_swap (below_drewN HB1.out _) HGB.out _ _ _ _⟩
                      case measure => simp [intOf]; have := HM.out; omega
                    · have HT := Lib.hid (HD.out hc)
                      rw [HK1.out, HK2.out] at hc
                      clear HI3 HS3 HD HA HK1 HK2 HF HO3
                      clear hm
                      generalize l4.getD j 0 = x at *
                      generalize l4.getD m 0 = z at *
                      have t1 : decide (x.toNat < z.toNat) = false := decide_eq_false hc
                      clear hc
                      go_wp2_with fail
                      go_quiet (first | (go_at_call 74; exact Calls.quiet_of_same (less_any _ _ _)))
                      by_cases h3 : i' + 2 ≤ b
                      · have d5 : decide ((2 : Int) ≤ (b : Int) - (i' : Int)) = true := decide_eq_true (by omega)
                        go_wp2_with fail
                        go_loopw [10] (fun jv wr => ∃ (j : Nat) (l' : List W64), i' + 1 ≤ j ∧ j ≤ b ∧ jv = .int .i64 j ∧ Sw a b l l' ∧ Srt l' a i' ∧ OU wr B (.slice (some ⟨g, 0, none⟩) n cap) l' ∧ Below B w wr) (fun jv _ => b - (intOf jv).toNat)
                        case atStart => exact ⟨i' + 1, l4, by omega, by omega, by go_num, HS.out, HT.out, HO1.out, below_drewN HB1.out _⟩
                        case round =>
                          obtain ⟨j, l5, hj1, hj2, rfl, hS, hT, hO1, hb1⟩ := hrel
                          have HS := Lib.hid hS
                          have HT := Lib.hid hT
                          have HO1 := Lib.hid hO1
                          have HB1 := Lib.hid hb1
                          have HL := Lib.hid (hS.len.trans HN.out)
                          clear hS hT hO1 hb1
                          by_cases hj : j < b
                          · obtain ⟨m, hm⟩ : ∃ m, j = m + 1 := ⟨j - 1, by omega⟩
                            have hw2 : (j : Int) - 1 = (m : Int) := by omega
                            have HF := Lib.hid (fun q => OU.swapF (w := wr.drewN q) (i := j) (j := m) HO1.out (by have := HL.out; omega) (by have := HL.out; omega))
                            have c1 := HO1.out.at (i := j) (by have := HL.out; omega)
                            have c2 := HO1.out.at (i := m) (by have := HL.out; omega)
                            have HO3 := Lib.hid (HO1.out.swap j m)
                            have HS3 := Lib.hid (HS.out.step (i := j) (j := m) (by omega) (by omega) (by omega) (by omega) (by have := HL.out; omega))
                            have HT3 := Lib.hid (show Srt (sw l5 j m) a i' from fun p q h1 h2 h3 => by rw [sw_ky (by have := HL.out; omega) (by have := HL.out; omega), sw_ky (by have := HL.out; omega) (by have := HL.out; omega), if_neg (by omega), if_neg (by omega), if_neg (by omega), if_neg (by omega)]; exact HT.out p q h1 h2 h3)
                            have i3 : (j : Int) < (n : Int) := by omega
                            have i4 : (m : Int) < (n : Int) := by omega
                            clear hm
                            generalize sw l5 j m = l6 at *
                            generalize l5.getD j 0 = x at *
                            generalize l5.getD m 0 = z at *
                            by_cases hc : x.toNat < z.toNat
                            · have t1 : decide (x.toNat < z.toNat) = true := decide_eq_true hc
                              clear hc
                              go_wp2_with fail
                              go_quiet (first | (go_at_call 74; exact Calls.quiet_of_same (less_any _ _ _)))
                              go_wp2
                              obtain ⟨_, _, f1, f2, y, c3⟩ := HF.out (nq + 1)
                              go_region
                              go_wp2
                              go_roundw
                              case rel => exact ⟨j + 1, l6, by omega, by omega, by go_num, HS3.out, HT3.out, HO3.out, below_swap (below_drewN HB1.out _) HGB.out _ _ _ _⟩
                              case measure => simp [intOf]; omega
                            · have t1 : decide (x.toNat < z.toNat) = false := decide_eq_false hc
                              clear hc
                              go_wp2_with fail
                              go_quiet (first | (go_at_call 74; exact Calls.quiet_of_same (less_any _ _ _)))
                              go_wp2
                              go_roundw
                              case rel => exact ⟨i', s + 1, l5, by omega, by omega, by omega, by go_num, by go_num, HS.out, HT.out, HO1.out, below_drewN HB1.out _⟩
                              case measure => simp [intOf]; omega
                          · go_wp2
                            go_roundw
                            case rel => exact ⟨i', s + 1, l5, by omega, by omega, by omega, by go_num, by go_num, HS.out, HT.out, HO1.out, HB1.out⟩
                            case measure => simp [intOf]; omega
                      · have d5 : decide ((2 : Int) ≤ (b : Int) - (i' : Int)) = false := decide_eq_false (by omega)
                        go_wp2
                        go_roundw
                        case rel => exact ⟨i', s + 1, l4, by omega, by omega, by omega, by go_num, by go_num, HS.out, HT.out, HO1.out, below_drewN HB1.out _⟩
                        case measure => simp [intOf]; omega
              · have d6 : decide ((2 : Int) ≤ (i' : Int) - (a : Int)) = false := decide_eq_false (by omega)
                have HT := Lib.hid (HT2.out (by omega))
                by_cases h3 : i' + 2 ≤ b
                · have d5 : decide ((2 : Int) ≤ (b : Int) - (i' : Int)) = true := decide_eq_true (by omega)
                  go_wp2_with fail
                  go_loopw [10] (fun jv wr => ∃ (j : Nat) (l' : List W64), i' + 1 ≤ j ∧ j ≤ b ∧ jv = .int .i64 j ∧ Sw a b l l' ∧ Srt l' a i' ∧ OU wr B (.slice (some ⟨g, 0, none⟩) n cap) l' ∧ Below B w wr) (fun jv _ => b - (intOf jv).toNat)
                  case atStart => exact ⟨i' + 1, l3, by omega, by omega, by go_num, HS2.out, HT.out, HO2.out, HB2.out⟩
                  case round =>
                    obtain ⟨j, l5, hj1, hj2, rfl, hS, hT, hO1, hb1⟩ := hrel
                    have HS := Lib.hid hS
                    have HT := Lib.hid hT
                    have HO1 := Lib.hid hO1
                    have HB1 := Lib.hid hb1
                    have HL := Lib.hid (hS.len.trans HN.out)
                    clear hS hT hO1 hb1
                    by_cases hj : j < b
                    · obtain ⟨m, hm⟩ : ∃ m, j = m + 1 := ⟨j - 1, by omega⟩
                      have hw2 : (j : Int) - 1 = (m : Int) := by omega
                      have HF := Lib.hid (fun q => OU.swapF (w := wr.drewN q) (i := j) (j := m) HO1.out (by have := HL.out; omega) (by have := HL.out; omega))
                      have c1 := HO1.out.at (i := j) (by have := HL.out; omega)
                      have c2 := HO1.out.at (i := m) (by have := HL.out; omega)
                      have HO3 := Lib.hid (HO1.out.swap j m)
                      have HS3 := Lib.hid (HS.out.step (i := j) (j := m) (by omega) (by omega) (by omega) (by omega) (by have := HL.out; omega))
                      have HT3 := Lib.hid (show Srt (sw l5 j m) a i' from fun p q h1 h2 h3 => by rw [sw_ky (by have := HL.out; omega) (by have := HL.out; omega), sw_ky (by have := HL.out; omega) (by have := HL.out; omega), if_neg (by omega), if_neg (by omega), if_neg (by omega), if_neg (by omega)]; exact HT.out p q h1 h2 h3)
                      have i3 : (j : Int) < (n : Int) := by omega
                      have i4 : (m : Int) < (n : Int) := by omega
                      clear hm
                      generalize sw l5 j m = l6 at *
                      generalize l5.getD j 0 = x at *
                      generalize l5.getD m 0 = z at *
                      by_cases hc : x.toNat < z.toNat
                      · have t1 : decide (x.toNat < z.toNat) = true := decide_eq_true hc
                        clear hc
                        go_wp2_with fail
                        go_quiet (first | (go_at_call 74; exact Calls.quiet_of_same (less_any _ _ _)))
                        go_wp2
                        obtain ⟨_, _, f1, f2, y, c3⟩ := HF.out (nq + 1)
                        go_region
                        go_wp2
                        go_roundw
                        case rel => exact ⟨j + 1, l6, by omega, by omega, by go_num, HS3.out, HT3.out, HO3.out, below_swap (below_drewN HB1.out _) HGB.out _ _ _ _⟩
                        case measure => simp [intOf]; omega
                      · have t1 : decide (x.toNat < z.toNat) = false := decide_eq_false hc
                        clear hc
                        go_wp2_with fail
                        go_quiet (first | (go_at_call 74; exact Calls.quiet_of_same (less_any _ _ _)))
                        go_wp2
                        go_roundw
                        case rel => exact ⟨i', s + 1, l5, by omega, by omega, by omega, by go_num, by go_num, HS.out, HT.out, HO1.out, below_drewN HB1.out _⟩
                        case measure => simp [intOf]; omega
                    · go_wp2
                      go_roundw
                      case rel => exact ⟨i', s + 1, l5, by omega, by omega, by omega, by go_num, by go_num, HS.out, HT.out, HO1.out, HB1.out⟩
                      case measure => simp [intOf]; omega
                · have d5 : decide ((2 : Int) ≤ (b : Int) - (i' : Int)) = false := decide_eq_false (by omega)
                  go_wp2
                  go_roundw
                  case rel => exact ⟨i', s + 1, l3, by omega, by omega, by omega, by go_num, by go_num, HS2.out, HT.out, HO2.out, HB2.out⟩
                  case measure => simp [intOf]; omega
          · have HT3 := Lib.hid (HSt.out hc)
            have hc2 : ¬ (l1.getD i' 0).toNat < (l1.getD m 0).toNat := hc
            clear hc HIt HSt HS2 HF HO3 hm
            generalize l1.getD i' 0 = x at *
            generalize l1.getD m 0 = z at *
            have t1 : decide (x.toNat < z.toNat) = false := decide_eq_false hc2
            clear hc2
            go_wp2_with fail
            go_quiet (first | (go_at_call 74; exact Calls.quiet_of_same (less_any _ _ _)))
            go_wp2
            go_roundw
            case rel => exact ⟨i' + 1, by omega, by omega, by go_num, HT3.out, HO1.out, below_drewN HB1.out _⟩
            case measure => simp [intOf]; omega
        · obtain rfl : i' = b := by omega
          have d2 : decide ((i' : Int) < (i' : Int)) = false := decide_eq_false (by omega)
          go_wp2_with fail
          go_quiet (fail)
          go_wp2
          go_ret
          exact ⟨l1, true, rfl, HS.out, fun _ => HT.out, HO1.out, below_drewN HB1.out _⟩
    · have d1 : decide ((s : Int) < 5) = false := decide_eq_false (by omega)
      go_wp2
      go_ret
      exact ⟨l1, false, rfl, HS.out, (fun h => by simp at h), HO1.out, HB1.out⟩
end Go.Proofs.Ytnihcpaakbhpcaa
