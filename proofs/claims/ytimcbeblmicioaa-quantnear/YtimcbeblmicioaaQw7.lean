/- lotdrawerkeep.QuantNear's walk, out of contracts. -/
import Derived.Test.YtimcbeblmicioaaQw6
namespace Go.Proofs.Ytimcbeblmicioaa
open Go.RowKit Go.Deep Go.Sort Go.Shelf Go.Lib

set_option maxRecDepth 100000 in
set_option maxHeartbeats 4000000 in
theorem quantNear_walk (KF : CtFind) (KL : CtAll) (KR : CtRight) (KC : CtCount) (p : Int) (X : Option Addr) (cx : Nat) (xs : List Int) (place : Int) (w : World) (hX : IP w X cx xs) :
    Calls Try.prog 4 #[.int .i64 p, .slice X xs.length cx, .int .i64 place] w fun e w' => e = .returned (.bool true) ∧ Below w.heap.size w w' := by
  have CA := Lib.hid (alive15_any KF KL KR KC)
  have C1 : Hid (∀ w', Below w.heap.size w w' → Calls Try.prog 12 #[.int .i64 p, .slice X xs.length cx] w' (RPost w' (qallC p xs))) := fun w' hb => KL p X cx xs w' (hX.later hb)
  have hlx := hX.le
  have hcx := hX.cap
  have HX := Lib.hid hX
  unfold RPost at C1
  clear hX KL KR KC
  by_cases he : (qallC p xs).2 = 0
  · have hI := qallC_inv he
    obtain ⟨⟨S, ei⟩, hq⟩ : ∃ q, qallC p xs = q := ⟨_, rfl⟩
    rw [hq] at C1 he hI
    dsimp only at C1 he hI
    subst he
    have htot := hI.tot
    have ht40 := hI.right.tot
    have hxs : xs.length ≤ 1099511627776 := by omega
    have hp1 := hI.right.p1
    have hp2 := hI.right.p2
    have C2 : Hid (∀ A ca w', RP w' A ca S → Calls Try.prog 10 #[.int .i64 p, .slice A S.length ca, .int .i64 place] w' fun e w2 => e = .returned (.tuple #[.int .i64 (qfindC p S place).1, .int .i64 (qfindC p S place).2]) ∧ Below w'.heap.size w' w2) := fun A ca w' h => KF p A ca S place w' h
    clear hq htot ht40
    by_cases hpl : 1 ≤ place ∧ place ≤ xs.length
    · obtain ⟨N, D, hf, hmem, hd1, hd2, hd3⟩ := hI.found hpl.1 hpl.2
      rw [hf] at C2
      dsimp only at C2
      obtain ⟨hpl1, hpl2⟩ := hpl
      have p1 : ¬ place < 1 := by omega
      have p2 : ¬ (xs.length : Int) < place := by omega
      have hce := ceq_pos hmem
      have hcp := cle_parts N xs
      have hcl := clt_le xs N
      have hcq := cle_le xs N
      have HD1 := Lib.hid hd1
      have HD2 := Lib.hid hd2
      have HD3 := Lib.hid hd3
      have himl : (imsort xs).length = xs.length := by unfold imsort; exact List.length_mergeSort _
      clear hI hf hmem hd1 hd2 hd3 KF
      go_enter Try.func4, Try.ntmps4
      go_wp2_with fail
      refine (CA.out _).mono ?_
      rintro e w1 ⟨rfl, hb⟩
      have HB1 := Lib.hid hb
      clear hb
      go_wp2_with fail
      refine (C1.out _ HB1.out).mono ?_
      rintro e w2 ⟨R, c, rfl, hP, hb⟩
      have HB2 := Lib.hid (HB1.out.trans (hb.mono HB1.out.size))
      have K2 := Lib.hid (C2.out R c w2 hP)
      clear hb hP HB1 C1 C2 CA
      go_wp2_with fail
      refine K2.out.mono ?_
      rintro e w3 ⟨rfl, hb⟩
      have HB3 := Lib.hid (HB2.out.trans (hb.mono HB2.out.size))
      clear hb HB2 K2
      have hbv : Below w3.heap.size w3 (w3.alloc (.cells #[.slice X xs.length cx] 23)) := (Below.refl _ _).alloc (Nat.le_refl _) _
      have HBV := Lib.hid (HB3.out.trans (hbv.mono HB3.out.size))
      have CV := Lib.hid (ivalues_any X xs.length cx w3)
      have CS := Lib.hid (sorted_any w3.heap.size X cx xs (by omega) (w3.alloc (.cells #[.slice X xs.length cx] 23)) (Boxed.new _ _ _) (HX.out.later HBV.out).il)
      clear hbv
      go_wp2_with fail
      refine CV.out.mono ?_
      rintro e w4 ⟨rfl, rfl⟩
      go_wp2_with fail
      refine CS.out.mono ?_
      rintro e w5 ⟨v, rfl, hO, hb⟩
      obtain ⟨RS, cS, rfl, hIS⟩ := hO.ip
      have HIS : Hid (IP w5 RS cS (imsort xs)) := hIS
      have HB5 := Lib.hid (HBV.out.trans (hb.mono HBV.out.size))
      have hms : (xs.mergeSort fun x y => decide (x ≤ y)).length = xs.length := List.length_mergeSort _
      have hlS : xs.length ≤ cS := by have := hIS.le; rw [hms] at this; exact this
      have hcS := hIS.cap
      rw [hms]
      clear hO hIS hb CS CV HB3 HBV hms
      go_wp2_with fail
      go_loop [12] (fun iv => ∃ i : Nat, i ≤ xs.length ∧ iv = .int .i64 i ∧ ∀ j, j < i → (imsort xs).getD j 0 < N) (fun iv => xs.length - (intOf iv).toNat)
      case atStart => exact ⟨0, by omega, rfl, fun j hj => by omega⟩
      case round =>
        obtain ⟨i, hi, rfl, hJ⟩ := hrel
        have HJ := Lib.hid hJ
        clear hJ
        by_cases hlt : i < xs.length
        · obtain ⟨g, o, rfl, _, hcell⟩ := HIS.out.il.at (by omega)
          have hc := hcell i (by omega)
          have hii : (i : Int) < (xs.length : Int) := by omega
          have HC := Lib.hid hcell
          clear hcell
          by_cases hs : (imsort xs).getD i 0 < N
          · have HJ2 : Hid (∀ j, j < i + 1 → (imsort xs).getD j 0 < N) := fun j hj => by
              by_cases e : j = i
              · rw [e]; exact hs
              · exact HJ.out j (by omega)
            generalize (imsort xs).getD i 0 = y at *
            go_wp2
            go_round
            case rel => exact ⟨i + 1, by omega, by go_num, HJ2.out⟩
            case measure => simp [intOf]; omega
          · have E1 : Hid (clt xs N = i) := clt_of (by omega) HJ.out (fun _ => hs)
            have HNS : Hid (N ≤ (imsort xs).getD i 0) := by show N ≤ _; omega
            have hsd : decide ((imsort xs).getD i 0 < N) = false := decide_eq_false hs
            clear hs
            generalize hy : (imsort xs).getD i 0 = y at hc hsd
            clear hy
            go_wp2_with fail
            clear hc hsd
            go_loop [13] (fun tv => ∃ t : Nat, i ≤ t ∧ t ≤ xs.length ∧ tv = .int .i64 t ∧ ∀ j, i ≤ j → j < t → (imsort xs).getD j 0 = N) (fun tv => xs.length - (intOf tv).toNat)
            case atStart => exact ⟨i, Nat.le_refl _, by omega, rfl, fun j h1 h2 => by omega⟩
            case round =>
              obtain ⟨t, hit, htl, rfl, hT⟩ := hrel
              have HT := Lib.hid hT
              clear hT
              by_cases htt : t < xs.length
              · have hc := HC.out t (by omega)
                have hti : (t : Int) < (xs.length : Int) := by omega
                by_cases hs : (imsort xs).getD t 0 = N
                · have HT2 : Hid (∀ j, i ≤ j → j < t + 1 → (imsort xs).getD j 0 = N) := fun j h1 h2 => by
                    by_cases e : j = t
                    · rw [e]; exact hs
                    · exact HT.out j h1 (by omega)
                  have hd : ((imsort xs).getD t 0 == N) = true := by rw [beq_iff_eq]; exact hs
                  clear hs
                  generalize (imsort xs).getD t 0 = y at *
                  go_wp2
                  go_round
                  case rel => exact ⟨t + 1, by omega, by omega, by go_num, HT2.out⟩
                  case measure => simp [intOf]; omega
                · have E2 : Hid (cle xs N = t) := cle_of hit (by omega) HJ.out (fun _ => by have := HNS.out; omega) HT.out (fun _ => hs)
                  have hd : ((imsort xs).getD t 0 == N) = false := by rw [beq_eq_false_iff_ne]; exact hs
                  clear hs
                  generalize (imsort xs).getD t 0 = y at *
                  have hE2 := E2.out
                  have hE1 := E1.out
                  rw [hE2] at hcq hcp
                  rw [hE1] at hcl hcp
                  have k1 := HD1.out
                  have k2 := HD2.out
                  rw [hE1] at k1
                  rw [hE2] at k2
                  have hit2 : (i : Int) < (t : Int) := by omega
                  obtain ⟨V, hV⟩ : ∃ V : Int, (i : Int) + 1 - place = V := ⟨_, rfl⟩
                  obtain ⟨U, hU⟩ : ∃ U : Int, place - (t : Int) = U := ⟨_, rfl⟩
                  rw [hV] at k1
                  rw [hU] at k2
                  have hb1 : -1099511627778 ≤ V ∧ V ≤ 1099511627778 := by omega
                  have hb2 : -1099511627778 ≤ U ∧ U ≤ 1099511627778 := by omega
                  have HV : Hid (0 ≤ V → 0 ≤ V * p ∧ V * p ≤ (xs.length : Int)) := fun h => ⟨Int.mul_nonneg h (by omega), Int.le_trans (Int.mul_le_mul_of_nonneg_right k1 (by omega)) HD3.out⟩
                  have HU : Hid (0 ≤ U → 0 ≤ U * p ∧ U * p ≤ (xs.length : Int)) := fun h => ⟨Int.mul_nonneg h (by omega), Int.le_trans (Int.mul_le_mul_of_nonneg_right k2 (by omega)) HD3.out⟩
                  clear hE1 hE2 hcq hcp hcl k1 k2 HD1 HD2 HD3 E1 E2 HJ HT
                  by_cases h1 : V < U
                  · by_cases h2 : U < 0
                    · go_wp2
                      go_ret
                      exact ⟨rfl, HB5.out⟩
                    · obtain ⟨m0, m1⟩ := HU.out (by omega)
                      clear HV HU
                      go_wp2
                      go_ret
                      exact ⟨rfl, HB5.out⟩
                  · by_cases h2 : V < 0
                    · go_wp2
                      go_ret
                      exact ⟨rfl, HB5.out⟩
                    · obtain ⟨m0, m1⟩ := HV.out (by omega)
                      clear HV HU
                      go_wp2
                      go_ret
                      exact ⟨rfl, HB5.out⟩
              · have E2 : Hid (cle xs N = t) := cle_of hit (by omega) HJ.out (fun _ => by have := HNS.out; omega) HT.out (fun h => by omega)
                have htd : decide (t < xs.length) = false := decide_eq_false htt
                have hE2 := E2.out
                have hE1 := E1.out
                rw [hE2] at hcq hcp
                rw [hE1] at hcl hcp
                have k1 := HD1.out
                have k2 := HD2.out
                rw [hE1] at k1
                rw [hE2] at k2
                have hit2 : (i : Int) < (t : Int) := by omega
                obtain ⟨V, hV⟩ : ∃ V : Int, (i : Int) + 1 - place = V := ⟨_, rfl⟩
                obtain ⟨U, hU⟩ : ∃ U : Int, place - (t : Int) = U := ⟨_, rfl⟩
                rw [hV] at k1
                rw [hU] at k2
                have hb1 : -1099511627778 ≤ V ∧ V ≤ 1099511627778 := by omega
                have hb2 : -1099511627778 ≤ U ∧ U ≤ 1099511627778 := by omega
                have HV : Hid (0 ≤ V → 0 ≤ V * p ∧ V * p ≤ (xs.length : Int)) := fun h => ⟨Int.mul_nonneg h (by omega), Int.le_trans (Int.mul_le_mul_of_nonneg_right k1 (by omega)) HD3.out⟩
                have HU : Hid (0 ≤ U → 0 ≤ U * p ∧ U * p ≤ (xs.length : Int)) := fun h => ⟨Int.mul_nonneg h (by omega), Int.le_trans (Int.mul_le_mul_of_nonneg_right k2 (by omega)) HD3.out⟩
                clear hE1 hE2 hcq hcp hcl k1 k2 HD1 HD2 HD3 E1 E2 HJ HT
                by_cases h1 : V < U
                · by_cases h2 : U < 0
                  · go_wp2
                    go_ret
                    exact ⟨rfl, HB5.out⟩
                  · obtain ⟨m0, m1⟩ := HU.out (by omega)
                    clear HV HU
                    go_wp2
                    go_ret
                    exact ⟨rfl, HB5.out⟩
                · by_cases h2 : V < 0
                  · go_wp2
                    go_ret
                    exact ⟨rfl, HB5.out⟩
                  · obtain ⟨m0, m1⟩ := HV.out (by omega)
                    clear HV HU
                    go_wp2
                    go_ret
                    exact ⟨rfl, HB5.out⟩
        · have E1 := clt_of (xs := xs) (N := N) (i := i) (by omega) HJ.out (fun h => by omega)
          omega
    · have hf := hI.nofound hpl
      rw [hf] at C2
      dsimp only at C2
      have hpd : place < 1 ∨ (xs.length : Int) < place := by omega
      clear hI hf hpl KF
      rcases hpd with h1 | h1
      · go_enter Try.func4, Try.ntmps4
        go_wp2_with fail
        refine (CA.out _).mono ?_
        rintro e w1 ⟨rfl, hb⟩
        have HB1 := Lib.hid hb
        clear hb
        go_wp2_with fail
        refine (C1.out _ HB1.out).mono ?_
        rintro e w2 ⟨R, c, rfl, hP, hb⟩
        have HB2 := Lib.hid (HB1.out.trans (hb.mono HB1.out.size))
        have K2 := Lib.hid (C2.out R c w2 hP)
        clear hb hP
        go_wp2_with fail
        refine K2.out.mono ?_
        rintro e w3 ⟨rfl, hb⟩
        have HB3 := Lib.hid (HB2.out.trans (hb.mono HB2.out.size))
        clear hb
        go_wp2
        go_ret
        exact ⟨rfl, HB3.out⟩
      · have h2 : ¬ place < 1 := by omega
        go_enter Try.func4, Try.ntmps4
        go_wp2_with fail
        refine (CA.out _).mono ?_
        rintro e w1 ⟨rfl, hb⟩
        have HB1 := Lib.hid hb
        clear hb
        go_wp2_with fail
        refine (C1.out _ HB1.out).mono ?_
        rintro e w2 ⟨R, c, rfl, hP, hb⟩
        have HB2 := Lib.hid (HB1.out.trans (hb.mono HB1.out.size))
        have K2 := Lib.hid (C2.out R c w2 hP)
        clear hb hP
        go_wp2_with fail
        refine K2.out.mono ?_
        rintro e w3 ⟨rfl, hb⟩
        have HB3 := Lib.hid (HB2.out.trans (hb.mono HB2.out.size))
        clear hb
        go_wp2
        go_ret
        exact ⟨rfl, HB3.out⟩
  · have hnil := qallC_bad he
    obtain ⟨⟨S, ei⟩, hq⟩ : ∃ q, qallC p xs = q := ⟨_, rfl⟩
    rw [hq] at C1 he hnil
    dsimp only at C1 he hnil
    subst hnil
    have hei : (ei != 0) = true := by rw [bne_iff_ne]; exact he
    clear hq he
    go_enter Try.func4, Try.ntmps4
    go_wp2_with fail
    refine (CA.out _).mono ?_
    rintro e w1 ⟨rfl, hb⟩
    have HB1 := Lib.hid hb
    clear hb
    go_wp2_with fail
    refine (C1.out _ HB1.out).mono ?_
    rintro e w2 ⟨R, c, rfl, hP, hb⟩
    have HB2 := Lib.hid (HB1.out.trans (hb.mono HB1.out.size))
    clear hb hP
    go_wp2
    go_ret
    exact ⟨rfl, HB2.out⟩
end Go.Proofs.Ytimcbeblmicioaa
