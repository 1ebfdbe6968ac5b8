/- quant's contracts, as what the walks take; lotdrawerlaw.QuantAdds' walk out of them. -/
import Derived.Test.YtimcbeblmicioaaQm4
import Derived.Test.YtimcbeblmicioaaQm5
import Derived.Test.YtimcbeblmicioaaQm8
import Derived.Test.YtimcbeblmicioaaQz3
namespace Go.Proofs.Ytimcbeblmicioaa
open Go.RowKit Go.Deep

def CtAdd : Prop := ∀ (p : Int) (A : Option Addr) (ca : Nat) (S : List Rk) (x : Int) (w : World), RP w A ca S → Calls Try.prog 8 #[.int .i64 p, .slice A S.length ca, .int .i64 x] w (RPost w (qaddC p S x))
def CtFind : Prop := ∀ (p : Int) (A : Option Addr) (ca : Nat) (S : List Rk) (place : Int) (w : World), RP w A ca S → Calls Try.prog 10 #[.int .i64 p, .slice A S.length ca, .int .i64 place] w fun e w' => e = .returned (.tuple #[.int .i64 (qfindC p S place).1, .int .i64 (qfindC p S place).2]) ∧ Below w.heap.size w w'
def CtAll : Prop := ∀ (p : Int) (A : Option Addr) (ca : Nat) (xs : List Int) (w : World), IP w A ca xs → Calls Try.prog 12 #[.int .i64 p, .slice A xs.length ca] w (RPost w (qallC p xs))
def CtRight : Prop := ∀ (p : Int) (A : Option Addr) (ca : Nat) (S : List Rk) (w : World) (b0 : Bool), RP w A ca S → (b0 = true ↔ QR p S) → Calls Try.prog 13 #[.int .i64 p, .slice A S.length ca] w fun e w' => e = .returned (.bool b0) ∧ Below w.heap.size w w'
def CtCount : Prop := ∀ (A : Option Addr) (ca : Nat) (S : List Rk) (w : World), RP w A ca S → (∀ r ∈ S, 0 ≤ r.g) → qtot S ≤ 4398046511104 → Calls Try.prog 16 #[.slice A S.length ca] w fun e w' => e = .returned (.int .i64 (qtot S)) ∧ Below w.heap.size w w'

theorem IP.laterQ {w w' : World} {A : Option Addr} {ca : Nat} {t : List Int} (h : IP w A ca t) (hb : Below w.heap.size w w') : IP w' A ca t := h.later hb
set_option maxRecDepth 100000 in
set_option maxHeartbeats 4000000 in
theorem quantAdds_walk (KA : CtAdd) (KF : CtFind) (KL : CtAll) (KR : CtRight) (KC : CtCount) (p : Int) (A : Option Addr) (ca : Nat) (S : List Rk) (x place : Int) (X : Option Addr) (cx : Nat) (xs : List Int) (w : World) (hS : RP w A ca S) (hX : IP w X cx xs) :
    Calls Try.prog 3 #[.int .i64 p, .slice A S.length ca, .int .i64 x, .int .i64 place, .slice X xs.length cx] w fun e w' => e = .returned (.bool true) ∧ Below w.heap.size w w' := by
  have hlx := hX.le
  have hcx := hX.cap
  obtain ⟨b, hb⟩ : ∃ b : Bool, b = true ↔ QR p S := by
    by_cases h : QR p S
    · exact ⟨true, fun _ => h, fun _ => rfl⟩
    · exact ⟨false, (fun h => by cases h), fun h2 => absurd h2 h⟩
  have C1 : Hid (∀ w', Below w.heap.size w w' → Calls Try.prog 8 #[.int .i64 p, .slice A S.length ca, .int .i64 x] w' (RPost w' (qaddC p S x))) := fun w' hb => KA p A ca S x w' (hS.later hb)
  have C2 : Hid (∀ w', Below w.heap.size w w' → Calls Try.prog 9 #[.int .i64 p, .slice A S.length ca, .int .i64 x] w' (RPost w' (qaddC p S x))) := fun w' hb => oadd_any p A ca S x w' (hS.later hb)
  have C3 : Hid (∀ w', Below w.heap.size w w' → Calls Try.prog 10 #[.int .i64 p, .slice A S.length ca, .int .i64 place] w' fun e w2 => e = .returned (.tuple #[.int .i64 (qfindC p S place).1, .int .i64 (qfindC p S place).2]) ∧ Below w'.heap.size w' w2) := fun w' hb => KF p A ca S place w' (hS.later hb)
  have C4 : Hid (∀ w', Below w.heap.size w w' → Calls Try.prog 11 #[.int .i64 p, .slice A S.length ca, .int .i64 place] w' fun e w2 => e = .returned (.tuple #[.int .i64 (qfindC p S place).1, .int .i64 (qfindC p S place).2]) ∧ Below w'.heap.size w' w2) := fun w' hb => ofind_any p A ca S place w' (hS.later hb)
  have C5 : Hid (∀ w', Below w.heap.size w w' → Calls Try.prog 12 #[.int .i64 p, .slice X xs.length cx] w' (RPost w' (qallC p xs))) := fun w' hb => KL p X cx xs w' (hX.later hb)
  have C6 : Hid (∀ w', Below w.heap.size w w' → Calls Try.prog 13 #[.int .i64 p, .slice A S.length ca] w' fun e w2 => e = .returned (.bool b) ∧ Below w'.heap.size w' w2) := fun w' hb2 => KR p A ca S w' b (hS.later hb2) hb
  have C7 : Hid (∀ w', Below w.heap.size w w' → Calls Try.prog 14 #[.int .i64 p, .slice A S.length ca] w' fun e w2 => e = .returned (.bool b) ∧ Below w'.heap.size w' w2) := fun w' hb2 => oright_any p A ca S w' (hS.later hb2) b hb
  have C8 : Hid (b = true → ∀ w', Below w.heap.size w w' → Calls Try.prog 16 #[.slice A S.length ca] w' fun e w2 => e = .returned (.int .i64 (qtot S)) ∧ Below w'.heap.size w' w2) := fun h w' hb2 => by
    have hR := hb.1 h
    exact KC A ca S w' (hS.later hb2) (fun r hr => by have := (hR.each r hr).1; omega) (by have := hR.tot; omega)
  have C9 : Hid (b = true → ∀ w', Below w.heap.size w w' → Calls Try.prog 17 #[.slice A S.length ca] w' fun e w2 => e = .returned (.int .i64 (qtot S)) ∧ Below w'.heap.size w' w2) := fun h w' hb2 => by
    have hR := hb.1 h
    exact oall_any A ca S w' (hS.later hb2) (fun r hr => by have := (hR.each r hr).1; omega) (by have := hR.tot; omega)
  have HX := Lib.hid hX
  have HALL : Hid (qallC p xs = if 1 ≤ p ∧ p ≤ 100 then qallG p [] xs else ([], 2)) := rfl
  clear hS hX hb KA KF KL KR KC
  obtain ⟨⟨SA, ea⟩, hqa⟩ : ∃ q, qaddC p S x = q := ⟨_, rfl⟩
  rw [hqa] at C1 C2
  obtain ⟨⟨fv, fe⟩, hqf⟩ : ∃ q, qfindC p S place = q := ⟨_, rfl⟩
  rw [hqf] at C3 C4
  obtain ⟨⟨AL, ei⟩, hql⟩ : ∃ q, qallC p xs = q := ⟨_, rfl⟩
  rw [hql] at C5 HALL
  unfold RPost at C1 C2 C5
  dsimp only at C1 C2 C3 C4 C5
  clear hqa hqf hql
  have f1 : (ea != ea) = false := by simp
  have f2 : (fe != fe) = false := by simp
  have f3 : (fv != fv) = false := by simp
  have HB0 : Hid (Below w.heap.size w w) := Below.refl _ _
  go_enter Try.func3, Try.ntmps3
  go_wp2_with fail
  refine (C1.out _ HB0.out).mono ?_
  rintro e w1 ⟨R1, c1, rfl, hP1, hb1⟩
  have HP1 := Lib.hid hP1
  have HB1 := Lib.hid hb1
  clear hP1 hb1 C1
  go_wp2_with fail
  refine (C2.out _ HB1.out).mono ?_
  rintro e w2 ⟨R2, c2, rfl, hP2, hb2⟩
  have HP2 := Lib.hid hP2
  have HP1b := Lib.hid (HP1.out.later hb2)
  have HB2 := Lib.hid (HB1.out.trans (hb2.mono HB1.out.size))
  clear hP2 hb2 C2 HP1 HB1
  go_wp2_with fail
  refine (C3.out _ HB2.out).mono ?_
  rintro e w3 ⟨rfl, hb3⟩
  have HP3 := Lib.hid (HP2.out.later hb3)
  have HP1c := Lib.hid (HP1b.out.later hb3)
  have HB3 := Lib.hid (HB2.out.trans (hb3.mono HB2.out.size))
  clear hb3 C3 HP2 HP1b HB2
  go_wp2_with fail
  refine (C4.out _ HB3.out).mono ?_
  rintro e w4 ⟨rfl, hb4⟩
  have HP4 := Lib.hid (HP3.out.later hb4)
  have HP1d := Lib.hid (HP1c.out.later hb4)
  have HB4 := Lib.hid (HB3.out.trans (hb4.mono HB3.out.size))
  clear hb4 C4 HP3 HP1c HB3
  go_wp2_with fail
  refine (C5.out _ HB4.out).mono ?_
  rintro e w5 ⟨R5, c5, rfl, hP5, hb5⟩
  have HA5 := Lib.hid hP5
  have HP5 := Lib.hid (HP4.out.later hb5)
  have HP1e := Lib.hid (HP1d.out.later hb5)
  have HB5 := Lib.hid (HB4.out.trans (hb5.mono HB4.out.size))
  clear hP5 hb5 C5 HP4 HP1d HB4
  go_wp2_with fail
  refine (C6.out _ HB5.out).mono ?_
  rintro e w6 ⟨rfl, hb6⟩
  have HA6 := Lib.hid (HA5.out.later hb6)
  have HP6 := Lib.hid (HP5.out.later hb6)
  have HP1f := Lib.hid (HP1e.out.later hb6)
  have HB6 := Lib.hid (HB5.out.trans (hb6.mono HB5.out.size))
  clear hb6 C6 HA5 HP5 HP1e HB5
  go_wp2_with fail
  refine (C7.out _ HB6.out).mono ?_
  rintro e w7 ⟨rfl, hb7⟩
  have HA7 := Lib.hid (HA6.out.later hb7)
  have HP7 := Lib.hid (HP6.out.later hb7)
  have HP1g := Lib.hid (HP1f.out.later hb7)
  have HB7 := Lib.hid (HB6.out.trans (hb7.mono HB6.out.size))
  clear hb7 HA6 HP6 HP1f HB6
  have f0 : (b != b) = false := by simp
  have CE := Lib.hid (rkequal_any R1 R2 c1 c2 SA SA w7 HP1g.out HP7.out)
  rw [decide_eq_true rfl] at CE
  -- BOTH
  go_wp2_with fail
  refine CE.out.mono ?_
  rintro e w8 ⟨rfl, hb8⟩
  have HA8 := Lib.hid (HA7.out.later hb8)
  have HB8 := Lib.hid (HB7.out.trans (hb8.mono HB7.out.size))
  clear hb8 HA7 HB7 CE HP7 HP1g
  go_wp2_with fail
  refine (C7.out _ HB8.out).mono ?_
  rintro e w8b ⟨rfl, hb8⟩
  have HA8b := Lib.hid (HA8.out.later hb8)
  have HB8b := Lib.hid (HB8.out.trans (hb8.mono HB8.out.size))
  clear hb8 HA8 HB8 C7
  cases b with
  | false =>
    have HA9 := Lib.hid HA8b.out
    have HB9 := Lib.hid HB8b.out
    obtain ⟨w9, hw9⟩ : ∃ w9, w9 = w8b := ⟨_, rfl⟩
    subst hw9
    clear HA8b HB8b C8 C9
    by_cases hp : 1 ≤ p ∧ p ≤ 100
    · have hp1 : ¬ p < 1 := by omega
      have hp2 : ¬ 100 < p := by omega
      rw [if_pos hp] at HALL
      have HSTART := Lib.hid HALL.out.symm
      clear HALL hp
      go_wp2_with fail
      obtain ⟨wz, hwz⟩ : ∃ wz, wz = w9 := ⟨_, rfl⟩
      subst hwz
      go_loopw [21, 115] (fun mv iv wr => ∃ (k : Nat) (R : Option Addr) (cr : Nat) (W : List Rk), k ≤ xs.length ∧ iv = .int .i64 k ∧ mv = .slice R W.length cr ∧ RP wr R cr W ∧ qallG p W (xs.drop k) = (AL, ei) ∧ Below wz.heap.size wz wr) (fun _ iv _ => xs.length - (intOf iv).toNat)
      case atStart => exact ⟨0, none, 0, [], by omega, rfl, rfl, RP.nil _, HSTART.out, Below.refl _ _⟩
      case round =>
        clear HSTART
        obtain ⟨k, R, cr, W, hk, rfl, rfl, hW, hG, hD⟩ := hrel
        have HW := Lib.hid hW
        have HG := Lib.hid hG
        have HD := Lib.hid hD
        have hwl := hW.le
        have hwc := hW.cap
        have HBD := Lib.hid (HB9.out.trans (hD.mono HB9.out.size))
        clear hW hG hD
        by_cases hlt : k < xs.length
        · obtain ⟨bx, ox, rfl, _, hcell⟩ := (HX.out.later HBD.out).il.at (by omega)
          have hc := hcell k hlt
          have hki : (k : Int) < (xs.length : Int) := by omega
          have ED : Hid (xs.drop k = xs.getD k 0 :: xs.drop (k + 1)) := by
            show _ = _
            rw [List.drop_eq_getElem_cons hlt]
            simp [List.getD_eq_getElem?_getD, hlt]
          rw [ED.out] at HG
          clear hcell ED
          generalize xs.getD k 0 = y at *
          have K1 := Lib.hid (oadd_any p R cr W y wr HW.out)
          have HG2 : Hid ((if (qaddC p W y).2 = 0 then qallG p (qaddC p W y).1 (xs.drop (k + 1)) else ([], (qaddC p W y).2)) = (AL, ei)) := HG.out
          clear HG
          obtain ⟨⟨W2, j⟩, hqw⟩ : ∃ q, qaddC p W y = q := ⟨_, rfl⟩
          rw [hqw] at K1 HG2
          unfold RPost at K1
          dsimp only at K1 HG2
          clear hqw
          go_wp2_with fail
          refine K1.out.mono ?_
          rintro e w10 ⟨R10, c10, rfl, hP10, hb10⟩
          have HP10 := Lib.hid hP10
          have HD10 := Lib.hid (HD.out.trans (hb10.mono HD.out.size))
          clear hP10 hb10 K1
          by_cases hj : j = 0
          · rw [if_pos hj] at HG2
            subst hj
            go_wp2
            go_roundw
            case rel => exact ⟨k + 1, R10, c10, W2, by omega, by go_num, rfl, HP10.out, HG2.out, HD10.out⟩
            case measure => simp [intOf]; omega
          · rw [if_neg hj] at HG2
            have hg := HG2.out
            injection hg with hg1 hg2
            subst hg1 hg2
            have dj : (j != 0) = true := by rw [bne_iff_ne]; exact hj
            have djj : (j == j) = true := by simp
            have HBF := Lib.hid (HB9.out.trans (HD10.out.mono HB9.out.size))
            clear hj
            go_wp2
            go_ret
            exact ⟨rfl, HBF.out⟩
        · obtain rfl : k = xs.length := by omega
          rw [List.drop_length] at HG
          have hg := HG.out
          unfold qallG at hg
          injection hg with hg1 hg2
          subst hg1 hg2
          have CF := Lib.hid (rkequal_any R5 R c5 cr W W wr (HA9.out.later HD.out) HW.out)
          rw [decide_eq_true rfl] at CF
          go_wp2_with fail
          refine CF.out.mono ?_
          rintro e w11 ⟨rfl, hb11⟩
          have HBF := Lib.hid (HBD.out.trans (hb11.mono HBD.out.size))
          clear hb11
          go_wp2
          go_ret
          exact ⟨rfl, HBF.out⟩
    · rw [if_neg hp] at HALL
      have hg := HALL.out
      injection hg with hg1 hg2
      subst hg1 hg2
      by_cases hp1 : p < 1
      · clear hp
        go_wp2
        go_ret
        exact ⟨rfl, HB9.out⟩
      · have hp2 : 100 < p := by omega
        clear hp
        go_wp2
        go_ret
        exact ⟨rfl, HB9.out⟩
  | true =>
    go_wp2_with fail
    refine (C8.out (by simp) _ HB8b.out).mono ?_
    rintro e w8c ⟨rfl, hb8⟩
    have HA8c := Lib.hid (HA8b.out.later hb8)
    have HB8c := Lib.hid (HB8b.out.trans (hb8.mono HB8b.out.size))
    clear hb8 HA8b HB8b C8
    go_wp2_with fail
    refine (C9.out (by simp) _ HB8c.out).mono ?_
    rintro e w9 ⟨rfl, hb9⟩
    have HA9 := Lib.hid (HA8c.out.later hb9)
    have HB9 := Lib.hid (HB8c.out.trans (hb9.mono HB8c.out.size))
    have f4 : (qtot S != qtot S) = false := by simp
    clear hb9 HA8c HB8c C9
    by_cases hp : 1 ≤ p ∧ p ≤ 100
    · have hp1 : ¬ p < 1 := by omega
      have hp2 : ¬ 100 < p := by omega
      rw [if_pos hp] at HALL
      have HSTART := Lib.hid HALL.out.symm
      clear HALL hp
      go_wp2_with fail
      obtain ⟨wz, hwz⟩ : ∃ wz, wz = w9 := ⟨_, rfl⟩
      subst hwz
      go_loopw [21, 115] (fun mv iv wr => ∃ (k : Nat) (R : Option Addr) (cr : Nat) (W : List Rk), k ≤ xs.length ∧ iv = .int .i64 k ∧ mv = .slice R W.length cr ∧ RP wr R cr W ∧ qallG p W (xs.drop k) = (AL, ei) ∧ Below wz.heap.size wz wr) (fun _ iv _ => xs.length - (intOf iv).toNat)
      case atStart => exact ⟨0, none, 0, [], by omega, rfl, rfl, RP.nil _, HSTART.out, Below.refl _ _⟩
      case round =>
        clear HSTART
        obtain ⟨k, R, cr, W, hk, rfl, rfl, hW, hG, hD⟩ := hrel
        have HW := Lib.hid hW
        have HG := Lib.hid hG
        have HD := Lib.hid hD
        have hwl := hW.le
        have hwc := hW.cap
        have HBD := Lib.hid (HB9.out.trans (hD.mono HB9.out.size))
        clear hW hG hD
        by_cases hlt : k < xs.length
        · obtain ⟨bx, ox, rfl, _, hcell⟩ := (HX.out.later HBD.out).il.at (by omega)
          have hc := hcell k hlt
          have hki : (k : Int) < (xs.length : Int) := by omega
          have ED : Hid (xs.drop k = xs.getD k 0 :: xs.drop (k + 1)) := by
            show _ = _
            rw [List.drop_eq_getElem_cons hlt]
            simp [List.getD_eq_getElem?_getD, hlt]
          rw [ED.out] at HG
          clear hcell ED
          generalize xs.getD k 0 = y at *
          have K1 := Lib.hid (oadd_any p R cr W y wr HW.out)
          have HG2 : Hid ((if (qaddC p W y).2 = 0 then qallG p (qaddC p W y).1 (xs.drop (k + 1)) else ([], (qaddC p W y).2)) = (AL, ei)) := HG.out
          clear HG
          obtain ⟨⟨W2, j⟩, hqw⟩ : ∃ q, qaddC p W y = q := ⟨_, rfl⟩
          rw [hqw] at K1 HG2
          unfold RPost at K1
          dsimp only at K1 HG2
          clear hqw
          go_wp2_with fail
          refine K1.out.mono ?_
          rintro e w10 ⟨R10, c10, rfl, hP10, hb10⟩
          have HP10 := Lib.hid hP10
          have HD10 := Lib.hid (HD.out.trans (hb10.mono HD.out.size))
          clear hP10 hb10 K1
          by_cases hj : j = 0
          · rw [if_pos hj] at HG2
            subst hj
            go_wp2
            go_roundw
            case rel => exact ⟨k + 1, R10, c10, W2, by omega, by go_num, rfl, HP10.out, HG2.out, HD10.out⟩
            case measure => simp [intOf]; omega
          · rw [if_neg hj] at HG2
            have hg := HG2.out
            injection hg with hg1 hg2
            subst hg1 hg2
            have dj : (j != 0) = true := by rw [bne_iff_ne]; exact hj
            have djj : (j == j) = true := by simp
            have HBF := Lib.hid (HB9.out.trans (HD10.out.mono HB9.out.size))
            clear hj
            go_wp2
            go_ret
            exact ⟨rfl, HBF.out⟩
        · obtain rfl : k = xs.length := by omega
          rw [List.drop_length] at HG
          have hg := HG.out
          unfold qallG at hg
          injection hg with hg1 hg2
          subst hg1 hg2
          have CF := Lib.hid (rkequal_any R5 R c5 cr W W wr (HA9.out.later HD.out) HW.out)
          rw [decide_eq_true rfl] at CF
          go_wp2_with fail
          refine CF.out.mono ?_
          rintro e w11 ⟨rfl, hb11⟩
          have HBF := Lib.hid (HBD.out.trans (hb11.mono HBD.out.size))
          clear hb11
          go_wp2
          go_ret
          exact ⟨rfl, HBF.out⟩
    · rw [if_neg hp] at HALL
      have hg := HALL.out
      injection hg with hg1 hg2
      subst hg1 hg2
      by_cases hp1 : p < 1
      · clear hp
        go_wp2
        go_ret
        exact ⟨rfl, HB9.out⟩
      · have hp2 : 100 < p := by omega
        clear hp
        go_wp2
        go_ret
        exact ⟨rfl, HB9.out⟩
end Go.Proofs.Ytimcbeblmicioaa
