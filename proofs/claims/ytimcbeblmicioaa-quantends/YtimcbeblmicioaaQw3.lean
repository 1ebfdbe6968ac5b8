/- lotdrawerkeep.QuantEnds, out of contracts. -/
import Derived.Test.YtimcbeblmicioaaQw1
import Derived.Test.YtimcbeblmicioaaQw2
import Derived.Deep.RegionHeld3
namespace Go.Proofs.Ytimcbeblmicioaa
open Go.RowKit Go.Deep

theorem getLast_rat {S : List Rk} (h : 0 < S.length) : S.getLast? = some (rat S (S.length - 1)) := by
  rw [List.getLast?_eq_getElem?]
  unfold rat
  rw [List.getD_eq_getElem?_getD, List.getElem?_eq_getElem (by omega)]
  rfl
theorem head_rat {S : List Rk} (h : 0 < S.length) : ∃ l, S = rat S 0 :: l := by
  cases S with
  | nil => simp at h
  | cons a l => exact ⟨l, rfl⟩

set_option maxRecDepth 100000 in
set_option maxHeartbeats 2000000 in
theorem quantEnds_walk (KF : CtFind) (KL : CtAll) (KR : CtRight) (KC : CtCount) (p : Int) (X : Option Addr) (cx : Nat) (xs : List Int) (w : World) (hX : IP w X cx xs) :
    Calls Try.prog 5 #[.int .i64 p, .slice X xs.length cx] w fun e w' => e = .returned (.bool true) ∧ Below w.heap.size w w' := by
  have CA := Lib.hid (alive15_any KF KL KR KC)
  have C1 : Hid (∀ w', Below w.heap.size w w' → Calls Try.prog 12 #[.int .i64 p, .slice X xs.length cx] w' (RPost w' (qallC p xs))) := fun w' hb => KL p X cx xs w' (hX.later hb)
  have hlx := hX.le
  have hcx := hX.cap
  have HX := Lib.hid hX
  unfold RPost at C1
  by_cases he : (qallC p xs).2 = 0
  · by_cases h0 : xs.length = 0
    · obtain rfl : xs = [] := List.eq_nil_of_length_eq_zero h0
      have hI := qallC_inv he
      have hnil : (qallC p []).1.length = 0 := by
        have hr := hI.tot
        have hg := hI.right.each
        obtain ⟨S, hS⟩ : ∃ S, (qallC p []).1 = S := ⟨_, rfl⟩
        rw [hS] at hr hg ⊢
        cases S with
        | nil => rfl
        | cons a l =>
          have h1 := (hg a (List.mem_cons_self ..)).1
          have h2 := qtot_nonneg (S := l) (fun y hy => by have := (hg y (List.mem_cons_of_mem _ hy)).1; omega)
          simp [qtot] at hr
          omega
      obtain ⟨⟨AL, ei⟩, hq⟩ : ∃ q, qallC p [] = q := ⟨_, rfl⟩
      rw [hq] at C1 he hnil
      dsimp only at C1 he hnil
      subst he
      clear hq hI h0
      go_enter Try.func5, Try.ntmps5
      go_wp2_with fail
      refine (CA.out _).mono ?_
      rintro e w1 ⟨rfl, hb⟩
      have HB1 := Lib.hid hb
      clear hb
      go_wp2_with fail
      refine (C1.out _ HB1.out).mono ?_
      rintro e w2 ⟨R, c, rfl, hP, hb⟩
      have HB2 := Lib.hid (HB1.out.trans (hb.mono HB1.out.size))
      clear hb hP
      go_wp2
      go_ret
      exact ⟨rfl, HB2.out⟩
    · have hI := qallC_inv he
      have hne := hI.ne (by intro e; rw [e] at h0; exact h0 rfl)
      have hlen : 0 < (qallC p xs).1.length := List.length_pos_iff.2 hne
      obtain ⟨l, hl⟩ := head_rat hlen
      have hlast := hI.greatest (getLast_rat hlen)
      have hfirst : (rat (qallC p xs).1 0).n ∈ xs ∧ ∀ y ∈ xs, (rat (qallC p xs).1 0).n ≤ y := by
        have h2 := hI
        rw [hl] at h2
        exact h2.least
      have htot := hI.tot
      have hR := hI.right
      obtain ⟨⟨AL, ei⟩, hq⟩ : ∃ q, qallC p xs = q := ⟨_, rfl⟩
      rw [hq] at C1 he hlen hlast hfirst htot hR
      dsimp only at C1 he hlen hlast hfirst htot hR
      subst he
      have HF := Lib.hid hfirst
      have HZ := Lib.hid hlast
      have KC1 : Hid (∀ A ca w', RP w' A ca AL → Calls Try.prog 16 #[.slice A AL.length ca] w' fun e w2 => e = .returned (.int .i64 (xs.length : Int)) ∧ Below w'.heap.size w' w2) := fun A ca w' h => by
        have := KC A ca AL w' h (fun r hr => by have := (hR.each r hr).1; omega) (by have := hR.tot; omega)
        rw [htot] at this
        exact this
      have KR1 : Hid (∀ A ca w', RP w' A ca AL → Calls Try.prog 13 #[.int .i64 p, .slice A AL.length ca] w' fun e w2 => e = .returned (.bool true) ∧ Below w'.heap.size w' w2) := fun A ca w' h => KR p A ca AL w' true h ⟨fun _ => hR, fun _ => rfl⟩
      have h0z : ((xs.length : Int) == 0) = false := eqz_no h0
      clear hq hI hl hlast hfirst htot hR KF KL KR KC
      have C2 : Hid (∀ w', Below w.heap.size w w' → Calls Try.prog 21 #[.slice X xs.length cx] w' fun e w2 => e = .returned (.int .i64 (rat AL 0).n) ∧ w2 = w') := fun w' hb => (min_any X cx xs w' (HX.out.later hb) (by omega)).mono fun e w2 h => by
        obtain ⟨⟨m, h1, h2, h3⟩, h4⟩ := h
        have e1 := HF.out.2 m h2
        have e2 := h3 _ HF.out.1
        exact ⟨by rw [h1, show m = (rat AL 0).n by omega], h4⟩
      have C3 : Hid (∀ w', Below w.heap.size w w' → Calls Try.prog 22 #[.slice X xs.length cx] w' fun e w2 => e = .returned (.int .i64 (rat AL (AL.length - 1)).n) ∧ w2 = w') := fun w' hb => (max_any X cx xs w' (HX.out.later hb) (by omega)).mono fun e w2 h => by
        obtain ⟨⟨m, h1, h2, h3⟩, h4⟩ := h
        have e1 := HZ.out.2 m h2
        have e2 := h3 _ HZ.out.1
        exact ⟨by rw [h1, show m = (rat AL (AL.length - 1)).n by omega], h4⟩
      obtain ⟨z, hz⟩ : ∃ z, AL.length - 1 = z := ⟨_, rfl⟩
      have hzi : (AL.length : Int) - 1 = (z : Int) := by omega
      have hzl : (z : Int) < (AL.length : Int) := by omega
      have hzn : z < AL.length := by omega
      have h0l : (0 : Int) < (AL.length : Int) := by omega
      rw [hz] at C3
      clear HF HZ hz
      go_enter Try.func5, Try.ntmps5
      go_wp2_with fail
      refine (CA.out _).mono ?_
      rintro e w1 ⟨rfl, hb⟩
      have HB1 := Lib.hid hb
      clear hb
      go_wp2_with fail
      refine (C1.out _ HB1.out).mono ?_
      rintro e w2 ⟨R, c, rfl, hP, hb⟩
      have HB2 := Lib.hid (HB1.out.trans (hb.mono HB1.out.size))
      have HP := Lib.hid hP
      obtain ⟨g, o, rfl, hg, hcell⟩ := hP.il hlen
      have c0 := (hcell 0 hlen).1
      have cz := (hcell z hzn).1
      simp only [Nat.zero_mul, Nat.add_zero] at c0
      have hle := hP.le
      have hca := hP.cap
      clear hb hP hcell C1 CA HB1
      generalize (rat AL 0).n = u at *
      generalize (rat AL z).n = v at *
      have d0 : w2.drew.cell? ⟨g, o, none⟩ = some (.int .i64 u) := c0
      have dz : w2.drew.cell? ⟨g, o + z * 3, none⟩ = some (.int .i64 v) := cz
      have hgd : g < w2.drew.heap.size := hg
      have D := Lib.hid (And.intro hgd (And.intro d0 dz))
      have HPD := Lib.hid (HP.out.later (Below.refl _ w2).drew)
      have HBD : Hid (Below w.heap.size w w2.drew) := HB2.out.drew
      have K2 := Lib.hid (C2.out w2.drew HBD.out)
      have K3 := Lib.hid (C3.out w2.drew HBD.out)
      have K4 := Lib.hid (KC1.out _ _ w2.drew HPD.out)
      have f1 : (u == u) = true := by simp
      have f2 : (v == v) = true := by simp
      have f3 : ((xs.length : Int) == (xs.length : Int)) = true := by simp
      clear d0 dz hgd C2 C3 KC1
      have g1 : decide ((0 : Int) < (AL.length : Int)) = true := decide_eq_true h0l
      have g2 : decide (0 < AL.length) = true := decide_eq_true hlen
      have wq : IntKind.i64.wrap ((AL.length : Int) - 1) = (z : Int) := by rw [hzi]; exact IntWalk.i64_in _ (by omega)
      have wq2 : IntKind.i64.wrap (z : Int) = (z : Int) := IntWalk.i64_in _ (by omega)
      go_wp2_with fail
      go_region_held3 (fun w' => w'.cell? ⟨g, o, none⟩ = some (.int .i64 u) ∧ w'.cell? ⟨g, o + z * 3, none⟩ = some (.int .i64 v)) (go_keep)
        (first
          | (go_at_call 21; refine K2.out.mono ?_; rintro e wa ⟨rfl, rfl⟩)
          | (go_at_call 22; refine K3.out.mono ?_; rintro e wa ⟨rfl, rfl⟩)
          | (go_at_call 16; refine K4.out.mono ?_; rintro e w3 ⟨rfl, hb3⟩; have d0 := (hb3.cell (p := ⟨g, o, none⟩) D.out.1).trans D.out.2.1; have dz := (hb3.cell (p := ⟨g, o + z * 3, none⟩) D.out.1).trans D.out.2.2; have HP3 := Lib.hid (HPD.out.later hb3); have HB3 := Lib.hid (HBD.out.trans (hb3.mono HBD.out.size)); have hg3 := Lib.hid (Nat.lt_of_lt_of_le D.out.1 hb3.size); clear hb3)
          | (go_at_call 13; refine (KR1.out _ _ w3 HP3.out).mono ?_; rintro e w4 ⟨rfl, hb4⟩; have e0 := (hb4.cell (p := ⟨g, o, none⟩) hg3.out).trans d0; have ez := (hb4.cell (p := ⟨g, o + z * 3, none⟩) hg3.out).trans dz; have HB4 := Lib.hid (HB3.out.trans (hb4.mono HB3.out.size)); clear hb4))
      go_wp2
      go_ret
      exact ⟨rfl, HB4.out⟩
  · have hnil := qallC_bad he
    obtain ⟨⟨AL, ei⟩, hq⟩ : ∃ q, qallC p xs = q := ⟨_, rfl⟩
    rw [hq] at C1 he hnil
    dsimp only at C1 he hnil
    subst hnil
    have hei : (ei != 0) = true := by rw [bne_iff_ne]; exact he
    clear hq he
    go_enter Try.func5, Try.ntmps5
    go_wp2_with fail
    refine (CA.out _).mono ?_
    rintro e w1 ⟨rfl, hb⟩
    have HB1 := Lib.hid hb
    clear hb
    go_wp2_with fail
    refine (C1.out _ HB1.out).mono ?_
    rintro e w2 ⟨R, c, rfl, hP, hb⟩
    have HB2 := Lib.hid (HB1.out.trans (hb.mono HB1.out.size))
    clear hb hP
    go_wp2
    go_ret
    exact ⟨rfl, HB2.out⟩
end Go.Proofs.Ytimcbeblmicioaa
